/- The statement EdgeNone, walked: it answers true. Condition: no slice of the program is longer than any machine's memory. -/
import Derived.Test.YtnoknodijombpaaDoorPhDY
import Derived.Deep.CutRange
set_option linter.unusedSimpArgs false
set_option linter.unusedVariables false
namespace Go.Proofs.YtnoknodijombpaaDoor
open Go.RowKit

/-- What a block's last instruction is, and where what was split leads. -/
theorem last_cases {p : List FunV} {f : FunV} (hp : progB4 p = true) (hf : f ∈ p) {b : Nat} {l : List InsV} {x : InsV} (hl : f.blocks[b]? = some l) (hx : l[l.length - 1]? = some x) :
    (x.op = 21 ∧ thrN (splitF f) (tgt f.blocks.length (critN f) b x.n) f.blocks.length = x.n) ∨ (x.op = 22 ∧ thrN (splitF f) (tgt f.blocks.length (critN f) b x.n) f.blocks.length = x.n ∧ thrN (splitF f) (tgt f.blocks.length (critN f) b x.m) f.blocks.length = x.m) ∨ x.op = 23 := by
  obtain ⟨-, -, -, hall⟩ := prog_parts hp
  obtain ⟨-, -, -, ⟨-, -, h4⟩, -⟩ := fun_parts (hall f hf)
  have hok := (flowOk_of hp f hf).1
  have he := ends_at (h4 l (List.mem_of_getElem? hl)).2.2 hx
  rw [decide_eq_true rfl] at he
  have hn := (nxt_old hok hl hx).2
  have hr : ∀ v, v ∈ nextL x → 0 ≤ v ∧ v < (f.blocks.length : Int) := fun v hv => hok.2.2 b v (by rw [hn]; exact hv)
  unfold lastB at he
  simp only [Bool.or_eq_true, beq_iff_eq] at he
  rcases he with he | he | he
  · exact .inl ⟨he, thr_tgt hok (.inl (hr x.n (nextL_in.2 (.inl ⟨he, rfl⟩))))⟩
  · exact .inr (.inl ⟨he, thr_tgt hok (.inl (hr x.n (nextL_in.2 (.inr ⟨he, .inl rfl⟩)))), thr_tgt hok (.inl (hr x.m (nextL_in.2 (.inr ⟨he, .inr rfl⟩))))⟩)
  · exact .inr (.inr he)
/-- Two boxes made at once. -/
theorem twoB (w : World) (a b : Array Value) (T : TypeId) : Box ((w.alloc (.cells a T)).alloc (.cells b T)).drew w.heap.size a T ∧ Box ((w.alloc (.cells a T)).alloc (.cells b T)).drew (w.heap.size + 1) b T ∧ Below w.heap.size w ((w.alloc (.cells a T)).alloc (.cells b T)).drew := by
  refine ⟨(Box.new w a T).alloc _, ?_, below_drewN (alloc2 w _ _) 1⟩
  have t := Box.new (w.alloc (.cells a T)) b T
  rw [World.size_alloc] at t
  exact t
set_option maxHeartbeats 4000000 in
set_option maxRecDepth 100000 in
theorem none_law (vp : Value) (p : List FunV) (w : World) (hT : TabP w) (hp : FunsV w (· < w.heap.size) vp p) (hsz : progSize p) :
    Calls Tryd.prog 3 #[.agg #[vp]] w fun e w' => e = .returned (.bool true) ∧ Below w.heap.size w w' := by
  have HTAB := hide (fun (W : World) (hW : Below w.heap.size w W) => hT.below hW hT.1)
  have HKP := hide (fun (W : World) (hW : Below w.heap.size w W) => hp.keep (up hW (Nat.le_refl _)) (fun _ h => h))
  have HOUT := hide (fun (W : World) (hW : Below w.heap.size w W) => out13_any vp p W w.heap.size hW.size (hp.keep (up hW (Nat.le_refl _)) (fun _ h => h)) hsz)
  have HALLOK := hide (fun (h : progB4 p = true ∧ progFew p) => @eOk_of p h.1)
  obtain ⟨A, c, rfl, hpc, hpm⟩ := hp.open'
  obtain ⟨lp, hlp⟩ : ∃ lp, p.length = lp := ⟨_, rfl⟩
  have HLP := hide hlp
  rw [hlp] at HKP HOUT hpc ⊢
  clear hp hsz hlp hT
  go_enter Tryd.func3, Tryd.ntmps3
  go_upto_region 1 with (fail)
  obtain ⟨w0, hw0⟩ : ∃ w0, w0 = w.alloc (.cells #[.slice A lp c] 24) := ⟨_, rfl⟩
  have HX0 := hide (show Box w0 w.heap.size #[.slice A lp c] 24 by rw [hw0]; exact Box.new w _ _)
  have HB0 := hide (show Below w.heap.size w w0 by rw [hw0]; exact alloc1 w _)
  rw [← hw0]
  clear hw0
  go_upto_region 3 with (go_at_call 4; refine (alive13_any w0).mono ?_; rintro e w1 ⟨rfl, hb1⟩; have HX1 := hide (HX0.out.below hb1); have HC1 := hide (HB0.out.trans (hb1.mono HB0.out.size)); clear hb1)
  have x1 := (HX1.out.cell 0 (v := .slice A lp c) rfl).1
  have l1 := HX1.out.lt
  go_upto_region 5 with (go_at_call 5; refine (HOUT.out w1 HC1.out).mono ?_; rintro e w2 ⟨b1, rfl, hs2, hb2⟩; have HB2 := hide (HC1.out.trans (hb2.mono HC1.out.size)); have HX2 := hide (HX1.out.below hb2); have HS2 := hide hs2; clear x1 hb2 hs2)
  all_goals try (go_ret; exact ⟨rfl, HB2.out⟩)
  have hb1f : b1 = false := by first | assumption | exact Bool.eq_false_iff.2 (by assumption)
  subst hb1f
  have HPB := hide (HS2.out.out rfl)
  have HOKS := hide (HALLOK.out (HS2.out.out rfl))
  clear HOUT HALLOK HS2 HC1 HX1 l1
  have HLN := hide (show lp ≤ 100000 from by have h1 := HPB.out.1; unfold progB4 at h1; rw [Bool.and_eq_true] at h1; have := inB_iff.1 h1.1; have := HLP.out; omega)
  have HWH := hide (show Calls Tryd.prog 6 #[.agg #[.slice A lp c]] w2 (WhA p w2) from ewhole_any _ p w2 w.heap.size HB2.out.size (HKP.out w2 HB2.out) (fun f hf => (HOKS.out f hf).sok) (by rw [HLP.out]; exact HLN.out))
  have x2 := (HX2.out.cell 0 (v := .slice A lp c) rfl).1
  have l2 := HX2.out.lt
  cases hall : p.all fitsB with
  | false =>
    have HALL := hide hall
    go_upto_region 6 with (go_at_call 6; (with_reducible refine HWH.out.mono ?_); rintro e w3 ⟨-, h3⟩; obtain ⟨rfl, hb3⟩ := h3 HALL.out; have HB3 := hide (HB2.out.trans (hb3.mono HB2.out.size)); clear hb3 h3)
    have HB4 := hide (fun (o : Obj) => (HB3.out.alloc HB3.out.size o : Below w.heap.size w (w3.alloc o)))
    go_wp2
    go_ret
    exact ⟨rfl, HB4.out _⟩
  | true =>
    have HALL := hide hall
    have HQL := hide (show (p.map splitF).length = lp by rw [List.length_map, HLP.out])
    go_upto_region 6 with (go_at_call 6; (with_reducible refine HWH.out.mono ?_); rintro e w3 ⟨h3, -⟩; obtain ⟨v3, rfl, hq3, hb3⟩ := h3 HALL.out; obtain ⟨A3, c3, hv3, hc3, hm3⟩ := hq3.open'; rw [HQL.out] at hv3 hc3; subst hv3; have HQ3 := hide hq3; have HB23 := hide hb3; have HB3 := hide (HB2.out.trans (hb3.mono HB2.out.size)); clear hb3 h3 hq3)
    obtain ⟨w4, hw4⟩ : ∃ w4, w4 = w3.alloc (.cells #[.slice A3 lp c3] 24) := ⟨_, rfl⟩
    obtain ⟨h4, hh4⟩ : ∃ h4, w3.heap.size = h4 := ⟨_, rfl⟩
    have HX4 := hide (show Box w4 h4 #[.slice A3 lp c3] 24 by rw [hw4, ← hh4]; exact Box.new w3 _ _)
    have HB34 := hide (show Below w3.heap.size w3 w4 by rw [hw4]; exact alloc1 w3 _)
    have HQ4 := hide (show FunsV w4 (· < w4.heap.size) (.slice A3 lp c3) (p.map splitF) from HQ3.out.keep (up HB34.out (Nat.le_refl _)) (fun b hb => Nat.lt_of_lt_of_le hb HB34.out.size))
    have HB4 := hide (show Below w.heap.size w w4 from HB3.out.trans (HB34.out.mono HB3.out.size))
    have HXP := hide ((HX2.out.below HB23.out).below HB34.out)
    rw [← hw4, hh4]
    clear hw4 hh4 x2 l2
    have HCK := hide (show Calls Tryd.prog 7 #[.agg #[.slice A3 lp c3]] w4 fun e w' => e = .returned (.int .i64 0) ∧ Below w4.heap.size w4 w' from by
      have hf := List.all_eq_true.1 HALL.out
      have h := check_any (.slice A3 lp c3) (p.map splitF) w4 w4.heap.size (Nat.le_refl _) (HTAB.out w4 HB4.out) HQ4.out (progFew_split HPB.out.2 HOKS.out)
      rw [show chkN4 (p.map splitF) = 0 by unfold chkN4; rw [if_pos (progB4_split HPB.out.1 HOKS.out hf)]] at h
      exact h)
    have x4 := (HX4.out.cell 0 (v := .slice A3 lp c3) rfl).1
    have l4 := HX4.out.lt
    go_upto_region 10 with (go_at_call 7; refine HCK.out.mono ?_; rintro e w5 ⟨rfl, hb5⟩; have HX5 := hide (HX4.out.below hb5); have HP5 := hide (HXP.out.below hb5); have HC45 := hide hb5; have HB5 := hide (HB4.out.trans (hb5.mono HB4.out.size)); clear hb5 x4 l4)
    go_wp2
    go_loopw [5] (fun i wr => ∃ k : Nat, k ≤ lp ∧ i = .int .i64 k ∧ Below w5.heap.size w5 wr) (fun i _ => lp - (intOf i).toNat)
    case atStart => exact ⟨0, Nat.zero_le _, rfl, Below.refl _ _⟩
    case round =>
      obtain ⟨k, hk, rfl, hb'⟩ := hrel
      obtain ⟨wo, rfl⟩ : ∃ wo, wo = wr := ⟨_, rfl⟩
      have hszo := hb'.size
      have HBEL := hide (HB5.out.trans (hb'.mono HB5.out.size))
      have HB4O := hide (HC45.out.trans (hb'.mono HC45.out.size))
      have HXO := hide (HX5.out.below hb')
      have HPO := hide (HP5.out.below hb')
      have HBW := hide hb'
      have xq := (HXO.out.cell 0 (v := .slice A3 lp c3) rfl).1
      have lxq := HXO.out.lt
      clear hb'
      by_cases hlt : k < lp
      case neg =>
        go_wp2
        go_ret
        exact ⟨rfl, HBEL.out⟩
      have HLT := hide hlt
      obtain ⟨f, hf⟩ : ∃ f, p[k]? = some f := ⟨_, List.getElem?_eq_getElem (by have := HLP.out; omega)⟩
      have hfm := List.mem_of_getElem? hf
      have hfit : fitsB f = true := List.all_eq_true.1 HALL.out f hfm
      have hso := (HOKS.out f hfm).sok
      have HLC := hide (fun (b : Nat) (l : List InsV) (x : InsV) (hl : f.blocks[b]? = some l) (hx : l[l.length - 1]? = some x) => last_cases HPB.out.1 hfm hl hx)
      have HOLD := hide (fun (b : Nat) (l : List InsV) (hl : f.blocks[b]? = some l) => split_old hso.flow hl)
      obtain ⟨fg, hfg⟩ : ∃ fg, splitF f = fg := ⟨_, rfl⟩
      have hg : (p.map splitF)[k]? = some fg := by rw [List.getElem?_map, hf, ← hfg]; rfl
      have hsg : SOk fg := by rw [← hfg]; exact hso.split hfit
      have hlen : fg.blocks.length = f.blocks.length + (critN f).length := by rw [← hfg]; exact split_len hso.flow
      have hcr : critN fg = [] := by rw [← hfg]; exact split_none hso.flow
      have hkk : fg.kinds.length = f.kinds.length ∧ fg.base.length = f.base.length ∧ fg.params = f.params ∧ fg.result = f.result := by rw [← hfg]; exact ⟨rfl, rfl, rfl, rfl⟩
      have HQO := hide (HQ4.out.keep (up HB4O.out (Nat.le_refl _)) (fun _ h => h) : FunsV wo (· < w4.heap.size) _ _)
      obtain ⟨b, o, Ak, ck, Ab, cb, As, cs, hA, hbb, ⟨e0, e1, e2, e3, e4⟩, hi⟩ := (HKP.out wo HBEL.out).get hf
      subst hA
      obtain ⟨b', o', Gk, hk', Gb, hb', Gs, hs', hA', hbb', ⟨q0, q1, q2, q3, q4⟩, hi'⟩ := HQO.out.get hg
      subst hA'
      have hbs : b < wo.heap.size := by have := HBEL.out.size; omega
      have hbs' : b' < wo.heap.size := by have : b' < w4.heap.size := hbb'; have := HB4O.out.size; omega
      have kG := fun (W : World) (hW : Below wo.heap.size wo W) => hi'.keep (w := wo) (S := (· < w4.heap.size)) (up hW HB4O.out.size) (fun _ h => h)
      have kF := fun (W : World) (hW : Below wo.heap.size wo W) => hi.keep (w := wo) (S := (· < w.heap.size)) (up hW HBEL.out.size) (fun _ h => h)
      have hsW : ∀ W : World, Below wo.heap.size wo W → w4.heap.size ≤ W.heap.size := fun W hW => by have := hW.size; have := HB4O.out.size; omega
      have HCR := hide (fun (W : World) (hW : Below wo.heap.size wo W) => (show Calls Tryd.prog 8 #[.agg #[.slice Gk fg.kinds.length hk', .slice Gb fg.base.length hb', .int .i64 fg.params, .int .i64 fg.result, .slice Gs fg.blocks.length hs']] W fun e w' => ∃ A c, e = .returned (.slice A 0 c) ∧ Below W.heap.size W w' from
        (ecritical_any _ _ _ fg W w4.heap.size (hsW W hW) (kG W hW) hsg.flow hsg.one).mono fun e w' ⟨A, c, h1, h2, h3, h4, h5, h6⟩ => by
          rw [hcr] at h1
          exact ⟨A, c, h1, h6⟩))
      have HTH := hide (fun (W : World) (hW : Below wo.heap.size wo W) (z : Int) => through_any _ _ _ fg z f.blocks.length W w4.heap.size (hsW W hW) (kG W hW) (fun l hl => (hsg.code l hl).1))
      have HFB := hide (fun (W : World) (hW : Below wo.heap.size wo W) => (kF W hW).2.2.1)
      have HGB := hide (fun (W : World) (hW : Below wo.heap.size wo W) => (kG W hW).2.2.1)
      have HNE := hide (fun (l : List InsV) (hl : l ∈ f.blocks) => And.intro (hso.code l hl).1 (hso.code l hl).2.1)
      rw [hkk.1, hkk.2.1, hkk.2.2.1, hkk.2.2.2] at HCR HTH
      rw [hkk.1] at q0
      rw [hkk.2.1] at q1
      rw [hkk.2.2.1] at q2
      rw [hkk.2.2.2] at q3
      obtain ⟨ls, hls⟩ : ∃ ls, f.blocks.length = ls := ⟨_, rfl⟩
      obtain ⟨gl, hgl⟩ : ∃ gl, fg.blocks.length = gl := ⟨_, rfl⟩
      have HLS := hide hls
      have HFG := hide hfg
      have hls40 : ls ≤ 40 := by rw [← hls]; exact hso.flow.1
      have hgls : ls ≤ gl := by rw [← hls, ← hgl, hlen]; omega
      rw [hls] at HTH HFB e4
      rw [hgl] at HCR HTH HGB q4
      generalize f.kinds.length = lk, f.base.length = lb, f.params = fp, f.result = fr at *
      have hki : (0 : Int) ≤ (k : Int) := by omega
      have hkl : (k : Int) < (lp : Int) := by omega
      obtain ⟨hk2, hk2e⟩ : ∃ z, hk' = z := ⟨_, rfl⟩
      obtain ⟨hb2, hb2e⟩ : ∃ z, hb' = z := ⟨_, rfl⟩
      obtain ⟨hs2, hs2e⟩ : ∃ z, hs' = z := ⟨_, rfl⟩
      rw [hk2e] at HCR HTH q0
      rw [hb2e] at HCR HTH q1
      rw [hs2e] at HCR HTH HGB q4
      clear hi hi' hf hg kG kF hsW hls hgl hfg hlen hcr hkk hfm hfit hso hsg hk2e hb2e hs2e
      have xp := (HPO.out.cell 0 (v := .slice (some ⟨b, o, none⟩) lp c) rfl).1
      have lxp := HPO.out.lt
      go_upto_region 13 with (fail)
      go_cut [6, 7] from 40 to 133 (fun p6 p7 wx => ∃ h6 h7, p6 = .pointer (some ⟨h6, 0, none⟩) ∧ p7 = .pointer (some ⟨h7, 0, none⟩) ∧ Box wx h6 #[.slice Ak lk ck, .slice Ab lb cb, .int .i64 fp, .int .i64 fr, .slice As ls cs] 34 ∧ Box wx h7 #[.slice Gk lk hk2, .slice Gb lb hb2, .int .i64 fp, .int .i64 fr, .slice Gs gl hs2] 34 ∧ Below wo.heap.size wo wx)
      case first =>
        go_region
        all_goals
          go_wp2_with fail
          go_meet
        all_goals first | exact ⟨_, _, rfl, rfl, (twoB wo _ _ _).1, (twoB wo _ _ _).2.1, (twoB wo _ _ _).2.2⟩ | exact ⟨_, _, rfl, rfl, (twoB wo _ _ _).2.1, (twoB wo _ _ _).1, (twoB wo _ _ _).2.2⟩
      case rest =>
        obtain ⟨h6, h7, rfl, rfl, hb6, hb7, hbc⟩ := hcut
        have HX6 := hide hb6
        have HX7 := hide hb7
        have HBC := hide hbc
        clear hb6 hb7 hbc
        obtain ⟨c0, c1, c2, c3', c4⟩ := And.intro (HX7.out.cell 0 (v := .slice Gk lk hk2) rfl).1 (And.intro (HX7.out.cell 1 (v := .slice Gb lb hb2) rfl).1 (And.intro (HX7.out.cell 2 (v := .int .i64 fp) rfl).1 (And.intro (HX7.out.cell 3 (v := .int .i64 fr) rfl).1 (HX7.out.cell 4 (v := .slice Gs gl hs2) rfl).1)))
        have l7 := HX7.out.lt
        have hgi : ¬ gl < ls := by omega
        have HGLS := hide hgls
        go_upto_region 16 with (go_at_call 8; refine (HCR.out wc HBC.out).mono ?_; rintro e w7 ⟨A7, k7, rfl, hb7⟩; have HC7 := hide (HBC.out.trans (hb7.mono HBC.out.size)); have HX67 := hide (HX6.out.below hb7); have HX77 := hide (HX7.out.below hb7); have d4 := (HX67.out.cell 4 (v := .slice As ls cs) rfl).1; have d5 := (HX77.out.cell 4 (v := .slice Gs gl hs2) rfl).1; have ld4 := HX67.out.lt; have ld5 := HX77.out.lt; clear hb7 c0 c1 c2 c3' c4 l7)
        go_wp2
        clear d4 d5 ld4 ld5 hgi hgls
        go_loopw [8] (fun i wr => ∃ j : Nat, j ≤ ls ∧ i = .int .i64 j ∧ Below w7.heap.size w7 wr) (fun i _ => ls - (intOf i).toNat)
        case atStart => exact ⟨0, Nat.zero_le _, rfl, Below.refl _ _⟩
        case round =>
          obtain ⟨j, hj, rfl, hbj⟩ := hrel
          obtain ⟨wq, rfl⟩ : ∃ wq, wq = wr := ⟨_, rfl⟩
          have HBJ := hide hbj
          have HCJ := hide (HC7.out.trans (hbj.mono HC7.out.size))
          have hszq := hbj.size
          have HX6J := hide (HX67.out.below hbj)
          have HX7J := hide (HX77.out.below hbj)
          have d4 := (HX6J.out.cell 4 (v := .slice As ls cs) rfl).1
          have ld4 := HX6J.out.lt
          clear hbj
          by_cases hlj : j < ls
          case neg =>
            go_wp2
            go_roundw
            case rel => exact ⟨k + 1, by have := HLT.out; omega, by go_num, HBW.out.trans (HCJ.out.mono hszo)⟩
            case measure => have := HLT.out; simp [intOf]; omega
          have HLJ := hide hlj
          obtain ⟨l, hl⟩ : ∃ l, f.blocks[j]? = some l := ⟨_, List.getElem?_eq_getElem (by have := HLS.out; omega)⟩
          obtain ⟨hl1, hl2⟩ := HNE.out l (List.mem_of_getElem? hl)
          obtain ⟨m, hm⟩ : ∃ m, l.length = m + 1 := ⟨l.length - 1, by omega⟩
          obtain ⟨x, hx⟩ : ∃ x, l[l.length - 1]? = some x := ⟨_, List.getElem?_eq_getElem (by omega)⟩
          have hlc := HLC.out j l x hl hx
          have hog := HOLD.out j l hl
          obtain ⟨y, hy⟩ : ∃ y, tgI f.blocks.length (critN f) j x = y := ⟨_, rfl⟩
          have hbx := bentB_last (L := f.blocks.length) (es := critN f) (b := j) hx
          have hbl := bentB_len f.blocks.length (critN f) j l
          obtain ⟨l', hl'⟩ : ∃ l', bentB f.blocks.length (critN f) j l = l' := ⟨_, rfl⟩
          rw [hl'] at hog hbx hbl
          rw [hy] at hbx
          rw [HFG.out] at hog hlc
          rw [show tgt f.blocks.length (critN f) j x.n = y.n by rw [← hy]; rfl, show tgt f.blocks.length (critN f) j x.m = y.m by rw [← hy]; rfl, HLS.out] at hlc
          rw [hm, Nat.add_sub_cancel] at hx hbx
          obtain ⟨bF, oF, A1, k1, hA1, hbF, f0, hi1⟩ := (HFB.out wq HCJ.out).get hl
          subst hA1
          obtain ⟨bI, oI, A2', k2', hA2, hbI, ⟨i0, i1, i2, i3, i4, i5, i6⟩, -⟩ := hi1.get hx
          subst hA2
          obtain ⟨bG, oG, A3', k3, hA3, hbG, g0, hi3⟩ := (HGB.out wq HCJ.out).get hog
          subst hA3
          obtain ⟨bJ, oJ, A4', k4', hA4, hbJ, ⟨j0, j1, j2, j3, j4, j5, j6⟩, -⟩ := hi3.get hbx
          subst hA4
          rw [hbl, hm] at g0
          rw [hm] at f0
          have d5 := (HX7J.out.cell 4 (v := .slice (some ⟨bG, oG, none⟩) gl hs2) rfl).1
          have ld5 := HX7J.out.lt
          have hw1 := HBEL.out.size
          have hw2 := HB4O.out.size
          have hw3 := HCJ.out.size
          have lF : bF < wq.heap.size := by have : bF < w.heap.size := hbF; omega
          have lI : bI < wq.heap.size := by have : bI < w.heap.size := hbI; omega
          have lG : bG < wq.heap.size := by have : bG < w4.heap.size := hbG; omega
          have lJ : bJ < wq.heap.size := by have : bJ < w4.heap.size := hbJ; omega
          have hji : (0 : Int) ≤ (j : Int) := by omega
          have hjl : (j : Int) < (ls : Int) := by omega
          have hjg : (j : Int) < (gl : Int) := by have := HGLS.out; omega
          have hm0 : (0 : Int) ≤ (m : Int) := by omega
          have hm1 : (m : Int) < (m : Int) + 1 := by omega
          have hm2 : (m : Int) < ((m + 1 : Nat) : Int) := by omega
          have hm3 : IntKind.i64.wrap ((m : Int) + 1 - 1) = (m : Int) := by rw [IntWalk.i64_in _ ⟨by omega, by omega⟩]; omega
          have hm4 : IntKind.i64.wrap (((m + 1 : Nat) : Int) - 1) = (m : Int) := by rw [IntWalk.i64_in _ ⟨by omega, by omega⟩]; omega
          have hm5 : IntKind.i64.wrap (m : Int) = (m : Int) := by rw [IntWalk.i64_in _ ⟨by omega, by omega⟩]
          have HTHN := hide (fun (W : World) (hW : Below wo.heap.size wo W) => HTH.out W hW y.n)
          have HTHM := hide (fun (W : World) (hW : Below wo.heap.size wo W) => HTH.out W hW y.m)
          have HLCC := hide hlc
          generalize x.d = xd, x.a = xa, x.b = xb, x.args.length = xg, y.op = yo, y.d = yd, y.a = ya, y.b = yb, y.args.length = yg at *
          obtain ⟨tn, htn⟩ : ∃ tn, thrN fg y.n ls = tn := ⟨_, rfl⟩
          obtain ⟨tm, htm⟩ : ∃ tm, thrN fg y.m ls = tm := ⟨_, rfl⟩
          rw [htn] at HTHN HLCC
          rw [htm] at HTHM HLCC
          generalize x.op = xo, x.n = xn, x.m = xm, y.n = yn, y.m = ym at *
          clear hl hx hog hbx hbl hl' hy hi1 hi3 hl1 hl2 hm hlc htn htm
          go_upto_region 19 with (fail)
          go_cut [9, 10] from 70 to 133 (fun p9 p10 wx => ∃ h9 h10, p9 = .pointer (some ⟨h9, 0, none⟩) ∧ p10 = .pointer (some ⟨h10, 0, none⟩) ∧ Box wx h9 #[.int .i64 xo, .int .i64 xd, .int .i64 xa, .int .i64 xb, .int .i64 xn, .int .i64 xm, .slice A2' xg k2'] 38 ∧ Box wx h10 #[.int .i64 yo, .int .i64 yd, .int .i64 ya, .int .i64 yb, .int .i64 yn, .int .i64 ym, .slice A4' yg k4'] 38 ∧ Below wq.heap.size wq wx)
          case first =>
            have ne1 := World.new_ne wq
            go_region_held3 (fun w' => w'.cell? ⟨h6, 4, none⟩ = some (.slice (some ⟨bF, oF, none⟩) ls cs) ∧ w'.cell? ⟨h7, 4, none⟩ = some (.slice (some ⟨bG, oG, none⟩) gl hs2) ∧ w'.cell? ⟨bF, oF + j, none⟩ = some (.slice (some ⟨bI, oI, none⟩) (m + 1) k1) ∧ w'.cell? ⟨bG, oG + j, none⟩ = some (.slice (some ⟨bJ, oJ, none⟩) (m + 1) k3) ∧ w'.cell? ⟨bI, oI + m * 7, none⟩ = some (.int .i64 xo) ∧ w'.cell? ⟨bI, oI + m * 7 + 1, none⟩ = some (.int .i64 xd) ∧ w'.cell? ⟨bI, oI + m * 7 + 2, none⟩ = some (.int .i64 xa) ∧ w'.cell? ⟨bI, oI + m * 7 + 3, none⟩ = some (.int .i64 xb) ∧ w'.cell? ⟨bI, oI + m * 7 + 4, none⟩ = some (.int .i64 xn) ∧ w'.cell? ⟨bI, oI + m * 7 + 5, none⟩ = some (.int .i64 xm) ∧ w'.cell? ⟨bI, oI + m * 7 + 6, none⟩ = some (.slice A2' xg k2') ∧ w'.cell? ⟨bJ, oJ + m * 7, none⟩ = some (.int .i64 yo) ∧ w'.cell? ⟨bJ, oJ + m * 7 + 1, none⟩ = some (.int .i64 yd) ∧ w'.cell? ⟨bJ, oJ + m * 7 + 2, none⟩ = some (.int .i64 ya) ∧ w'.cell? ⟨bJ, oJ + m * 7 + 3, none⟩ = some (.int .i64 yb) ∧ w'.cell? ⟨bJ, oJ + m * 7 + 4, none⟩ = some (.int .i64 yn) ∧ w'.cell? ⟨bJ, oJ + m * 7 + 5, none⟩ = some (.int .i64 ym) ∧ w'.cell? ⟨bJ, oJ + m * 7 + 6, none⟩ = some (.slice A4' yg k4')) (go_keep) (fail)
            all_goals
              go_wp2_with fail
              go_meet
            all_goals first | exact ⟨_, _, rfl, rfl, (twoB wq _ _ _).1, (twoB wq _ _ _).2.1, (twoB wq _ _ _).2.2⟩ | exact ⟨_, _, rfl, rfl, (twoB wq _ _ _).2.1, (twoB wq _ _ _).1, (twoB wq _ _ _).2.2⟩
          case rest =>
            obtain ⟨h9, h10, rfl, rfl, hb9, hb10, hbc⟩ := hcut
            have HX9 := hide hb9
            have HX10 := hide hb10
            have HBD := hide hbc
            have hszc := hbc.size
            have HCD := hide (HCJ.out.trans (hbc.mono HCJ.out.size))
            clear hb9 hb10 hbc
            clear i0 i1 i2 i3 i4 i5 i6 j0 j1 j2 j3 j4 j5 j6 f0 g0 d4 d5 ld4 ld5 lF lI lG lJ hm0 hm1 hm2 hm3 hm4 hm5 hji hjl hjg
            have HK20 := hide (fun (W : World) (hW : Below wc.heap.size wc W) => (show (W.cell? ⟨h7, 0, none⟩ = some (.slice Gk lk hk2) ∧ W.cell? ⟨h7, 1, none⟩ = some (.slice Gb lb hb2) ∧ W.cell? ⟨h7, 2, none⟩ = some (.int .i64 fp) ∧ W.cell? ⟨h7, 3, none⟩ = some (.int .i64 fr) ∧ W.cell? ⟨h7, 4, none⟩ = some (.slice (some ⟨bG, oG, none⟩) gl hs2) ∧ W.cell? ⟨h6, 4, none⟩ = some (.slice (some ⟨bF, oF, none⟩) ls cs) ∧ W.cell? ⟨h9, 0, none⟩ = some (.int .i64 xo) ∧ W.cell? ⟨h9, 4, none⟩ = some (.int .i64 xn) ∧ W.cell? ⟨h9, 5, none⟩ = some (.int .i64 xm) ∧ W.cell? ⟨h10, 4, none⟩ = some (.int .i64 yn) ∧ W.cell? ⟨h10, 5, none⟩ = some (.int .i64 ym)) ∧ h7 < W.heap.size ∧ h6 < W.heap.size ∧ h9 < W.heap.size ∧ h10 < W.heap.size from by
              have hWq := HBD.out.trans (hW.mono hszc)
              have a7 := HX7J.out.below hWq
              have a6 := HX6J.out.below hWq
              have a9 := HX9.out.below hW
              have a10 := HX10.out.below hW
              exact ⟨⟨(a7.cell 0 (v := .slice Gk lk hk2) rfl).1, (a7.cell 1 (v := .slice Gb lb hb2) rfl).1, (a7.cell 2 (v := .int .i64 fp) rfl).1, (a7.cell 3 (v := .int .i64 fr) rfl).1, (a7.cell 4 (v := .slice (some ⟨bG, oG, none⟩) gl hs2) rfl).1, (a6.cell 4 (v := .slice (some ⟨bF, oF, none⟩) ls cs) rfl).1, (a9.cell 0 (v := .int .i64 xo) rfl).1, (a9.cell 4 (v := .int .i64 xn) rfl).1, (a9.cell 5 (v := .int .i64 xm) rfl).1, (a10.cell 4 (v := .int .i64 yn) rfl).1, (a10.cell 5 (v := .int .i64 ym) rfl).1⟩, a7.lt, a6.lt, a9.lt, a10.lt⟩))
            obtain ⟨⟨p0, p1, p2, p3, p4, p5, p6, p7, p8, p9, p10⟩, lq1, lq2, lq3, lq4⟩ := HK20.out wc (Below.refl _ _)
            have hlc := HLCC.out
            clear HLCC
            go_upto_region 20 with (fail)
            have hszd := HCD.out.size
            rcases hlc with ⟨hx1, hx2⟩ | ⟨hx1, hx2, hx3⟩ | hx1
            · subst hx1
              rw [hx2] at HTHN
              clear hx2
              refine wp_region_held_drew (S := (fun w' => w'.cell? ⟨h7, 0, none⟩ = some (.slice Gk lk hk2) ∧ w'.cell? ⟨h7, 1, none⟩ = some (.slice Gb lb hb2) ∧ w'.cell? ⟨h7, 2, none⟩ = some (.int .i64 fp) ∧ w'.cell? ⟨h7, 3, none⟩ = some (.int .i64 fr) ∧ w'.cell? ⟨h7, 4, none⟩ = some (.slice (some ⟨bG, oG, none⟩) gl hs2) ∧ w'.cell? ⟨h6, 4, none⟩ = some (.slice (some ⟨bF, oF, none⟩) ls cs) ∧ w'.cell? ⟨h9, 0, none⟩ = some (.int .i64 21) ∧ w'.cell? ⟨h9, 4, none⟩ = some (.int .i64 xn) ∧ w'.cell? ⟨h9, 5, none⟩ = some (.int .i64 xm) ∧ w'.cell? ⟨h10, 4, none⟩ = some (.int .i64 yn) ∧ w'.cell? ⟨h10, 5, none⟩ = some (.int .i64 ym))) (by kernel_rfl) ⟨p0, p1, p2, p3, p4, p5, p6, p7, p8, p9, p10⟩ (fun hHeld => ?_)
              refine wpAnyH_take (i := 0) (v := ?_) rfl (by kernel_rfl) (by kernel_rfl) (by kernel_rfl) (fun _ _ _ h => h) (Or.inl ⟨by rfl, ?_⟩) (by assumption) ?_
              rotate_left
              focus
                intro w hSw
                try dsimp only at hSw
                go_simp
                try with_reducible rfl
              try simp only [List.getElem_toArray, List.getElem_cons_succ, List.getElem_cons_zero, Act.put, List.setIfInBounds_toArray, List.set_cons_zero, List.set_cons_succ]
              refine wpAnyH_take (i := 1) (v := ?_) rfl (by kernel_rfl) (by kernel_rfl) (by kernel_rfl) (fun _ _ _ h => h) (Or.inl ⟨by rfl, ?_⟩) (by assumption) ?_
              rotate_left
              focus
                intro w hSw
                try dsimp only at hSw
                go_simp
                try with_reducible rfl
              try simp only [List.getElem_toArray, List.getElem_cons_succ, List.getElem_cons_zero, Act.put, List.setIfInBounds_toArray, List.set_cons_zero, List.set_cons_succ]
              refine wpAnyH_take (i := 2) (v := ?_) rfl (by kernel_rfl) (by kernel_rfl) (by kernel_rfl) (fun _ _ _ h => h) (Or.inl ⟨by rfl, ?_⟩) (by assumption) ?_
              rotate_left
              focus
                intro w hSw
                try dsimp only at hSw
                go_simp
                try with_reducible rfl
              try simp only [List.getElem_toArray, List.getElem_cons_succ, List.getElem_cons_zero, Act.put, List.setIfInBounds_toArray, List.set_cons_zero, List.set_cons_succ]
              refine wpAnyH_take (i := 3) (v := ?_) rfl (by kernel_rfl) (by kernel_rfl) (by kernel_rfl) (fun _ _ _ h => h) (Or.inl ⟨by rfl, ?_⟩) (by assumption) ?_
              rotate_left
              focus
                intro w hSw
                try dsimp only at hSw
                go_simp
                try with_reducible rfl
              try simp only [List.getElem_toArray, List.getElem_cons_succ, List.getElem_cons_zero, Act.put, List.setIfInBounds_toArray, List.set_cons_zero, List.set_cons_succ]
              refine wpAnyH_take (i := 4) (v := ?_) rfl (by kernel_rfl) (by kernel_rfl) (by kernel_rfl) (fun _ _ _ h => h) (Or.inl ⟨by rfl, ?_⟩) (by assumption) ?_
              rotate_left
              focus
                intro w hSw
                try dsimp only at hSw
                go_simp
                try with_reducible rfl
              try simp only [List.getElem_toArray, List.getElem_cons_succ, List.getElem_cons_zero, Act.put, List.setIfInBounds_toArray, List.set_cons_zero, List.set_cons_succ]
              refine wpAnyH_take (i := 5) (v := ?_) rfl (by kernel_rfl) (by kernel_rfl) (by kernel_rfl) (fun _ _ _ h => h) (Or.inl ⟨by rfl, ?_⟩) (by assumption) ?_
              rotate_left
              focus
                intro w hSw
                try dsimp only at hSw
                go_simp
                try with_reducible rfl
              try simp only [List.getElem_toArray, List.getElem_cons_succ, List.getElem_cons_zero, Act.put, List.setIfInBounds_toArray, List.set_cons_zero, List.set_cons_succ]
              refine wpAnyH_take (i := 7) (v := ?_) rfl (by kernel_rfl) (by kernel_rfl) (by kernel_rfl) (fun _ _ _ h => h) (Or.inl ⟨by rfl, ?_⟩) (by assumption) ?_
              rotate_left
              focus
                intro w hSw
                try dsimp only at hSw
                go_simp
                try with_reducible rfl
              try simp only [List.getElem_toArray, List.getElem_cons_succ, List.getElem_cons_zero, Act.put, List.setIfInBounds_toArray, List.set_cons_zero, List.set_cons_succ]
              refine wpAnyH_take (i := 8) (v := ?_) rfl (by kernel_rfl) (by kernel_rfl) (by kernel_rfl) (fun _ _ _ h => h) (Or.inl ⟨by rfl, ?_⟩) (by assumption) ?_
              rotate_left
              focus
                intro w hSw
                try dsimp only at hSw
                go_simp
                try with_reducible rfl
              try simp only [List.getElem_toArray, List.getElem_cons_succ, List.getElem_cons_zero, Act.put, List.setIfInBounds_toArray, List.set_cons_zero, List.set_cons_succ]
              refine wpAnyH_ready (rs := [6]) (by kernel_rfl) (by simp) ?_
              refine AllReadyH.cons rfl (fun K hK => ?_) AllReadyH.nil
              rw [if_pos (by rfl)]
              go_simp
              go_at_call 9
              refine (HTHN.out _ (below_drewN HCD.out 1)).mono ?_
              rintro e w8 ⟨rfl, hb8⟩
              have hc8 : Below wc.heap.size wc w8 := ⟨hb8.os, hb8.tape, hb8.output, hb8.size, hb8.block⟩
              obtain ⟨q8, lr1, lr2, lr3, lr4⟩ := HK20.out w8 hc8
              have HC8 := hide hc8
              have HD8 := hide (HCD.out.trans (hc8.mono hszd))
              clear hb8 hc8 hHeld p0 p1 p2 p3 p4 p5 p6 p7 p8 p9 p10 lq1 lq2 lq3 lq4
              try go_wp2_with fail
              refine hK.out _ _ q8 (fun hHeld => ?_)
              clear hK K
              try simp only [List.getElem_toArray, List.getElem_cons_succ, List.getElem_cons_zero, Act.put, List.setIfInBounds_toArray, List.set_cons_zero, List.set_cons_succ]
              refine wpAnyH_take (i := 9) (v := ?_) rfl (by kernel_rfl) (by kernel_rfl) (by kernel_rfl) (fun _ _ _ h => h) (Or.inl ⟨by rfl, ?_⟩) (by assumption) ?_
              rotate_left
              focus
                intro w hSw
                try dsimp only at hSw
                go_simp
                try with_reducible rfl
              try simp only [List.getElem_toArray, List.getElem_cons_succ, List.getElem_cons_zero, Act.put, List.setIfInBounds_toArray, List.set_cons_zero, List.set_cons_succ]
              refine wpAnyH_take (i := 10) (v := ?_) rfl (by kernel_rfl) (by kernel_rfl) (by kernel_rfl) (fun _ _ _ h => h) (Or.inl ⟨by rfl, ?_⟩) (by assumption) ?_
              rotate_left
              focus
                intro w hSw
                try dsimp only at hSw
                go_simp
                try with_reducible rfl
              try simp only [List.getElem_toArray, List.getElem_cons_succ, List.getElem_cons_zero, Act.put, List.setIfInBounds_toArray, List.set_cons_zero, List.set_cons_succ]
              refine wpAnyH_take (i := 11) (v := undef) rfl (by kernel_rfl) (by kernel_rfl) (by kernel_rfl) (fun _ _ _ h => h) (Or.inr ⟨by rfl, rfl⟩) (by assumption) ?_
              try simp only [List.getElem_toArray, List.getElem_cons_succ, List.getElem_cons_zero, Act.put, List.setIfInBounds_toArray, List.set_cons_zero, List.set_cons_succ]
              refine wpAnyH_take (i := 12) (v := undef) rfl (by kernel_rfl) (by kernel_rfl) (by kernel_rfl) (fun _ _ _ h => h) (Or.inr ⟨by rfl, rfl⟩) (by assumption) ?_
              try simp only [List.getElem_toArray, List.getElem_cons_succ, List.getElem_cons_zero, Act.put, List.setIfInBounds_toArray, List.set_cons_zero, List.set_cons_succ]
              refine wpAnyH_take (i := 13) (v := undef) rfl (by kernel_rfl) (by kernel_rfl) (by kernel_rfl) (fun _ _ _ h => h) (Or.inr ⟨by rfl, rfl⟩) (by assumption) ?_
              try simp only [List.getElem_toArray, List.getElem_cons_succ, List.getElem_cons_zero, Act.put, List.setIfInBounds_toArray, List.set_cons_zero, List.set_cons_succ]
              refine wpAnyH_take (i := 14) (v := ?_) rfl (by kernel_rfl) (by kernel_rfl) (by kernel_rfl) (fun _ _ _ h => h) (Or.inl ⟨by rfl, ?_⟩) (by assumption) ?_
              rotate_left
              focus
                intro w hSw
                try dsimp only at hSw
                go_simp
                try with_reducible rfl
              try simp only [List.getElem_toArray, List.getElem_cons_succ, List.getElem_cons_zero, Act.put, List.setIfInBounds_toArray, List.set_cons_zero, List.set_cons_succ]
              refine wpAnyH_take (i := 15) (v := ?_) rfl (by kernel_rfl) (by kernel_rfl) (by kernel_rfl) (fun _ _ _ h => h) (Or.inl ⟨by rfl, ?_⟩) (by assumption) ?_
              rotate_left
              focus
                intro w hSw
                try dsimp only at hSw
                go_simp
                try with_reducible rfl
              try simp only [List.getElem_toArray, List.getElem_cons_succ, List.getElem_cons_zero, Act.put, List.setIfInBounds_toArray, List.set_cons_zero, List.set_cons_succ]
              refine wpAnyH_take (i := 16) (v := ?_) rfl (by kernel_rfl) (by kernel_rfl) (by kernel_rfl) (fun _ _ _ h => h) (Or.inl ⟨by rfl, ?_⟩) (by assumption) ?_
              rotate_left
              focus
                intro w hSw
                try dsimp only at hSw
                go_simp
                try with_reducible rfl
              try simp only [List.getElem_toArray, List.getElem_cons_succ, List.getElem_cons_zero, Act.put, List.setIfInBounds_toArray, List.set_cons_zero, List.set_cons_succ]
              refine wpAnyH_take (i := 17) (v := ?_) rfl (by kernel_rfl) (by kernel_rfl) (by kernel_rfl) (fun _ _ _ h => h) (Or.inl ⟨by rfl, ?_⟩) (by assumption) ?_
              rotate_left
              focus
                intro w hSw
                try dsimp only at hSw
                go_simp
                try with_reducible rfl
              try simp only [List.getElem_toArray, List.getElem_cons_succ, List.getElem_cons_zero, Act.put, List.setIfInBounds_toArray, List.set_cons_zero, List.set_cons_succ]
              refine wpAnyH_take (i := 18) (v := ?_) rfl (by kernel_rfl) (by kernel_rfl) (by kernel_rfl) (fun _ _ _ h => h) (Or.inl ⟨by rfl, ?_⟩) (by assumption) ?_
              rotate_left
              focus
                intro w hSw
                try dsimp only at hSw
                go_simp
                try with_reducible rfl
              try simp only [List.getElem_toArray, List.getElem_cons_succ, List.getElem_cons_zero, Act.put, List.setIfInBounds_toArray, List.set_cons_zero, List.set_cons_succ]
              refine wpAnyH_take (i := 19) (v := ?_) rfl (by kernel_rfl) (by kernel_rfl) (by kernel_rfl) (fun _ _ _ h => h) (Or.inl ⟨by rfl, ?_⟩) (by assumption) ?_
              rotate_left
              focus
                intro w hSw
                try dsimp only at hSw
                go_simp
                try with_reducible rfl
              try simp only [List.getElem_toArray, List.getElem_cons_succ, List.getElem_cons_zero, Act.put, List.setIfInBounds_toArray, List.set_cons_zero, List.set_cons_succ]
              refine wpAnyH_take (i := 20) (v := undef) rfl (by kernel_rfl) (by kernel_rfl) (by kernel_rfl) (fun _ _ _ h => h) (Or.inr ⟨by rfl, rfl⟩) (by assumption) ?_
              try simp only [List.getElem_toArray, List.getElem_cons_succ, List.getElem_cons_zero, Act.put, List.setIfInBounds_toArray, List.set_cons_zero, List.set_cons_succ]
              refine wpAnyH_take (i := 21) (v := undef) rfl (by kernel_rfl) (by kernel_rfl) (by kernel_rfl) (fun _ _ _ h => h) (Or.inr ⟨by rfl, rfl⟩) (by assumption) ?_
              try simp only [List.getElem_toArray, List.getElem_cons_succ, List.getElem_cons_zero, Act.put, List.setIfInBounds_toArray, List.set_cons_zero, List.set_cons_succ]
              refine wpAnyH_take (i := 22) (v := undef) rfl (by kernel_rfl) (by kernel_rfl) (by kernel_rfl) (fun _ _ _ h => h) (Or.inr ⟨by rfl, rfl⟩) (by assumption) ?_
              try simp only [List.getElem_toArray, List.getElem_cons_succ, List.getElem_cons_zero, Act.put, List.setIfInBounds_toArray, List.set_cons_zero, List.set_cons_succ]
              refine wpAnyH_take (i := 23) (v := undef) rfl (by kernel_rfl) (by kernel_rfl) (by kernel_rfl) (fun _ _ _ h => h) (Or.inr ⟨by rfl, rfl⟩) (by assumption) ?_
              try simp only [List.getElem_toArray, List.getElem_cons_succ, List.getElem_cons_zero, Act.put, List.setIfInBounds_toArray, List.set_cons_zero, List.set_cons_succ]
              refine wpAnyH_take (i := 24) (v := undef) rfl (by kernel_rfl) (by kernel_rfl) (by kernel_rfl) (fun _ _ _ h => h) (Or.inr ⟨by rfl, rfl⟩) (by assumption) ?_
              try simp only [List.getElem_toArray, List.getElem_cons_succ, List.getElem_cons_zero, Act.put, List.setIfInBounds_toArray, List.set_cons_zero, List.set_cons_succ]
              refine wpAnyH_take (i := 25) (v := undef) rfl (by kernel_rfl) (by kernel_rfl) (by kernel_rfl) (fun _ _ _ h => h) (Or.inr ⟨by rfl, rfl⟩) (by assumption) ?_
              try simp only [List.getElem_toArray, List.getElem_cons_succ, List.getElem_cons_zero, Act.put, List.setIfInBounds_toArray, List.set_cons_zero, List.set_cons_succ]
              refine wpAnyH_take (i := 26) (v := undef) rfl (by kernel_rfl) (by kernel_rfl) (by kernel_rfl) (fun _ _ _ h => h) (Or.inr ⟨by rfl, rfl⟩) (by assumption) ?_
              try simp only [List.getElem_toArray, List.getElem_cons_succ, List.getElem_cons_zero, Act.put, List.setIfInBounds_toArray, List.set_cons_zero, List.set_cons_succ]
              refine wpAnyH_take (i := 27) (v := undef) rfl (by kernel_rfl) (by kernel_rfl) (by kernel_rfl) (fun _ _ _ h => h) (Or.inr ⟨by rfl, rfl⟩) (by assumption) ?_
              try simp only [List.getElem_toArray, List.getElem_cons_succ, List.getElem_cons_zero, Act.put, List.setIfInBounds_toArray, List.set_cons_zero, List.set_cons_succ]
              refine wpAnyH_take (i := 28) (v := undef) rfl (by kernel_rfl) (by kernel_rfl) (by kernel_rfl) (fun _ _ _ h => h) (Or.inr ⟨by rfl, rfl⟩) (by assumption) ?_
              try simp only [List.getElem_toArray, List.getElem_cons_succ, List.getElem_cons_zero, Act.put, List.setIfInBounds_toArray, List.set_cons_zero, List.set_cons_succ]
              refine wpAnyH_take (i := 29) (v := undef) rfl (by kernel_rfl) (by kernel_rfl) (by kernel_rfl) (fun _ _ _ h => h) (Or.inr ⟨by rfl, rfl⟩) (by assumption) ?_
              try simp only [List.getElem_toArray, List.getElem_cons_succ, List.getElem_cons_zero, Act.put, List.setIfInBounds_toArray, List.set_cons_zero, List.set_cons_succ]
              refine wpAnyH_take (i := 30) (v := ?_) rfl (by kernel_rfl) (by kernel_rfl) (by kernel_rfl) (fun _ _ _ h => h) (Or.inl ⟨by rfl, ?_⟩) (by assumption) ?_
              rotate_left
              focus
                intro w hSw
                try dsimp only at hSw
                go_simp
                try with_reducible rfl
              try simp only [List.getElem_toArray, List.getElem_cons_succ, List.getElem_cons_zero, Act.put, List.setIfInBounds_toArray, List.set_cons_zero, List.set_cons_succ]
              refine wpAnyH_take (i := 31) (v := ?_) rfl (by kernel_rfl) (by kernel_rfl) (by kernel_rfl) (fun _ _ _ h => h) (Or.inl ⟨by rfl, ?_⟩) (by assumption) ?_
              rotate_left
              focus
                intro w hSw
                try dsimp only at hSw
                go_simp
                try with_reducible rfl
              try simp only [List.getElem_toArray, List.getElem_cons_succ, List.getElem_cons_zero, Act.put, List.setIfInBounds_toArray, List.set_cons_zero, List.set_cons_succ]
              refine wpAnyH_done (by kernel_rfl) ?_ _
              clear hHeld
              go_wp2
              go_roundw
              case rel => exact ⟨j + 1, by have := HLJ.out; omega, by go_num, HBJ.out.trans ((HBD.out.trans (HC8.out.mono hszc)).mono hszq)⟩
              case measure => have := HLJ.out; simp [intOf]; omega
            · subst hx1
              rw [hx2] at HTHN
              rw [hx3] at HTHM
              clear hx2 hx3
              refine wp_region_held_drew (S := (fun w' => w'.cell? ⟨h7, 0, none⟩ = some (.slice Gk lk hk2) ∧ w'.cell? ⟨h7, 1, none⟩ = some (.slice Gb lb hb2) ∧ w'.cell? ⟨h7, 2, none⟩ = some (.int .i64 fp) ∧ w'.cell? ⟨h7, 3, none⟩ = some (.int .i64 fr) ∧ w'.cell? ⟨h7, 4, none⟩ = some (.slice (some ⟨bG, oG, none⟩) gl hs2) ∧ w'.cell? ⟨h6, 4, none⟩ = some (.slice (some ⟨bF, oF, none⟩) ls cs) ∧ w'.cell? ⟨h9, 0, none⟩ = some (.int .i64 22) ∧ w'.cell? ⟨h9, 4, none⟩ = some (.int .i64 xn) ∧ w'.cell? ⟨h9, 5, none⟩ = some (.int .i64 xm) ∧ w'.cell? ⟨h10, 4, none⟩ = some (.int .i64 yn) ∧ w'.cell? ⟨h10, 5, none⟩ = some (.int .i64 ym))) (by kernel_rfl) ⟨p0, p1, p2, p3, p4, p5, p6, p7, p8, p9, p10⟩ (fun hHeld => ?_)
              refine wpAnyH_take (i := 0) (v := ?_) rfl (by kernel_rfl) (by kernel_rfl) (by kernel_rfl) (fun _ _ _ h => h) (Or.inl ⟨by rfl, ?_⟩) (by assumption) ?_
              rotate_left
              focus
                intro w hSw
                try dsimp only at hSw
                go_simp
                try with_reducible rfl
              try simp only [List.getElem_toArray, List.getElem_cons_succ, List.getElem_cons_zero, Act.put, List.setIfInBounds_toArray, List.set_cons_zero, List.set_cons_succ]
              refine wpAnyH_take (i := 1) (v := ?_) rfl (by kernel_rfl) (by kernel_rfl) (by kernel_rfl) (fun _ _ _ h => h) (Or.inl ⟨by rfl, ?_⟩) (by assumption) ?_
              rotate_left
              focus
                intro w hSw
                try dsimp only at hSw
                go_simp
                try with_reducible rfl
              try simp only [List.getElem_toArray, List.getElem_cons_succ, List.getElem_cons_zero, Act.put, List.setIfInBounds_toArray, List.set_cons_zero, List.set_cons_succ]
              refine wpAnyH_take (i := 2) (v := ?_) rfl (by kernel_rfl) (by kernel_rfl) (by kernel_rfl) (fun _ _ _ h => h) (Or.inl ⟨by rfl, ?_⟩) (by assumption) ?_
              rotate_left
              focus
                intro w hSw
                try dsimp only at hSw
                go_simp
                try with_reducible rfl
              try simp only [List.getElem_toArray, List.getElem_cons_succ, List.getElem_cons_zero, Act.put, List.setIfInBounds_toArray, List.set_cons_zero, List.set_cons_succ]
              refine wpAnyH_take (i := 3) (v := ?_) rfl (by kernel_rfl) (by kernel_rfl) (by kernel_rfl) (fun _ _ _ h => h) (Or.inl ⟨by rfl, ?_⟩) (by assumption) ?_
              rotate_left
              focus
                intro w hSw
                try dsimp only at hSw
                go_simp
                try with_reducible rfl
              try simp only [List.getElem_toArray, List.getElem_cons_succ, List.getElem_cons_zero, Act.put, List.setIfInBounds_toArray, List.set_cons_zero, List.set_cons_succ]
              refine wpAnyH_take (i := 4) (v := ?_) rfl (by kernel_rfl) (by kernel_rfl) (by kernel_rfl) (fun _ _ _ h => h) (Or.inl ⟨by rfl, ?_⟩) (by assumption) ?_
              rotate_left
              focus
                intro w hSw
                try dsimp only at hSw
                go_simp
                try with_reducible rfl
              try simp only [List.getElem_toArray, List.getElem_cons_succ, List.getElem_cons_zero, Act.put, List.setIfInBounds_toArray, List.set_cons_zero, List.set_cons_succ]
              refine wpAnyH_take (i := 5) (v := ?_) rfl (by kernel_rfl) (by kernel_rfl) (by kernel_rfl) (fun _ _ _ h => h) (Or.inl ⟨by rfl, ?_⟩) (by assumption) ?_
              rotate_left
              focus
                intro w hSw
                try dsimp only at hSw
                go_simp
                try with_reducible rfl
              try simp only [List.getElem_toArray, List.getElem_cons_succ, List.getElem_cons_zero, Act.put, List.setIfInBounds_toArray, List.set_cons_zero, List.set_cons_succ]
              refine wpAnyH_take (i := 7) (v := ?_) rfl (by kernel_rfl) (by kernel_rfl) (by kernel_rfl) (fun _ _ _ h => h) (Or.inl ⟨by rfl, ?_⟩) (by assumption) ?_
              rotate_left
              focus
                intro w hSw
                try dsimp only at hSw
                go_simp
                try with_reducible rfl
              try simp only [List.getElem_toArray, List.getElem_cons_succ, List.getElem_cons_zero, Act.put, List.setIfInBounds_toArray, List.set_cons_zero, List.set_cons_succ]
              refine wpAnyH_take (i := 8) (v := ?_) rfl (by kernel_rfl) (by kernel_rfl) (by kernel_rfl) (fun _ _ _ h => h) (Or.inl ⟨by rfl, ?_⟩) (by assumption) ?_
              rotate_left
              focus
                intro w hSw
                try dsimp only at hSw
                go_simp
                try with_reducible rfl
              try simp only [List.getElem_toArray, List.getElem_cons_succ, List.getElem_cons_zero, Act.put, List.setIfInBounds_toArray, List.set_cons_zero, List.set_cons_succ]
              refine wpAnyH_ready (rs := [6]) (by kernel_rfl) (by simp) ?_
              refine AllReadyH.cons rfl (fun K hK => ?_) AllReadyH.nil
              rw [if_pos (by rfl)]
              go_simp
              go_at_call 9
              refine (HTHN.out _ (below_drewN HCD.out 1)).mono ?_
              rintro e w8 ⟨rfl, hb8⟩
              have hc8 : Below wc.heap.size wc w8 := ⟨hb8.os, hb8.tape, hb8.output, hb8.size, hb8.block⟩
              obtain ⟨q8, lr1, lr2, lr3, lr4⟩ := HK20.out w8 hc8
              have HC8 := hide hc8
              have HD8 := hide (HCD.out.trans (hc8.mono hszd))
              clear hb8 hc8 hHeld p0 p1 p2 p3 p4 p5 p6 p7 p8 p9 p10 lq1 lq2 lq3 lq4
              try go_wp2_with fail
              refine hK.out _ _ q8 (fun hHeld => ?_)
              clear hK K
              try simp only [List.getElem_toArray, List.getElem_cons_succ, List.getElem_cons_zero, Act.put, List.setIfInBounds_toArray, List.set_cons_zero, List.set_cons_succ]
              refine wpAnyH_take (i := 9) (v := ?_) rfl (by kernel_rfl) (by kernel_rfl) (by kernel_rfl) (fun _ _ _ h => h) (Or.inl ⟨by rfl, ?_⟩) (by assumption) ?_
              rotate_left
              focus
                intro w hSw
                try dsimp only at hSw
                go_simp
                try with_reducible rfl
              try simp only [List.getElem_toArray, List.getElem_cons_succ, List.getElem_cons_zero, Act.put, List.setIfInBounds_toArray, List.set_cons_zero, List.set_cons_succ]
              refine wpAnyH_take (i := 10) (v := ?_) rfl (by kernel_rfl) (by kernel_rfl) (by kernel_rfl) (fun _ _ _ h => h) (Or.inl ⟨by rfl, ?_⟩) (by assumption) ?_
              rotate_left
              focus
                intro w hSw
                try dsimp only at hSw
                go_simp
                try with_reducible rfl
              try simp only [List.getElem_toArray, List.getElem_cons_succ, List.getElem_cons_zero, Act.put, List.setIfInBounds_toArray, List.set_cons_zero, List.set_cons_succ]
              refine wpAnyH_take (i := 11) (v := undef) rfl (by kernel_rfl) (by kernel_rfl) (by kernel_rfl) (fun _ _ _ h => h) (Or.inr ⟨by rfl, rfl⟩) (by assumption) ?_
              try simp only [List.getElem_toArray, List.getElem_cons_succ, List.getElem_cons_zero, Act.put, List.setIfInBounds_toArray, List.set_cons_zero, List.set_cons_succ]
              refine wpAnyH_take (i := 12) (v := undef) rfl (by kernel_rfl) (by kernel_rfl) (by kernel_rfl) (fun _ _ _ h => h) (Or.inr ⟨by rfl, rfl⟩) (by assumption) ?_
              try simp only [List.getElem_toArray, List.getElem_cons_succ, List.getElem_cons_zero, Act.put, List.setIfInBounds_toArray, List.set_cons_zero, List.set_cons_succ]
              refine wpAnyH_take (i := 13) (v := undef) rfl (by kernel_rfl) (by kernel_rfl) (by kernel_rfl) (fun _ _ _ h => h) (Or.inr ⟨by rfl, rfl⟩) (by assumption) ?_
              try simp only [List.getElem_toArray, List.getElem_cons_succ, List.getElem_cons_zero, Act.put, List.setIfInBounds_toArray, List.set_cons_zero, List.set_cons_succ]
              refine wpAnyH_take (i := 14) (v := ?_) rfl (by kernel_rfl) (by kernel_rfl) (by kernel_rfl) (fun _ _ _ h => h) (Or.inl ⟨by rfl, ?_⟩) (by assumption) ?_
              rotate_left
              focus
                intro w hSw
                try dsimp only at hSw
                go_simp
                try with_reducible rfl
              try simp only [List.getElem_toArray, List.getElem_cons_succ, List.getElem_cons_zero, Act.put, List.setIfInBounds_toArray, List.set_cons_zero, List.set_cons_succ]
              refine wpAnyH_take (i := 15) (v := ?_) rfl (by kernel_rfl) (by kernel_rfl) (by kernel_rfl) (fun _ _ _ h => h) (Or.inl ⟨by rfl, ?_⟩) (by assumption) ?_
              rotate_left
              focus
                intro w hSw
                try dsimp only at hSw
                go_simp
                try with_reducible rfl
              try simp only [List.getElem_toArray, List.getElem_cons_succ, List.getElem_cons_zero, Act.put, List.setIfInBounds_toArray, List.set_cons_zero, List.set_cons_succ]
              refine wpAnyH_take (i := 16) (v := ?_) rfl (by kernel_rfl) (by kernel_rfl) (by kernel_rfl) (fun _ _ _ h => h) (Or.inl ⟨by rfl, ?_⟩) (by assumption) ?_
              rotate_left
              focus
                intro w hSw
                try dsimp only at hSw
                go_simp
                try with_reducible rfl
              try simp only [List.getElem_toArray, List.getElem_cons_succ, List.getElem_cons_zero, Act.put, List.setIfInBounds_toArray, List.set_cons_zero, List.set_cons_succ]
              refine wpAnyH_take (i := 17) (v := ?_) rfl (by kernel_rfl) (by kernel_rfl) (by kernel_rfl) (fun _ _ _ h => h) (Or.inl ⟨by rfl, ?_⟩) (by assumption) ?_
              rotate_left
              focus
                intro w hSw
                try dsimp only at hSw
                go_simp
                try with_reducible rfl
              try simp only [List.getElem_toArray, List.getElem_cons_succ, List.getElem_cons_zero, Act.put, List.setIfInBounds_toArray, List.set_cons_zero, List.set_cons_succ]
              refine wpAnyH_take (i := 18) (v := ?_) rfl (by kernel_rfl) (by kernel_rfl) (by kernel_rfl) (fun _ _ _ h => h) (Or.inl ⟨by rfl, ?_⟩) (by assumption) ?_
              rotate_left
              focus
                intro w hSw
                try dsimp only at hSw
                go_simp
                try with_reducible rfl
              try simp only [List.getElem_toArray, List.getElem_cons_succ, List.getElem_cons_zero, Act.put, List.setIfInBounds_toArray, List.set_cons_zero, List.set_cons_succ]
              refine wpAnyH_take (i := 19) (v := ?_) rfl (by kernel_rfl) (by kernel_rfl) (by kernel_rfl) (fun _ _ _ h => h) (Or.inl ⟨by rfl, ?_⟩) (by assumption) ?_
              rotate_left
              focus
                intro w hSw
                try dsimp only at hSw
                go_simp
                try with_reducible rfl
              try simp only [List.getElem_toArray, List.getElem_cons_succ, List.getElem_cons_zero, Act.put, List.setIfInBounds_toArray, List.set_cons_zero, List.set_cons_succ]
              refine wpAnyH_take (i := 20) (v := ?_) rfl (by kernel_rfl) (by kernel_rfl) (by kernel_rfl) (fun _ _ _ h => h) (Or.inl ⟨by rfl, ?_⟩) (by assumption) ?_
              rotate_left
              focus
                intro w hSw
                try dsimp only at hSw
                go_simp
                try with_reducible rfl
              try simp only [List.getElem_toArray, List.getElem_cons_succ, List.getElem_cons_zero, Act.put, List.setIfInBounds_toArray, List.set_cons_zero, List.set_cons_succ]
              refine wpAnyH_take (i := 21) (v := ?_) rfl (by kernel_rfl) (by kernel_rfl) (by kernel_rfl) (fun _ _ _ h => h) (Or.inl ⟨by rfl, ?_⟩) (by assumption) ?_
              rotate_left
              focus
                intro w hSw
                try dsimp only at hSw
                go_simp
                try with_reducible rfl
              try simp only [List.getElem_toArray, List.getElem_cons_succ, List.getElem_cons_zero, Act.put, List.setIfInBounds_toArray, List.set_cons_zero, List.set_cons_succ]
              refine wpAnyH_take (i := 22) (v := ?_) rfl (by kernel_rfl) (by kernel_rfl) (by kernel_rfl) (fun _ _ _ h => h) (Or.inl ⟨by rfl, ?_⟩) (by assumption) ?_
              rotate_left
              focus
                intro w hSw
                try dsimp only at hSw
                go_simp
                try with_reducible rfl
              try simp only [List.getElem_toArray, List.getElem_cons_succ, List.getElem_cons_zero, Act.put, List.setIfInBounds_toArray, List.set_cons_zero, List.set_cons_succ]
              refine wpAnyH_take (i := 23) (v := ?_) rfl (by kernel_rfl) (by kernel_rfl) (by kernel_rfl) (fun _ _ _ h => h) (Or.inl ⟨by rfl, ?_⟩) (by assumption) ?_
              rotate_left
              focus
                intro w hSw
                try dsimp only at hSw
                go_simp
                try with_reducible rfl
              try simp only [List.getElem_toArray, List.getElem_cons_succ, List.getElem_cons_zero, Act.put, List.setIfInBounds_toArray, List.set_cons_zero, List.set_cons_succ]
              refine wpAnyH_take (i := 24) (v := ?_) rfl (by kernel_rfl) (by kernel_rfl) (by kernel_rfl) (fun _ _ _ h => h) (Or.inl ⟨by rfl, ?_⟩) (by assumption) ?_
              rotate_left
              focus
                intro w hSw
                try dsimp only at hSw
                go_simp
                try with_reducible rfl
              try simp only [List.getElem_toArray, List.getElem_cons_succ, List.getElem_cons_zero, Act.put, List.setIfInBounds_toArray, List.set_cons_zero, List.set_cons_succ]
              refine wpAnyH_take (i := 25) (v := ?_) rfl (by kernel_rfl) (by kernel_rfl) (by kernel_rfl) (fun _ _ _ h => h) (Or.inl ⟨by rfl, ?_⟩) (by assumption) ?_
              rotate_left
              focus
                intro w hSw
                try dsimp only at hSw
                go_simp
                try with_reducible rfl
              try simp only [List.getElem_toArray, List.getElem_cons_succ, List.getElem_cons_zero, Act.put, List.setIfInBounds_toArray, List.set_cons_zero, List.set_cons_succ]
              refine wpAnyH_take (i := 27) (v := ?_) rfl (by kernel_rfl) (by kernel_rfl) (by kernel_rfl) (fun _ _ _ h => h) (Or.inl ⟨by rfl, ?_⟩) (by assumption) ?_
              rotate_left
              focus
                intro w hSw
                try dsimp only at hSw
                go_simp
                try with_reducible rfl
              try simp only [List.getElem_toArray, List.getElem_cons_succ, List.getElem_cons_zero, Act.put, List.setIfInBounds_toArray, List.set_cons_zero, List.set_cons_succ]
              refine wpAnyH_take (i := 28) (v := ?_) rfl (by kernel_rfl) (by kernel_rfl) (by kernel_rfl) (fun _ _ _ h => h) (Or.inl ⟨by rfl, ?_⟩) (by assumption) ?_
              rotate_left
              focus
                intro w hSw
                try dsimp only at hSw
                go_simp
                try with_reducible rfl
              try simp only [List.getElem_toArray, List.getElem_cons_succ, List.getElem_cons_zero, Act.put, List.setIfInBounds_toArray, List.set_cons_zero, List.set_cons_succ]
              refine wpAnyH_ready (rs := [26]) (by kernel_rfl) (by simp) ?_
              refine AllReadyH.cons rfl (fun K hK => ?_) AllReadyH.nil
              rw [if_pos (by rfl)]
              go_simp
              go_at_call 9
              refine (HTHM.out w8 HD8.out).mono ?_
              rintro e w9 ⟨rfl, hb9⟩
              have hc9 : Below wc.heap.size wc w9 := HC8.out.trans (hb9.mono HC8.out.size)
              obtain ⟨q9, ls1, ls2, ls3, ls4⟩ := HK20.out w9 hc9
              have HC9 := hide hc9
              clear hb9 hc9 hHeld q8 lr1 lr2 lr3 lr4
              try go_wp2_with fail
              refine hK.out _ _ q9 (fun hHeld => ?_)
              clear hK K
              try simp only [List.getElem_toArray, List.getElem_cons_succ, List.getElem_cons_zero, Act.put, List.setIfInBounds_toArray, List.set_cons_zero, List.set_cons_succ]
              refine wpAnyH_take (i := 29) (v := ?_) rfl (by kernel_rfl) (by kernel_rfl) (by kernel_rfl) (fun _ _ _ h => h) (Or.inl ⟨by rfl, ?_⟩) (by assumption) ?_
              rotate_left
              focus
                intro w hSw
                try dsimp only at hSw
                go_simp
                try with_reducible rfl
              try simp only [List.getElem_toArray, List.getElem_cons_succ, List.getElem_cons_zero, Act.put, List.setIfInBounds_toArray, List.set_cons_zero, List.set_cons_succ]
              refine wpAnyH_take (i := 30) (v := ?_) rfl (by kernel_rfl) (by kernel_rfl) (by kernel_rfl) (fun _ _ _ h => h) (Or.inl ⟨by rfl, ?_⟩) (by assumption) ?_
              rotate_left
              focus
                intro w hSw
                try dsimp only at hSw
                go_simp
                try with_reducible rfl
              try simp only [List.getElem_toArray, List.getElem_cons_succ, List.getElem_cons_zero, Act.put, List.setIfInBounds_toArray, List.set_cons_zero, List.set_cons_succ]
              refine wpAnyH_take (i := 31) (v := ?_) rfl (by kernel_rfl) (by kernel_rfl) (by kernel_rfl) (fun _ _ _ h => h) (Or.inl ⟨by rfl, ?_⟩) (by assumption) ?_
              rotate_left
              focus
                intro w hSw
                try dsimp only at hSw
                go_simp
                try with_reducible rfl
              try simp only [List.getElem_toArray, List.getElem_cons_succ, List.getElem_cons_zero, Act.put, List.setIfInBounds_toArray, List.set_cons_zero, List.set_cons_succ]
              refine wpAnyH_done (by kernel_rfl) ?_ _
              clear hHeld
              go_wp2
              go_roundw
              case rel => exact ⟨j + 1, by have := HLJ.out; omega, by go_num, HBJ.out.trans ((HBD.out.trans (HC9.out.mono hszc)).mono hszq)⟩
              case measure => have := HLJ.out; simp [intOf]; omega
            · subst hx1
              by_cases hx2 : tn = xn
              · rw [hx2] at HTHN
                clear hx2
                refine wp_region_held_drew (S := (fun w' => w'.cell? ⟨h7, 0, none⟩ = some (.slice Gk lk hk2) ∧ w'.cell? ⟨h7, 1, none⟩ = some (.slice Gb lb hb2) ∧ w'.cell? ⟨h7, 2, none⟩ = some (.int .i64 fp) ∧ w'.cell? ⟨h7, 3, none⟩ = some (.int .i64 fr) ∧ w'.cell? ⟨h7, 4, none⟩ = some (.slice (some ⟨bG, oG, none⟩) gl hs2) ∧ w'.cell? ⟨h6, 4, none⟩ = some (.slice (some ⟨bF, oF, none⟩) ls cs) ∧ w'.cell? ⟨h9, 0, none⟩ = some (.int .i64 23) ∧ w'.cell? ⟨h9, 4, none⟩ = some (.int .i64 xn) ∧ w'.cell? ⟨h9, 5, none⟩ = some (.int .i64 xm) ∧ w'.cell? ⟨h10, 4, none⟩ = some (.int .i64 yn) ∧ w'.cell? ⟨h10, 5, none⟩ = some (.int .i64 ym))) (by kernel_rfl) ⟨p0, p1, p2, p3, p4, p5, p6, p7, p8, p9, p10⟩ (fun hHeld => ?_)
                refine wpAnyH_take (i := 0) (v := ?_) rfl (by kernel_rfl) (by kernel_rfl) (by kernel_rfl) (fun _ _ _ h => h) (Or.inl ⟨by rfl, ?_⟩) (by assumption) ?_
                rotate_left
                focus
                  intro w hSw
                  try dsimp only at hSw
                  go_simp
                  try with_reducible rfl
                try simp only [List.getElem_toArray, List.getElem_cons_succ, List.getElem_cons_zero, Act.put, List.setIfInBounds_toArray, List.set_cons_zero, List.set_cons_succ]
                refine wpAnyH_take (i := 1) (v := ?_) rfl (by kernel_rfl) (by kernel_rfl) (by kernel_rfl) (fun _ _ _ h => h) (Or.inl ⟨by rfl, ?_⟩) (by assumption) ?_
                rotate_left
                focus
                  intro w hSw
                  try dsimp only at hSw
                  go_simp
                  try with_reducible rfl
                try simp only [List.getElem_toArray, List.getElem_cons_succ, List.getElem_cons_zero, Act.put, List.setIfInBounds_toArray, List.set_cons_zero, List.set_cons_succ]
                refine wpAnyH_take (i := 2) (v := ?_) rfl (by kernel_rfl) (by kernel_rfl) (by kernel_rfl) (fun _ _ _ h => h) (Or.inl ⟨by rfl, ?_⟩) (by assumption) ?_
                rotate_left
                focus
                  intro w hSw
                  try dsimp only at hSw
                  go_simp
                  try with_reducible rfl
                try simp only [List.getElem_toArray, List.getElem_cons_succ, List.getElem_cons_zero, Act.put, List.setIfInBounds_toArray, List.set_cons_zero, List.set_cons_succ]
                refine wpAnyH_take (i := 3) (v := ?_) rfl (by kernel_rfl) (by kernel_rfl) (by kernel_rfl) (fun _ _ _ h => h) (Or.inl ⟨by rfl, ?_⟩) (by assumption) ?_
                rotate_left
                focus
                  intro w hSw
                  try dsimp only at hSw
                  go_simp
                  try with_reducible rfl
                try simp only [List.getElem_toArray, List.getElem_cons_succ, List.getElem_cons_zero, Act.put, List.setIfInBounds_toArray, List.set_cons_zero, List.set_cons_succ]
                refine wpAnyH_take (i := 4) (v := ?_) rfl (by kernel_rfl) (by kernel_rfl) (by kernel_rfl) (fun _ _ _ h => h) (Or.inl ⟨by rfl, ?_⟩) (by assumption) ?_
                rotate_left
                focus
                  intro w hSw
                  try dsimp only at hSw
                  go_simp
                  try with_reducible rfl
                try simp only [List.getElem_toArray, List.getElem_cons_succ, List.getElem_cons_zero, Act.put, List.setIfInBounds_toArray, List.set_cons_zero, List.set_cons_succ]
                refine wpAnyH_take (i := 5) (v := ?_) rfl (by kernel_rfl) (by kernel_rfl) (by kernel_rfl) (fun _ _ _ h => h) (Or.inl ⟨by rfl, ?_⟩) (by assumption) ?_
                rotate_left
                focus
                  intro w hSw
                  try dsimp only at hSw
                  go_simp
                  try with_reducible rfl
                try simp only [List.getElem_toArray, List.getElem_cons_succ, List.getElem_cons_zero, Act.put, List.setIfInBounds_toArray, List.set_cons_zero, List.set_cons_succ]
                refine wpAnyH_take (i := 7) (v := ?_) rfl (by kernel_rfl) (by kernel_rfl) (by kernel_rfl) (fun _ _ _ h => h) (Or.inl ⟨by rfl, ?_⟩) (by assumption) ?_
                rotate_left
                focus
                  intro w hSw
                  try dsimp only at hSw
                  go_simp
                  try with_reducible rfl
                try simp only [List.getElem_toArray, List.getElem_cons_succ, List.getElem_cons_zero, Act.put, List.setIfInBounds_toArray, List.set_cons_zero, List.set_cons_succ]
                refine wpAnyH_take (i := 8) (v := ?_) rfl (by kernel_rfl) (by kernel_rfl) (by kernel_rfl) (fun _ _ _ h => h) (Or.inl ⟨by rfl, ?_⟩) (by assumption) ?_
                rotate_left
                focus
                  intro w hSw
                  try dsimp only at hSw
                  go_simp
                  try with_reducible rfl
                try simp only [List.getElem_toArray, List.getElem_cons_succ, List.getElem_cons_zero, Act.put, List.setIfInBounds_toArray, List.set_cons_zero, List.set_cons_succ]
                refine wpAnyH_ready (rs := [6]) (by kernel_rfl) (by simp) ?_
                refine AllReadyH.cons rfl (fun K hK => ?_) AllReadyH.nil
                rw [if_pos (by rfl)]
                go_simp
                go_at_call 9
                refine (HTHN.out _ (below_drewN HCD.out 1)).mono ?_
                rintro e w8 ⟨rfl, hb8⟩
                have hc8 : Below wc.heap.size wc w8 := ⟨hb8.os, hb8.tape, hb8.output, hb8.size, hb8.block⟩
                obtain ⟨q8, lr1, lr2, lr3, lr4⟩ := HK20.out w8 hc8
                have HC8 := hide hc8
                have HD8 := hide (HCD.out.trans (hc8.mono hszd))
                clear hb8 hc8 hHeld p0 p1 p2 p3 p4 p5 p6 p7 p8 p9 p10 lq1 lq2 lq3 lq4
                try go_wp2_with fail
                refine hK.out _ _ q8 (fun hHeld => ?_)
                clear hK K
                try simp only [List.getElem_toArray, List.getElem_cons_succ, List.getElem_cons_zero, Act.put, List.setIfInBounds_toArray, List.set_cons_zero, List.set_cons_succ]
                refine wpAnyH_take (i := 9) (v := ?_) rfl (by kernel_rfl) (by kernel_rfl) (by kernel_rfl) (fun _ _ _ h => h) (Or.inl ⟨by rfl, ?_⟩) (by assumption) ?_
                rotate_left
                focus
                  intro w hSw
                  try dsimp only at hSw
                  go_simp
                  try with_reducible rfl
                try simp only [List.getElem_toArray, List.getElem_cons_succ, List.getElem_cons_zero, Act.put, List.setIfInBounds_toArray, List.set_cons_zero, List.set_cons_succ]
                refine wpAnyH_take (i := 10) (v := ?_) rfl (by kernel_rfl) (by kernel_rfl) (by kernel_rfl) (fun _ _ _ h => h) (Or.inl ⟨by rfl, ?_⟩) (by assumption) ?_
                rotate_left
                focus
                  intro w hSw
                  try dsimp only at hSw
                  go_simp
                  try with_reducible rfl
                try simp only [List.getElem_toArray, List.getElem_cons_succ, List.getElem_cons_zero, Act.put, List.setIfInBounds_toArray, List.set_cons_zero, List.set_cons_succ]
                refine wpAnyH_take (i := 11) (v := undef) rfl (by kernel_rfl) (by kernel_rfl) (by kernel_rfl) (fun _ _ _ h => h) (Or.inr ⟨by rfl, rfl⟩) (by assumption) ?_
                try simp only [List.getElem_toArray, List.getElem_cons_succ, List.getElem_cons_zero, Act.put, List.setIfInBounds_toArray, List.set_cons_zero, List.set_cons_succ]
                refine wpAnyH_take (i := 12) (v := undef) rfl (by kernel_rfl) (by kernel_rfl) (by kernel_rfl) (fun _ _ _ h => h) (Or.inr ⟨by rfl, rfl⟩) (by assumption) ?_
                try simp only [List.getElem_toArray, List.getElem_cons_succ, List.getElem_cons_zero, Act.put, List.setIfInBounds_toArray, List.set_cons_zero, List.set_cons_succ]
                refine wpAnyH_take (i := 13) (v := undef) rfl (by kernel_rfl) (by kernel_rfl) (by kernel_rfl) (fun _ _ _ h => h) (Or.inr ⟨by rfl, rfl⟩) (by assumption) ?_
                try simp only [List.getElem_toArray, List.getElem_cons_succ, List.getElem_cons_zero, Act.put, List.setIfInBounds_toArray, List.set_cons_zero, List.set_cons_succ]
                refine wpAnyH_take (i := 14) (v := ?_) rfl (by kernel_rfl) (by kernel_rfl) (by kernel_rfl) (fun _ _ _ h => h) (Or.inl ⟨by rfl, ?_⟩) (by assumption) ?_
                rotate_left
                focus
                  intro w hSw
                  try dsimp only at hSw
                  go_simp
                  try with_reducible rfl
                try simp only [List.getElem_toArray, List.getElem_cons_succ, List.getElem_cons_zero, Act.put, List.setIfInBounds_toArray, List.set_cons_zero, List.set_cons_succ]
                refine wpAnyH_take (i := 15) (v := ?_) rfl (by kernel_rfl) (by kernel_rfl) (by kernel_rfl) (fun _ _ _ h => h) (Or.inl ⟨by rfl, ?_⟩) (by assumption) ?_
                rotate_left
                focus
                  intro w hSw
                  try dsimp only at hSw
                  go_simp
                  try with_reducible rfl
                try simp only [List.getElem_toArray, List.getElem_cons_succ, List.getElem_cons_zero, Act.put, List.setIfInBounds_toArray, List.set_cons_zero, List.set_cons_succ]
                refine wpAnyH_take (i := 16) (v := ?_) rfl (by kernel_rfl) (by kernel_rfl) (by kernel_rfl) (fun _ _ _ h => h) (Or.inl ⟨by rfl, ?_⟩) (by assumption) ?_
                rotate_left
                focus
                  intro w hSw
                  try dsimp only at hSw
                  go_simp
                  try with_reducible rfl
                try simp only [List.getElem_toArray, List.getElem_cons_succ, List.getElem_cons_zero, Act.put, List.setIfInBounds_toArray, List.set_cons_zero, List.set_cons_succ]
                refine wpAnyH_take (i := 17) (v := ?_) rfl (by kernel_rfl) (by kernel_rfl) (by kernel_rfl) (fun _ _ _ h => h) (Or.inl ⟨by rfl, ?_⟩) (by assumption) ?_
                rotate_left
                focus
                  intro w hSw
                  try dsimp only at hSw
                  go_simp
                  try with_reducible rfl
                try simp only [List.getElem_toArray, List.getElem_cons_succ, List.getElem_cons_zero, Act.put, List.setIfInBounds_toArray, List.set_cons_zero, List.set_cons_succ]
                refine wpAnyH_take (i := 18) (v := ?_) rfl (by kernel_rfl) (by kernel_rfl) (by kernel_rfl) (fun _ _ _ h => h) (Or.inl ⟨by rfl, ?_⟩) (by assumption) ?_
                rotate_left
                focus
                  intro w hSw
                  try dsimp only at hSw
                  go_simp
                  try with_reducible rfl
                try simp only [List.getElem_toArray, List.getElem_cons_succ, List.getElem_cons_zero, Act.put, List.setIfInBounds_toArray, List.set_cons_zero, List.set_cons_succ]
                refine wpAnyH_take (i := 19) (v := ?_) rfl (by kernel_rfl) (by kernel_rfl) (by kernel_rfl) (fun _ _ _ h => h) (Or.inl ⟨by rfl, ?_⟩) (by assumption) ?_
                rotate_left
                focus
                  intro w hSw
                  try dsimp only at hSw
                  go_simp
                  try with_reducible rfl
                try simp only [List.getElem_toArray, List.getElem_cons_succ, List.getElem_cons_zero, Act.put, List.setIfInBounds_toArray, List.set_cons_zero, List.set_cons_succ]
                refine wpAnyH_take (i := 20) (v := undef) rfl (by kernel_rfl) (by kernel_rfl) (by kernel_rfl) (fun _ _ _ h => h) (Or.inr ⟨by rfl, rfl⟩) (by assumption) ?_
                try simp only [List.getElem_toArray, List.getElem_cons_succ, List.getElem_cons_zero, Act.put, List.setIfInBounds_toArray, List.set_cons_zero, List.set_cons_succ]
                refine wpAnyH_take (i := 21) (v := undef) rfl (by kernel_rfl) (by kernel_rfl) (by kernel_rfl) (fun _ _ _ h => h) (Or.inr ⟨by rfl, rfl⟩) (by assumption) ?_
                try simp only [List.getElem_toArray, List.getElem_cons_succ, List.getElem_cons_zero, Act.put, List.setIfInBounds_toArray, List.set_cons_zero, List.set_cons_succ]
                refine wpAnyH_take (i := 22) (v := undef) rfl (by kernel_rfl) (by kernel_rfl) (by kernel_rfl) (fun _ _ _ h => h) (Or.inr ⟨by rfl, rfl⟩) (by assumption) ?_
                try simp only [List.getElem_toArray, List.getElem_cons_succ, List.getElem_cons_zero, Act.put, List.setIfInBounds_toArray, List.set_cons_zero, List.set_cons_succ]
                refine wpAnyH_take (i := 23) (v := undef) rfl (by kernel_rfl) (by kernel_rfl) (by kernel_rfl) (fun _ _ _ h => h) (Or.inr ⟨by rfl, rfl⟩) (by assumption) ?_
                try simp only [List.getElem_toArray, List.getElem_cons_succ, List.getElem_cons_zero, Act.put, List.setIfInBounds_toArray, List.set_cons_zero, List.set_cons_succ]
                refine wpAnyH_take (i := 24) (v := undef) rfl (by kernel_rfl) (by kernel_rfl) (by kernel_rfl) (fun _ _ _ h => h) (Or.inr ⟨by rfl, rfl⟩) (by assumption) ?_
                try simp only [List.getElem_toArray, List.getElem_cons_succ, List.getElem_cons_zero, Act.put, List.setIfInBounds_toArray, List.set_cons_zero, List.set_cons_succ]
                refine wpAnyH_take (i := 25) (v := undef) rfl (by kernel_rfl) (by kernel_rfl) (by kernel_rfl) (fun _ _ _ h => h) (Or.inr ⟨by rfl, rfl⟩) (by assumption) ?_
                try simp only [List.getElem_toArray, List.getElem_cons_succ, List.getElem_cons_zero, Act.put, List.setIfInBounds_toArray, List.set_cons_zero, List.set_cons_succ]
                refine wpAnyH_take (i := 26) (v := undef) rfl (by kernel_rfl) (by kernel_rfl) (by kernel_rfl) (fun _ _ _ h => h) (Or.inr ⟨by rfl, rfl⟩) (by assumption) ?_
                try simp only [List.getElem_toArray, List.getElem_cons_succ, List.getElem_cons_zero, Act.put, List.setIfInBounds_toArray, List.set_cons_zero, List.set_cons_succ]
                refine wpAnyH_take (i := 27) (v := undef) rfl (by kernel_rfl) (by kernel_rfl) (by kernel_rfl) (fun _ _ _ h => h) (Or.inr ⟨by rfl, rfl⟩) (by assumption) ?_
                try simp only [List.getElem_toArray, List.getElem_cons_succ, List.getElem_cons_zero, Act.put, List.setIfInBounds_toArray, List.set_cons_zero, List.set_cons_succ]
                refine wpAnyH_take (i := 28) (v := undef) rfl (by kernel_rfl) (by kernel_rfl) (by kernel_rfl) (fun _ _ _ h => h) (Or.inr ⟨by rfl, rfl⟩) (by assumption) ?_
                try simp only [List.getElem_toArray, List.getElem_cons_succ, List.getElem_cons_zero, Act.put, List.setIfInBounds_toArray, List.set_cons_zero, List.set_cons_succ]
                refine wpAnyH_take (i := 29) (v := undef) rfl (by kernel_rfl) (by kernel_rfl) (by kernel_rfl) (fun _ _ _ h => h) (Or.inr ⟨by rfl, rfl⟩) (by assumption) ?_
                try simp only [List.getElem_toArray, List.getElem_cons_succ, List.getElem_cons_zero, Act.put, List.setIfInBounds_toArray, List.set_cons_zero, List.set_cons_succ]
                refine wpAnyH_take (i := 30) (v := ?_) rfl (by kernel_rfl) (by kernel_rfl) (by kernel_rfl) (fun _ _ _ h => h) (Or.inl ⟨by rfl, ?_⟩) (by assumption) ?_
                rotate_left
                focus
                  intro w hSw
                  try dsimp only at hSw
                  go_simp
                  try with_reducible rfl
                try simp only [List.getElem_toArray, List.getElem_cons_succ, List.getElem_cons_zero, Act.put, List.setIfInBounds_toArray, List.set_cons_zero, List.set_cons_succ]
                refine wpAnyH_take (i := 31) (v := ?_) rfl (by kernel_rfl) (by kernel_rfl) (by kernel_rfl) (fun _ _ _ h => h) (Or.inl ⟨by rfl, ?_⟩) (by assumption) ?_
                rotate_left
                focus
                  intro w hSw
                  try dsimp only at hSw
                  go_simp
                  try with_reducible rfl
                try simp only [List.getElem_toArray, List.getElem_cons_succ, List.getElem_cons_zero, Act.put, List.setIfInBounds_toArray, List.set_cons_zero, List.set_cons_succ]
                refine wpAnyH_done (by kernel_rfl) ?_ _
                clear hHeld
                go_wp2
                go_roundw
                case rel => exact ⟨j + 1, by have := HLJ.out; omega, by go_num, HBJ.out.trans ((HBD.out.trans (HC8.out.mono hszc)).mono hszq)⟩
                case measure => have := HLJ.out; simp [intOf]; omega
              · have q : (tn == xn) = false := by simpa using hx2
                have q2 : decide (tn = xn) = false := decide_eq_false hx2
                have q3 : (tn != xn) = true := by simpa using hx2
                refine wp_region_held_drew (S := (fun w' => w'.cell? ⟨h7, 0, none⟩ = some (.slice Gk lk hk2) ∧ w'.cell? ⟨h7, 1, none⟩ = some (.slice Gb lb hb2) ∧ w'.cell? ⟨h7, 2, none⟩ = some (.int .i64 fp) ∧ w'.cell? ⟨h7, 3, none⟩ = some (.int .i64 fr) ∧ w'.cell? ⟨h7, 4, none⟩ = some (.slice (some ⟨bG, oG, none⟩) gl hs2) ∧ w'.cell? ⟨h6, 4, none⟩ = some (.slice (some ⟨bF, oF, none⟩) ls cs) ∧ w'.cell? ⟨h9, 0, none⟩ = some (.int .i64 23) ∧ w'.cell? ⟨h9, 4, none⟩ = some (.int .i64 xn) ∧ w'.cell? ⟨h9, 5, none⟩ = some (.int .i64 xm) ∧ w'.cell? ⟨h10, 4, none⟩ = some (.int .i64 yn) ∧ w'.cell? ⟨h10, 5, none⟩ = some (.int .i64 ym))) (by kernel_rfl) ⟨p0, p1, p2, p3, p4, p5, p6, p7, p8, p9, p10⟩ (fun hHeld => ?_)
                refine wpAnyH_take (i := 0) (v := ?_) rfl (by kernel_rfl) (by kernel_rfl) (by kernel_rfl) (fun _ _ _ h => h) (Or.inl ⟨by rfl, ?_⟩) (by assumption) ?_
                rotate_left
                focus
                  intro w hSw
                  try dsimp only at hSw
                  go_simp
                  try with_reducible rfl
                try simp only [List.getElem_toArray, List.getElem_cons_succ, List.getElem_cons_zero, Act.put, List.setIfInBounds_toArray, List.set_cons_zero, List.set_cons_succ]
                refine wpAnyH_take (i := 1) (v := ?_) rfl (by kernel_rfl) (by kernel_rfl) (by kernel_rfl) (fun _ _ _ h => h) (Or.inl ⟨by rfl, ?_⟩) (by assumption) ?_
                rotate_left
                focus
                  intro w hSw
                  try dsimp only at hSw
                  go_simp
                  try with_reducible rfl
                try simp only [List.getElem_toArray, List.getElem_cons_succ, List.getElem_cons_zero, Act.put, List.setIfInBounds_toArray, List.set_cons_zero, List.set_cons_succ]
                refine wpAnyH_take (i := 2) (v := ?_) rfl (by kernel_rfl) (by kernel_rfl) (by kernel_rfl) (fun _ _ _ h => h) (Or.inl ⟨by rfl, ?_⟩) (by assumption) ?_
                rotate_left
                focus
                  intro w hSw
                  try dsimp only at hSw
                  go_simp
                  try with_reducible rfl
                try simp only [List.getElem_toArray, List.getElem_cons_succ, List.getElem_cons_zero, Act.put, List.setIfInBounds_toArray, List.set_cons_zero, List.set_cons_succ]
                refine wpAnyH_take (i := 3) (v := ?_) rfl (by kernel_rfl) (by kernel_rfl) (by kernel_rfl) (fun _ _ _ h => h) (Or.inl ⟨by rfl, ?_⟩) (by assumption) ?_
                rotate_left
                focus
                  intro w hSw
                  try dsimp only at hSw
                  go_simp
                  try with_reducible rfl
                try simp only [List.getElem_toArray, List.getElem_cons_succ, List.getElem_cons_zero, Act.put, List.setIfInBounds_toArray, List.set_cons_zero, List.set_cons_succ]
                refine wpAnyH_take (i := 4) (v := ?_) rfl (by kernel_rfl) (by kernel_rfl) (by kernel_rfl) (fun _ _ _ h => h) (Or.inl ⟨by rfl, ?_⟩) (by assumption) ?_
                rotate_left
                focus
                  intro w hSw
                  try dsimp only at hSw
                  go_simp
                  try with_reducible rfl
                try simp only [List.getElem_toArray, List.getElem_cons_succ, List.getElem_cons_zero, Act.put, List.setIfInBounds_toArray, List.set_cons_zero, List.set_cons_succ]
                refine wpAnyH_take (i := 5) (v := ?_) rfl (by kernel_rfl) (by kernel_rfl) (by kernel_rfl) (fun _ _ _ h => h) (Or.inl ⟨by rfl, ?_⟩) (by assumption) ?_
                rotate_left
                focus
                  intro w hSw
                  try dsimp only at hSw
                  go_simp
                  try with_reducible rfl
                try simp only [List.getElem_toArray, List.getElem_cons_succ, List.getElem_cons_zero, Act.put, List.setIfInBounds_toArray, List.set_cons_zero, List.set_cons_succ]
                refine wpAnyH_take (i := 7) (v := ?_) rfl (by kernel_rfl) (by kernel_rfl) (by kernel_rfl) (fun _ _ _ h => h) (Or.inl ⟨by rfl, ?_⟩) (by assumption) ?_
                rotate_left
                focus
                  intro w hSw
                  try dsimp only at hSw
                  go_simp
                  try with_reducible rfl
                try simp only [List.getElem_toArray, List.getElem_cons_succ, List.getElem_cons_zero, Act.put, List.setIfInBounds_toArray, List.set_cons_zero, List.set_cons_succ]
                refine wpAnyH_take (i := 8) (v := ?_) rfl (by kernel_rfl) (by kernel_rfl) (by kernel_rfl) (fun _ _ _ h => h) (Or.inl ⟨by rfl, ?_⟩) (by assumption) ?_
                rotate_left
                focus
                  intro w hSw
                  try dsimp only at hSw
                  go_simp
                  try with_reducible rfl
                try simp only [List.getElem_toArray, List.getElem_cons_succ, List.getElem_cons_zero, Act.put, List.setIfInBounds_toArray, List.set_cons_zero, List.set_cons_succ]
                refine wpAnyH_ready (rs := [6]) (by kernel_rfl) (by simp) ?_
                refine AllReadyH.cons rfl (fun K hK => ?_) AllReadyH.nil
                rw [if_pos (by rfl)]
                go_simp
                go_at_call 9
                refine (HTHN.out _ (below_drewN HCD.out 1)).mono ?_
                rintro e w8 ⟨rfl, hb8⟩
                have hc8 : Below wc.heap.size wc w8 := ⟨hb8.os, hb8.tape, hb8.output, hb8.size, hb8.block⟩
                obtain ⟨q8, lr1, lr2, lr3, lr4⟩ := HK20.out w8 hc8
                have HC8 := hide hc8
                have HD8 := hide (HCD.out.trans (hc8.mono hszd))
                clear hb8 hc8 hHeld p0 p1 p2 p3 p4 p5 p6 p7 p8 p9 p10 lq1 lq2 lq3 lq4
                try go_wp2_with fail
                refine hK.out _ _ q8 (fun hHeld => ?_)
                clear hK K
                try simp only [List.getElem_toArray, List.getElem_cons_succ, List.getElem_cons_zero, Act.put, List.setIfInBounds_toArray, List.set_cons_zero, List.set_cons_succ]
                refine wpAnyH_take (i := 9) (v := ?_) rfl (by kernel_rfl) (by kernel_rfl) (by kernel_rfl) (fun _ _ _ h => h) (Or.inl ⟨by rfl, ?_⟩) (by assumption) ?_
                rotate_left
                focus
                  intro w hSw
                  try dsimp only at hSw
                  go_simp
                  try with_reducible rfl
                try simp only [List.getElem_toArray, List.getElem_cons_succ, List.getElem_cons_zero, Act.put, List.setIfInBounds_toArray, List.set_cons_zero, List.set_cons_succ]
                refine wpAnyH_take (i := 10) (v := ?_) rfl (by kernel_rfl) (by kernel_rfl) (by kernel_rfl) (fun _ _ _ h => h) (Or.inl ⟨by rfl, ?_⟩) (by assumption) ?_
                rotate_left
                focus
                  intro w hSw
                  try dsimp only at hSw
                  go_simp
                  try with_reducible rfl
                try simp only [List.getElem_toArray, List.getElem_cons_succ, List.getElem_cons_zero, Act.put, List.setIfInBounds_toArray, List.set_cons_zero, List.set_cons_succ]
                refine wpAnyH_take (i := 11) (v := ?_) rfl (by kernel_rfl) (by kernel_rfl) (by kernel_rfl) (fun _ _ _ h => h) (Or.inl ⟨by rfl, ?_⟩) (by assumption) ?_
                rotate_left
                focus
                  intro w hSw
                  try dsimp only at hSw
                  go_simp
                  try with_reducible rfl
                try simp only [List.getElem_toArray, List.getElem_cons_succ, List.getElem_cons_zero, Act.put, List.setIfInBounds_toArray, List.set_cons_zero, List.set_cons_succ]
                refine wpAnyH_take (i := 12) (v := ?_) rfl (by kernel_rfl) (by kernel_rfl) (by kernel_rfl) (fun _ _ _ h => h) (Or.inl ⟨by rfl, ?_⟩) (by assumption) ?_
                rotate_left
                focus
                  intro w hSw
                  try dsimp only at hSw
                  go_simp
                  try with_reducible rfl
                try simp only [List.getElem_toArray, List.getElem_cons_succ, List.getElem_cons_zero, Act.put, List.setIfInBounds_toArray, List.set_cons_zero, List.set_cons_succ]
                refine wpAnyH_take (i := 13) (v := ?_) rfl (by kernel_rfl) (by kernel_rfl) (by kernel_rfl) (fun _ _ _ h => h) (Or.inl ⟨by rfl, ?_⟩) (by assumption) ?_
                rotate_left
                focus
                  intro w hSw
                  try dsimp only at hSw
                  go_simp
                  try with_reducible rfl
                try simp only [List.getElem_toArray, List.getElem_cons_succ, List.getElem_cons_zero, Act.put, List.setIfInBounds_toArray, List.set_cons_zero, List.set_cons_succ]
                refine wpAnyH_take (i := 14) (v := ?_) rfl (by kernel_rfl) (by kernel_rfl) (by kernel_rfl) (fun _ _ _ h => h) (Or.inl ⟨by rfl, ?_⟩) (by assumption) ?_
                rotate_left
                focus
                  intro w hSw
                  try dsimp only at hSw
                  go_simp
                  try with_reducible rfl
                try simp only [List.getElem_toArray, List.getElem_cons_succ, List.getElem_cons_zero, Act.put, List.setIfInBounds_toArray, List.set_cons_zero, List.set_cons_succ]
                refine wpAnyH_take (i := 15) (v := ?_) rfl (by kernel_rfl) (by kernel_rfl) (by kernel_rfl) (fun _ _ _ h => h) (Or.inl ⟨by rfl, ?_⟩) (by assumption) ?_
                rotate_left
                focus
                  intro w hSw
                  try dsimp only at hSw
                  go_simp
                  try with_reducible rfl
                try simp only [List.getElem_toArray, List.getElem_cons_succ, List.getElem_cons_zero, Act.put, List.setIfInBounds_toArray, List.set_cons_zero, List.set_cons_succ]
                refine wpAnyH_take (i := 16) (v := ?_) rfl (by kernel_rfl) (by kernel_rfl) (by kernel_rfl) (fun _ _ _ h => h) (Or.inl ⟨by rfl, ?_⟩) (by assumption) ?_
                rotate_left
                focus
                  intro w hSw
                  try dsimp only at hSw
                  go_simp
                  try with_reducible rfl
                try simp only [List.getElem_toArray, List.getElem_cons_succ, List.getElem_cons_zero, Act.put, List.setIfInBounds_toArray, List.set_cons_zero, List.set_cons_succ]
                refine wpAnyH_take (i := 17) (v := ?_) rfl (by kernel_rfl) (by kernel_rfl) (by kernel_rfl) (fun _ _ _ h => h) (Or.inl ⟨by rfl, ?_⟩) (by assumption) ?_
                rotate_left
                focus
                  intro w hSw
                  try dsimp only at hSw
                  go_simp
                  try with_reducible rfl
                try simp only [List.getElem_toArray, List.getElem_cons_succ, List.getElem_cons_zero, Act.put, List.setIfInBounds_toArray, List.set_cons_zero, List.set_cons_succ]
                refine wpAnyH_take (i := 18) (v := ?_) rfl (by kernel_rfl) (by kernel_rfl) (by kernel_rfl) (fun _ _ _ h => h) (Or.inl ⟨by rfl, ?_⟩) (by assumption) ?_
                rotate_left
                focus
                  intro w hSw
                  try dsimp only at hSw
                  go_simp
                  try with_reducible rfl
                try simp only [List.getElem_toArray, List.getElem_cons_succ, List.getElem_cons_zero, Act.put, List.setIfInBounds_toArray, List.set_cons_zero, List.set_cons_succ]
                refine wpAnyH_take (i := 19) (v := ?_) rfl (by kernel_rfl) (by kernel_rfl) (by kernel_rfl) (fun _ _ _ h => h) (Or.inl ⟨by rfl, ?_⟩) (by assumption) ?_
                rotate_left
                focus
                  intro w hSw
                  try dsimp only at hSw
                  go_simp
                  try with_reducible rfl
                try simp only [List.getElem_toArray, List.getElem_cons_succ, List.getElem_cons_zero, Act.put, List.setIfInBounds_toArray, List.set_cons_zero, List.set_cons_succ]
                refine wpAnyH_take (i := 20) (v := undef) rfl (by kernel_rfl) (by kernel_rfl) (by kernel_rfl) (fun _ _ _ h => h) (Or.inr ⟨by rfl, rfl⟩) (by assumption) ?_
                try simp only [List.getElem_toArray, List.getElem_cons_succ, List.getElem_cons_zero, Act.put, List.setIfInBounds_toArray, List.set_cons_zero, List.set_cons_succ]
                refine wpAnyH_take (i := 21) (v := undef) rfl (by kernel_rfl) (by kernel_rfl) (by kernel_rfl) (fun _ _ _ h => h) (Or.inr ⟨by rfl, rfl⟩) (by assumption) ?_
                try simp only [List.getElem_toArray, List.getElem_cons_succ, List.getElem_cons_zero, Act.put, List.setIfInBounds_toArray, List.set_cons_zero, List.set_cons_succ]
                refine wpAnyH_take (i := 22) (v := undef) rfl (by kernel_rfl) (by kernel_rfl) (by kernel_rfl) (fun _ _ _ h => h) (Or.inr ⟨by rfl, rfl⟩) (by assumption) ?_
                try simp only [List.getElem_toArray, List.getElem_cons_succ, List.getElem_cons_zero, Act.put, List.setIfInBounds_toArray, List.set_cons_zero, List.set_cons_succ]
                refine wpAnyH_take (i := 23) (v := undef) rfl (by kernel_rfl) (by kernel_rfl) (by kernel_rfl) (fun _ _ _ h => h) (Or.inr ⟨by rfl, rfl⟩) (by assumption) ?_
                try simp only [List.getElem_toArray, List.getElem_cons_succ, List.getElem_cons_zero, Act.put, List.setIfInBounds_toArray, List.set_cons_zero, List.set_cons_succ]
                refine wpAnyH_take (i := 24) (v := undef) rfl (by kernel_rfl) (by kernel_rfl) (by kernel_rfl) (fun _ _ _ h => h) (Or.inr ⟨by rfl, rfl⟩) (by assumption) ?_
                try simp only [List.getElem_toArray, List.getElem_cons_succ, List.getElem_cons_zero, Act.put, List.setIfInBounds_toArray, List.set_cons_zero, List.set_cons_succ]
                refine wpAnyH_take (i := 25) (v := undef) rfl (by kernel_rfl) (by kernel_rfl) (by kernel_rfl) (fun _ _ _ h => h) (Or.inr ⟨by rfl, rfl⟩) (by assumption) ?_
                try simp only [List.getElem_toArray, List.getElem_cons_succ, List.getElem_cons_zero, Act.put, List.setIfInBounds_toArray, List.set_cons_zero, List.set_cons_succ]
                refine wpAnyH_take (i := 26) (v := undef) rfl (by kernel_rfl) (by kernel_rfl) (by kernel_rfl) (fun _ _ _ h => h) (Or.inr ⟨by rfl, rfl⟩) (by assumption) ?_
                try simp only [List.getElem_toArray, List.getElem_cons_succ, List.getElem_cons_zero, Act.put, List.setIfInBounds_toArray, List.set_cons_zero, List.set_cons_succ]
                refine wpAnyH_take (i := 27) (v := undef) rfl (by kernel_rfl) (by kernel_rfl) (by kernel_rfl) (fun _ _ _ h => h) (Or.inr ⟨by rfl, rfl⟩) (by assumption) ?_
                try simp only [List.getElem_toArray, List.getElem_cons_succ, List.getElem_cons_zero, Act.put, List.setIfInBounds_toArray, List.set_cons_zero, List.set_cons_succ]
                refine wpAnyH_take (i := 28) (v := undef) rfl (by kernel_rfl) (by kernel_rfl) (by kernel_rfl) (fun _ _ _ h => h) (Or.inr ⟨by rfl, rfl⟩) (by assumption) ?_
                try simp only [List.getElem_toArray, List.getElem_cons_succ, List.getElem_cons_zero, Act.put, List.setIfInBounds_toArray, List.set_cons_zero, List.set_cons_succ]
                refine wpAnyH_take (i := 29) (v := undef) rfl (by kernel_rfl) (by kernel_rfl) (by kernel_rfl) (fun _ _ _ h => h) (Or.inr ⟨by rfl, rfl⟩) (by assumption) ?_
                try simp only [List.getElem_toArray, List.getElem_cons_succ, List.getElem_cons_zero, Act.put, List.setIfInBounds_toArray, List.set_cons_zero, List.set_cons_succ]
                refine wpAnyH_take (i := 30) (v := ?_) rfl (by kernel_rfl) (by kernel_rfl) (by kernel_rfl) (fun _ _ _ h => h) (Or.inl ⟨by rfl, ?_⟩) (by assumption) ?_
                rotate_left
                focus
                  intro w hSw
                  try dsimp only at hSw
                  go_simp
                  try with_reducible rfl
                try simp only [List.getElem_toArray, List.getElem_cons_succ, List.getElem_cons_zero, Act.put, List.setIfInBounds_toArray, List.set_cons_zero, List.set_cons_succ]
                refine wpAnyH_take (i := 31) (v := ?_) rfl (by kernel_rfl) (by kernel_rfl) (by kernel_rfl) (fun _ _ _ h => h) (Or.inl ⟨by rfl, ?_⟩) (by assumption) ?_
                rotate_left
                focus
                  intro w hSw
                  try dsimp only at hSw
                  go_simp
                  try with_reducible rfl
                try simp only [List.getElem_toArray, List.getElem_cons_succ, List.getElem_cons_zero, Act.put, List.setIfInBounds_toArray, List.set_cons_zero, List.set_cons_succ]
                refine wpAnyH_done (by kernel_rfl) ?_ _
                clear hHeld
                go_wp2
                go_roundw
                case rel => exact ⟨j + 1, by have := HLJ.out; omega, by go_num, HBJ.out.trans ((HBD.out.trans (HC8.out.mono hszc)).mono hszq)⟩
                case measure => have := HLJ.out; simp [intOf]; omega
end Go.Proofs.YtnoknodijombpaaDoor
