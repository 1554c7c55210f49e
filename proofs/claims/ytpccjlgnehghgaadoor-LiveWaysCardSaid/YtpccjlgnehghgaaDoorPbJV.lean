/- The statement LiveWays, walked: it answers true. Condition: the table of parts reads as listed; no slice of the program is longer than any machine's memory. -/
import Derived.Test.YtpccjlgnehghgaaDoorPbJU
import Derived.Test.YtpccjlgnehghgaaDoorPbKSX
import Derived.Deep.CutBlock
set_option linter.unusedSimpArgs false
set_option linter.unusedVariables false
namespace Go.Proofs.YtpccjlgnehghgaaDoor
open Go.RowKit

theorem one_lit13 (W : World) (z : Int) : Sl (W.alloc (.cells #[.int .i64 z] 3)) (W.alloc (.cells #[.int .i64 z] 3)).heap.size .i64 (some ⟨W.heap.size, 0, none⟩) [z] := Sl.lit' W 3 .i64 #[.int .i64 z] [z] rfl
theorem rwithW {w : World} {v : Value} {s : List Nat} (h : SetV w v s) (hl : s.length ≤ 1000) (hw : W64 s) (T : Option Addr) (m d : Nat) (l : List Int) (hr : Sl w w.heap.size .i64 T l) (hm : l.length = m) (hm2 : m ≤ 1099511627776) (hR : ∀ z ∈ l, i64R z) :
    Calls Tryd.prog 27 #[v, .slice T m d] w fun e w' => ∃ r, e = .returned r ∧ SetV w' r (joinL [s, ofL l]) ∧ Below w.heap.size w w' := by
  obtain ⟨A, c, rfl, h2, h3, h4⟩ := h
  rw [with_both]
  exact (rwith_any A T s.length c m d s l w h4 rfl h2 h3 (by omega) hw hr hm (by omega) hR).mono fun _ _ h => h.v
theorem box_drew (w : World) (cs : Array Value) (T : TypeId) : Box (w.alloc (.cells cs T)).drew w.heap.size cs T := Box.new w cs T
theorem below_drew9 (w : World) (o : Obj) : Below w.heap.size w (w.alloc o).drew := (alloc1 w o).drew
theorem holdsYes {w : World} {v u : Value} {s t : List Nat} (h : SetV w v s) (h' : SetV w u t) (hs : SetOk s) (ht : SetOk t) (hh : ∀ x : Nat, hasB t (x : Int) = true → hasB s (x : Int) = true) :
    Calls Tryd.prog 24 #[v, u] w fun e w' => e = .returned (.bool true) ∧ Below w.heap.size w w' := by
  have t := holdsV h h' hs ht
  rw [decide_eq_true ((less_none hs ht).2 hh)] at t
  exact t
set_option maxHeartbeats 40000000 in
set_option maxRecDepth 100000 in
theorem ways_law (vp : Value) (p : List FunV) (A1 : Option Addr) (n1 c1 : Nat) (zs : List Int) (w : World) (hT : TabP w) (hp : FunsV w (· < w.heap.size) vp p) (hsz : progSize p) (hsl : Sl w w.heap.size .u8 A1 zs) (hn1 : zs.length = n1) (hby : ∀ z ∈ zs, 0 ≤ z ∧ z ≤ 255) :
    Calls Tryd.prog 4 #[.agg #[vp], .slice A1 n1 c1] w fun e w' => e = .returned (.bool true) ∧ Below w.heap.size w w' := by
  have HKP := hide (fun (W : World) (hW : Below w.heap.size w W) => hp.keep (up hW (Nat.le_refl _)) (fun _ h => h))
  have HTT := hide (fun (W : World) (hW : Below w.heap.size w W) => hT.below hW hT.1)
  have HOUT := hide (fun (W : World) (hW : Below w.heap.size w W) => out11_any vp p W w.heap.size hW.size (hp.keep (up hW (Nat.le_refl _)) (fun _ h => h)) hsz)
  have HALLOK := hide (fun (h : progB4 p = true ∧ progFew p) => @lOk_of p h.1 h.2)
  have HPV := hide hsl
  have HPN := hide hn1
  have HPZ := hide hby
  clear hsl hby
  obtain ⟨A, c, rfl, hpc, hpm⟩ := hp.open'
  obtain ⟨lp, hlp⟩ : ∃ lp, p.length = lp := ⟨_, rfl⟩
  have HLP := hide hlp
  rw [hlp] at HKP HOUT hpc ⊢
  clear hp hsz hlp hT
  by_cases hn70 : n1 ≤ 30
  case neg =>
    have hd70 : decide ((n1 : Int) > 30) = true := by simp; omega
    have hd71 : (n1 : Int) > 30 := by omega
    go_enter Tryd.func4, Tryd.ntmps4
    go_upto_region 1 with (fail)
    obtain ⟨w0, hw0⟩ : ∃ w0, w0 = w.alloc (.cells #[.slice A lp c] 24) := ⟨_, rfl⟩
    have HX0 := hide (show Box w0 w.heap.size #[.slice A lp c] 24 by rw [hw0]; exact Box.new w _ _)
    have HB0 := hide (show Below w.heap.size w w0 by rw [hw0]; exact alloc1 w _)
    rw [← hw0]
    clear hw0
    go_upto_region 3 with (go_at_call 10; refine (alive11_any w0 (HTT.out w0 HB0.out)).mono ?_; rintro e w1 ⟨rfl, hb1⟩; have HX1 := hide (HX0.out.below hb1); have HC1 := hide (HB0.out.trans (hb1.mono HB0.out.size)); clear hb1)
    have x1 := (HX1.out.cell 0 (v := .slice A lp c) rfl).1
    have l1 := HX1.out.lt
    go_wp2_with (go_at_call 11; refine (HOUT.out w1 HC1.out).mono ?_; rintro e w2 ⟨b1, rfl, hs2, hb2⟩; have HB2 := hide (HC1.out.trans (hb2.mono HC1.out.size)); clear x1 hb2 hs2)
    all_goals (go_ret; exact ⟨rfl, HB2.out⟩)
  have hd70 : decide ((n1 : Int) > 30) = false := by simp; omega
  have hd71 : ¬ (n1 : Int) > 30 := by omega
  go_enter Tryd.func4, Tryd.ntmps4
  go_upto_region 1 with (fail)
  obtain ⟨w0, hw0⟩ : ∃ w0, w0 = w.alloc (.cells #[.slice A lp c] 24) := ⟨_, rfl⟩
  have HX0 := hide (show Box w0 w.heap.size #[.slice A lp c] 24 by rw [hw0]; exact Box.new w _ _)
  have HB0 := hide (show Below w.heap.size w w0 by rw [hw0]; exact alloc1 w _)
  rw [← hw0]
  clear hw0
  go_upto_region 3 with (go_at_call 10; refine (alive11_any w0 (HTT.out w0 HB0.out)).mono ?_; rintro e w1 ⟨rfl, hb1⟩; have HX1 := hide (HX0.out.below hb1); have HC1 := hide (HB0.out.trans (hb1.mono HB0.out.size)); clear hb1)
  have x1 := (HX1.out.cell 0 (v := .slice A lp c) rfl).1
  have l1 := HX1.out.lt
  go_upto_region 5 with (go_at_call 11; refine (HOUT.out w1 HC1.out).mono ?_; rintro e w2 ⟨b1, rfl, hs2, hb2⟩; have HB2 := hide (HC1.out.trans (hb2.mono HC1.out.size)); have HX2 := hide (HX1.out.below hb2); have HS2 := hide hs2; clear x1 hb2 hs2)
  all_goals try (go_ret; exact ⟨rfl, HB2.out⟩)
  have hb1f : b1 = false := by first | assumption | exact Bool.eq_false_iff.2 (by assumption)
  subst hb1f
  have HOKS := hide (HALLOK.out (HS2.out.out rfl))
  clear HOUT HALLOK HS2 HC1 HX1 l1
  go_wp2
  go_loopw [5] (fun i wr => ∃ k : Nat, k ≤ lp ∧ i = .int .i64 k ∧ Below w2.heap.size w2 wr) (fun i _ => lp - (intOf i).toNat)
  case atStart => exact ⟨0, Nat.zero_le _, rfl, Below.refl _ _⟩
  case round =>
    obtain ⟨k, hk, rfl, hb'⟩ := hrel
    obtain ⟨wo, rfl⟩ : ∃ wo, wo = wr := ⟨_, rfl⟩
    have hszo := hb'.size
    have HBEL := hide (HB2.out.trans (hb'.mono HB2.out.size))
    have HXO := hide (HX2.out.below hb')
    have HBW := hide hb'
    have xp := (HXO.out.cell 0 (v := .slice A lp c) rfl).1
    have lxp := HXO.out.lt
    clear hb'
    by_cases hlt : k < lp
    case neg =>
      go_wp2
      go_ret
      exact ⟨rfl, HBEL.out⟩
    have HKLT := hide hlt
    obtain ⟨f, hf⟩ : ∃ f, p[k]? = some f := ⟨_, List.getElem?_eq_getElem (by have := HLP.out; omega)⟩
    obtain ⟨b, o, Ak, ck, Ab, cb, As, cs, hA, hbb, ⟨e0, e1, e2, e3, e4⟩, hi⟩ := (HKP.out wo HBEL.out).get hf
    subst hA
    have hbs : b < wo.heap.size := by have := HBEL.out.size; omega
    have HLF := hide (HOKS.out f (List.mem_of_getElem? hf))
    have kI := fun (W : World) (hW : Below wo.heap.size wo W) => hi.keep (w := wo) (S := (· < w.heap.size)) (up hW HBEL.out.size) (fun _ h => h)
    have hsW : ∀ W : World, Below wo.heap.size wo W → w.heap.size ≤ W.heap.size := fun W hW => by have := hW.size; have := HBEL.out.size; omega
    have HTO := hide (fun (W : World) (hW : Below wo.heap.size wo W) => HTT.out W (HBEL.out.trans (hW.mono HBEL.out.size)))
    have hls40 := HLF.out.flow.1
    have hls1 := HLF.out.one
    have HBH := hide (fun (W : World) (hW : Below wo.heap.size wo W) (b i : Int) => behind_any _ _ _ f b i W w.heap.size (hsW W hW) (kI W hW) (HTO.out W hW) HLF.out.flow HLF.out.ne HLF.out.few)
    have HAH := hide (fun (W : World) (hW : Below wo.heap.size wo W) (b i : Int) => ahead_any _ _ _ f b i W w.heap.size (hsW W hW) (kI W hW) (HTO.out W hW) HLF.out.flow HLF.out.ne HLF.out.few)
    have HNX := hide (fun (W : World) (hW : Below wo.heap.size wo W) (n : Int) => rnextN_any _ _ _ f n W w.heap.size (hsW W hW) (kI W hW) HLF.out.flow)
    have HNR := hide (fun (n : Nat) (z : Int) (h : z ∈ nxt f n) => HLF.out.flow.2.2 n z h)
    have HNE := hide (fun (n : Nat) (hn : n < f.blocks.length) => (show nxtI f (n : Int) = nxt f n by unfold nxtI; rw [if_pos (by unfold inB; simp; omega)]; rfl))
    have HNL := hide (fun (n : Nat) => nxt_len f n)
    have HBK := hide (fun (W : World) (hW : Below wo.heap.size wo W) => (kI W hW).2.2.1)
    have HCD := hide (fun (b : Nat) (hb : b < f.blocks.length) => (show ∃ c, f.blocks[b]? = some c ∧ codeOf f b = c ∧ 1 ≤ c.length ∧ c.length ≤ 40 ∧ c ∈ f.blocks from by
      obtain ⟨c, hc⟩ : ∃ c, f.blocks[b]? = some c := ⟨_, List.getElem?_eq_getElem hb⟩
      have h1 : codeOf f b = c := by unfold codeOf; rw [hc]; rfl
      have h2 := HLF.out.ne b hb
      rw [h1] at h2
      exact ⟨c, hc, h1, List.length_pos_iff.2 h2, HLF.out.flow.2.1 c (List.mem_of_getElem? hc), List.mem_of_getElem? hc⟩))
    have HXU := hide (fun (x : InsV) (va : Value) (hx : x.args.length ≤ 1099511627000) (W : World) (hW : Below wo.heap.size wo W) (hxi : InsI W (· < w.heap.size) va x) => uses4_any x va W w.heap.size (hsW W hW) hxi (by omega))
    have HWZ := hide HBEL.out.size
    obtain ⟨ls, hls2⟩ : ∃ ls, f.blocks.length = ls := ⟨_, rfl⟩
    have HLS := hide hls2
    rw [hls2] at HBH HAH HNX HNR HNE HBK HCD e4 hls40 hls1
    have HLSB := hide hls2
    clear hi hf kI hsW hls2
    generalize f.kinds.length = lk, f.base.length = lb, f.params = fp, f.result = fr at *
    have hki : (0 : Int) ≤ (k : Int) := by omega
    have hkl : (k : Int) < (lp : Int) := by omega
    go_upto_region 9 with (fail)
    obtain ⟨w5, hw5⟩ : ∃ w5, w5 = wo.alloc (.cells #[.slice Ak lk ck, .slice Ab lb cb, .int .i64 fp, .int .i64 fr, .slice As ls cs] 30) := ⟨_, rfl⟩
    obtain ⟨h5, hh5⟩ : ∃ h5, wo.heap.size = h5 := ⟨_, rfl⟩
    have HX5 := hide (show Box w5 h5 #[.slice Ak lk ck, .slice Ab lb cb, .int .i64 fp, .int .i64 fr, .slice As ls cs] 30 by rw [hw5, ← hh5]; exact Box.new wo _ _)
    have HB5 := hide (show Below wo.heap.size wo w5 by rw [hw5]; exact alloc1 wo _)
    rw [← hw5, hh5]
    clear hw5 hh5 e0 e1 e2 e3 e4 hbs xp lxp
    have l5 := HX5.out.lt
    have hz5 := HB5.out.size
    have HK5 := hide (fun (W : World) (hW : Below w5.heap.size w5 W) => And.intro ((HX5.out.below hW).cell 0 (v := .slice Ak lk ck) rfl).1 (And.intro ((HX5.out.below hW).cell 1 (v := .slice Ab lb cb) rfl).1 (And.intro ((HX5.out.below hW).cell 2 (v := .int .i64 fp) rfl).1 (And.intro ((HX5.out.below hW).cell 3 (v := .int .i64 fr) rfl).1 ((HX5.out.below hW).cell 4 (v := .slice As ls cs) rfl).1))))
    have HUP := hide (fun (W : World) (hW : Below w5.heap.size w5 W) => HB5.out.trans (hW.mono HB5.out.size))
    go_upto_block 2 with fail
    go_cut [7, 8, 9, 10, 11] from 38 to 83 (fun way b st i nx wx => ∃ (lX : List (Nat × Nat)) (q0 : Nat × Nat), Hid (OwP wx w5.heap.size way (castP lX)) ∧ Hid (WayOk f lX q0) ∧ lX.length ≤ 1300 ∧ Below w5.heap.size w5 wx)
    case first =>
      go_wp2
      go_loopw [7, 8, 9] (fun way b st wr => ∃ (l : List (Nat × Nat)) (bn k2 : Nat), b = .int .i64 bn ∧ st = .int .i64 k2 ∧ k2 ≤ n1 + 1 ∧ bn < ls ∧ l.length ≤ k2 * 40 ∧ Hid (OwP wr w5.heap.size way (castP l)) ∧ Hid (WayOk f l (bn, 0)) ∧ Below w5.heap.size w5 wr) (fun _ _ st _ => n1 + 1 - (intOf st).toNat)
      case atStart => exact ⟨[], 0, 0, rfl, rfl, Nat.zero_le _, by omega, by simp, hide (OwP.nil _ _), hide (WayOk.nil _ _), Below.refl _ _⟩
      case round =>
        obtain ⟨l, bn, k2, rfl, rfl, hk2, hbn, hlk, HOP, HWK, hb2⟩ := hrel
        obtain ⟨wv, rfl⟩ : ∃ wv, wv = wr := ⟨_, rfl⟩
        have HCV := hide hb2
        have lwv := hb2.size
        clear hb2
        obtain ⟨Aw, cw, hvw, hnw, hcw, -⟩ := HOP.out.sl
        rw [castP_len] at hvw hnw
        obtain ⟨nl, hnl⟩ : ∃ n, l.length = n := ⟨_, rfl⟩
        have HNL1 := hide hnl
        rw [hnl] at hvw hnw hlk
        subst hvw
        clear hnl
        by_cases hkn : k2 ≤ n1
        case neg =>
          have hkn2 : ¬ (k2 : Int) ≤ (n1 : Int) := by omega
          go_wp2
          go_meet
          exact ⟨l, _, HOP, HWK, by have := HNL1.out; omega, HCV.out⟩
        have hkn2 : (k2 : Int) ≤ (n1 : Int) := by omega
        obtain ⟨c, hc, hcc, hc1, hc40, hcm⟩ := HCD.out bn hbn
        obtain ⟨ll, hll⟩ : ∃ n, c.length = n := ⟨_, rfl⟩
        have HCLL := hide (show (codeOf f bn).length = ll by rw [hcc]; exact hll)
        rw [hll] at hc1 hc40
        obtain ⟨bb, ob, Al, cl, hAs, hbb, d0, -⟩ := (HBK.out w5 HB5.out).get hc
        rw [hll] at d0
        have hbb5 : bb < w5.heap.size := by have := HWZ.out; omega
        have HD0 := hide (fun (W : World) (hW : Below w5.heap.size w5 W) => (World.cell?_of_block (a := ⟨bb, ob + bn, none⟩) (hW.block bb hbb5)).trans d0)
        have HK5b := hide (fun (W : World) (hW : Below w5.heap.size w5 W) => (show W.cell? ⟨h5, 4, none⟩ = some (.slice (some ⟨bb, ob, none⟩) ls cs) by rw [← hAs]; exact (HK5.out W hW).2.2.2.2))
        have HAS := hide hAs
        clear hc hcc hcm hll d0 hAs
        have hbn0 : (0 : Int) ≤ (bn : Int) := by omega
        have hbn1 : (bn : Int) < (ls : Int) := by omega
        have c4 := HK5b.out wv HCV.out
        have d0 := HD0.out wv HCV.out
        go_wp2
        clear c4 d0
        go_loopw [7, 10] (fun way i wr => ∃ (l2 : List (Nat × Nat)) (i' : Nat), i' ≤ ll ∧ i = .int .i64 i' ∧ l2.length = nl + i' ∧ Hid (OwP wr w5.heap.size way (castP l2)) ∧ Hid (WayOk f l2 (bn, i')) ∧ Below w5.heap.size w5 wr) (fun _ i _ => ll - (intOf i).toNat)
        case atStart => exact ⟨l, 0, Nat.zero_le _, rfl, by rw [HNL1.out]; rfl, HOP, HWK, HCV.out⟩
        case round =>
          obtain ⟨l2, i', hi', rfl, hl2, HO2, HW2, hb3⟩ := hrel
          obtain ⟨wz, rfl⟩ : ∃ wz, wz = wr := ⟨_, rfl⟩
          have HCZ := hide hb3
          have lwz := hb3.size
          clear hb3
          have c4 := HK5b.out wz HCZ.out
          have d0 := HD0.out wz HCZ.out
          obtain ⟨Aw2, cw2, hvw2, hnw2, hcw2, -⟩ := HO2.out.sl
          rw [castP_len] at hvw2 hnw2
          obtain ⟨nl2, hnl2⟩ : ∃ n, l2.length = n := ⟨_, rfl⟩
          have HNL2 := hide hnl2
          rw [hnl2] at hvw2 hnw2 hl2
          subst hvw2
          have HL2 := hide hl2
          clear hnl2 hl2
          by_cases hil : i' < ll
          case pos =>
            have HIL := hide hil
            have HHP := hide (show HereP f (bn, i') from ⟨by rw [HLSB.out]; exact hbn, by show i' < (codeOf f bn).length; rw [HCLL.out]; exact hil⟩)
            have hil2 : (i' : Int) < (ll : Int) := by omega
            obtain ⟨i0, hi0, iz0, iz1, iz2⟩ := info_parts info_place
            go_wp2_with (at_builtin; refine wpList_append_place wz (by rfl) _ _ _ (by rfl) w5.heap.size i0 _ Tryd.underlying39 hi0 iz0 iz1 iz2 rfl (.slice Aw2 nl2 cw2) (castP l2) (by rfl) HO2.out (bn : Int) (i' : Int) (by rfl) (by rw [castP_len, HNL2.out]; have := HL2.out; omega) (by omega) ?_; intro v9 w9 ho9 hb9 hf9 hv9; have HO9 := hide ho9; have HC9 := hide (HCZ.out.trans hb9); clear ho9 hb9 hf9 hv9)
            go_roundw
            case rel => exact ⟨l2 ++ [(bn, i')], i' + 1, by have := HIL.out; omega, by go_num, by rw [List.length_append, HNL2.out, HL2.out]; simp; omega, by rw [castP_snoc]; exact HO9, hide (HW2.out.snoc HHP.out), HC9.out⟩
            case measure => have := HIL.out; simp [intOf]; omega
          obtain rfl : ll = i' := by omega
          have hnll : ¬ ((ll : Int) < (ll : Int)) := by omega
          obtain ⟨c0, c1, c2, c3, -⟩ := HK5.out wz HCZ.out
          obtain ⟨nx, hnx⟩ : ∃ nx, nxt f bn = nx := ⟨_, rfl⟩
          have HNXB := hide (HNX.out wz (HUP.out wz HCZ.out) (bn : Int))
          have HNRB := hide (fun (z : Int) (h : z ∈ nx) => HNR.out bn z (by rw [hnx]; exact h))
          rw [HNE.out bn hbn, hnx] at HNXB
          obtain ⟨nn, hnn⟩ : ∃ nn, nx.length = nn := ⟨_, rfl⟩
          have hnn2 : nn ≤ 2 := by rw [← hnn, ← hnx]; exact HNL.out bn
          have HNXE := hide hnx
          rw [hnn, HAS.out] at HNXB
          have HNN := hide hnn
          clear hnx hnn
          go_upto_region 19 with (go_at_call 23; (with_reducible refine HNXB.out.mono ?_); rintro e w8 ⟨An, cn, rfl, hs8, hn8, -, -, hb8⟩; have HS8 := hide hs8; have HC8 := hide (HCZ.out.trans (hb8.mono HCZ.out.size)); have HO8 := hide (HO2.out.below hb8); have l8 := hb8.size; clear hs8 hb8)
          clear c0 c1 c2 c3 c4 d0
          by_cases hbr : nn = 0 ∨ k2 = n1
          case pos =>
            have hqq : ((nn : Int) == 0) = true ∨ (((nn : Int) == 0) = false ∧ ((k2 : Int) == (n1 : Int)) = true) := by
              by_cases h : nn = 0
              · exact .inl (by simpa using h)
              · exact .inr ⟨by simpa using h, by rcases hbr with h2 | h2; (· exact absurd h2 h); (· have h3 : (k2 : Int) = (n1 : Int) := (by omega); simpa using h3)⟩
            clear hbr
            rcases hqq with hq1 | ⟨hq1, hq2⟩
            all_goals
              go_wp2
              go_meet
              exact ⟨l2, _, HO8, HW2, by have := HNL2.out; have := HL2.out; omega, HC8.out⟩
          have hq1 : ((nn : Int) == 0) = false := by simp; omega
          have hq2 : ((k2 : Int) == (n1 : Int)) = false := by simp; omega
          have hk2n : k2 < n1 := by omega
          obtain ⟨bp, op, hA1, hbp, hcp⟩ := HPV.out (by have := HPN.out; omega)
          obtain ⟨zn, hzn⟩ : ∃ n : Nat, zs.getD k2 0 = (n : Int) := ⟨(zs.getD k2 0).toNat, by
            have : zs.getD k2 0 ∈ zs := by
              have hl : k2 < zs.length := by have := HPN.out; omega
              have e : zs.getD k2 0 = zs[k2] := by simp [List.getD, hl]
              rw [e]; exact List.getElem_mem hl
            have := HPZ.out _ this
            omega⟩
          have hzn255 : zn ≤ 255 := by
            have : zs.getD k2 0 ∈ zs := by
              have hl : k2 < zs.length := by have := HPN.out; omega
              have e : zs.getD k2 0 = zs[k2] := by simp [List.getD, hl]
              rw [e]; exact List.getElem_mem hl
            have := HPZ.out _ this
            omega
          subst hA1
          have hq8 : w8.cell? ⟨bp, op + k2, none⟩ = some (.int .u8 (zn : Int)) := (World.cell?_of_block (a := ⟨bp, op + k2, none⟩) ((HBEL.out.trans ((HUP.out w8 HC8.out).mono HBEL.out.size)).block bp hbp)).trans ((hcp k2 (by have := HPN.out; omega)).trans (by rw [hzn]))
          obtain ⟨j9, hj9⟩ : ∃ r, zn % nn = r := ⟨_, rfl⟩
          have hj9l : j9 < nn := by rw [← hj9]; exact Nat.mod_lt _ (by omega)
          have t1 : (zn : Int).tmod (nn : Int) = (j9 : Int) := by rw [← hj9]; exact (Int.ofNat_tmod zn nn).symm
          have t3 : (zn : Int) % (nn : Int) = (j9 : Int) := by rw [← hj9]; exact (Int.natCast_emod zn nn).symm
          obtain ⟨zq, hzq⟩ : ∃ z, nx[j9]? = some z := ⟨_, List.getElem?_eq_getElem (by have := HNN.out; omega)⟩
          obtain ⟨n9, rfl⟩ : ∃ n : Nat, zq = (n : Int) := ⟨zq.toNat, by have := HNRB.out zq (List.mem_of_getElem? hzq); omega⟩
          have hn9 : n9 < ls := by have := HNRB.out _ (List.mem_of_getElem? hzq); omega
          have HWN2 := hide (show WayOk f l2 (n9, 0) from HW2.out.go HCLL.out.symm (by omega) (by rw [HNXE.out]; exact List.mem_of_getElem? hzq))
          obtain ⟨g7, o7, e7, hg7, hc7⟩ := HS8.out (by have := HNN.out; omega)
          have q7 : w8.cell? ⟨g7, o7 + j9, none⟩ = some (.int .i64 (n9 : Int)) := (hc7 j9 (by have := HNN.out; omega)).trans (by rw [show nx.getD j9 0 = (n9 : Int) by simp [List.getD, hzq]])
          subst e7
          have hj90 : (0 : Int) ≤ (j9 : Int) := by omega
          have hj91 : (j9 : Int) < (nn : Int) := by omega
          have hk20 : (0 : Int) ≤ (k2 : Int) := by omega
          have hk21 : (k2 : Int) < (n1 : Int) := by omega
          have hz0 : (0 : Int) ≤ (zn : Int) := by omega
          have hz1 : (zn : Int) ≤ 255 := by omega
          have hn0 : (0 : Int) < (nn : Int) := by omega
          clear hcp hzn hj9 hzq hc7 hbr
          go_wp2
          go_roundw
          case rel => exact ⟨l2, n9, k2 + 1, rfl, by go_num, by omega, hn9, by rw [HNL2.out]; have := HL2.out; omega, HO8, HWN2, HC8.out⟩
          case measure => simp [intOf]; omega

    case rest =>
      obtain ⟨lY, q0, HOP, HWK, hlY, hbY⟩ := hcut
      have HCC := hide hbY
      clear hbY
      obtain ⟨wX, rfl⟩ : ∃ wX, wX = wc := ⟨_, rfl⟩
      obtain ⟨lX, rfl⟩ : ∃ lX, lX = lY := ⟨_, rfl⟩
      have HCX := hide (HCC.out)
      have lwX := HCX.out.size
      obtain ⟨nX, hnX⟩ : ∃ n, lX.length = n := ⟨_, rfl⟩
      have HNX2 := hide hnX
      obtain ⟨AX, cX, hvX, hnX2, hcX, hEX⟩ := HOP.out.sl
      rw [castP_len, hnX] at hvX hnX2
      subst hvX
      have HEX := hide hEX
      have hnXb : nX ≤ 1300 := by have := hlY; omega
      clear hEX hnX
      obtain ⟨c0, c1, c2, c3, c4⟩ := HK5.out wX HCX.out
      go_wp2
      clear c0 c1 c2 c3 c4
      go_loopw [12, 13] (fun asv kv wr => ∃ (j : Nat) (z : Int) (s : List Nat), kv = .int .i64 z ∧ z = (j : Int) - 1 ∧ j ≤ nX ∧ Hid (SetV wr asv s) ∧ Hid (AskI f lX j s) ∧ Below wX.heap.size wX wr) (fun _ kv _ => (intOf kv + 1).toNat)
      case atStart => exact ⟨nX, _, [], rfl, (by first | omega | (rw [IntWalk.wrap64_in _ ⟨by omega, by omega⟩]; omega)), Nat.le_refl _, hide (SetV.nil0 _), hide (AskI.start _ _ _), Below.refl _ _⟩
      case round =>
        obtain ⟨j, z, s, rfl, hz, hjn, HSV, HAK, hbw⟩ := hrel
        obtain ⟨wy, rfl⟩ : ∃ wy, wy = wr := ⟨_, rfl⟩
        have HY := hide hbw
        have HCY := hide (HCX.out.trans (hbw.mono HCX.out.size))
        have lwy := hbw.size
        clear hbw
        by_cases hz0 : 0 ≤ z
        case neg =>
          have hz1 : ¬ z ≥ 0 := hz0
          clear hz
          go_wp2
          go_roundw
          case rel => exact ⟨k + 1, by have := HKLT.out; omega, by go_num, HBW.out.trans ((HUP.out wy HCY.out).mono hszo)⟩
          case measure => have := HKLT.out; simp [intOf]; omega
        obtain ⟨jn, rfl⟩ : ∃ n, j = n + 1 := ⟨j - 1, by omega⟩
        obtain rfl : z = (jn : Int) := by omega
        clear hz
        obtain ⟨p, hp⟩ : ∃ p, lX[jn]? = some p := ⟨_, List.getElem?_eq_getElem (by have := HNX2.out; omega)⟩
        have hpl := HWK.out.here p (List.mem_of_getElem? hp)
        obtain ⟨cd9, x, hcd, hx, hcc⟩ := here_get hpl
        obtain ⟨gw, ow, e7, hgw, hcw⟩ := HEX.out (by rw [castP_len]; have := HNX2.out; omega)
        obtain ⟨q1, q2⟩ := hcw jn _ (castP_get hp)
        subst e7
        have HBEH := hide (fun (sB : List Nat) (hB : LvQ f 1 (p.1 : Int) (p.2 : Int) sB) => HAK.out.behind HLF.out.flow HLF.out.ne HWK.out hp hB)
        have HSTEP := hide (fun (sA sB : List Nat) (hA : LvQ f 0 (p.1 : Int) (p.2 : Int) sA) (hB : LvQ f 1 (p.1 : Int) (p.2 : Int) sB) => AskI.step HLF.out.flow HAK.out.ok hp hcd hx hA hB (HBEH.out sB hB))
        have hxm := List.mem_of_getElem? hx
        have HFX := hide (HLF.out.few cd9 (List.mem_of_getElem? hcd) x hxm)
        have hp2 := (List.getElem?_eq_some_iff.1 hx).1
        have hp1 : p.1 < ls := by rw [← HLSB.out]; exact hpl.1
        obtain ⟨bb, ob, Al, cl, hAs, hbb, d0, hli⟩ := (HBK.out wy (HUP.out wy HCY.out)).get hcd
        obtain ⟨bq, oq, Ax, cx, hAl, hbq, g6, hxi⟩ := hli.get hx
        subst hAs
        subst hAl
        obtain ⟨ll9, hll9⟩ : ∃ n, cd9.length = n := ⟨_, rfl⟩
        obtain ⟨lx, hlx⟩ : ∃ n, x.args.length = n := ⟨_, rfl⟩
        rw [hll9] at d0 hp2
        rw [hlx] at g6 hxi
        have HXI := hide hxi
        have huR := hide (uses_R hxi)
        have hul : (usesL x).length ≤ 1099511627000 + 10 := by have := usesL_len x; have := HFX.out; omega
        obtain ⟨pb, hpb⟩ : ∃ n, p.1 = n := ⟨_, rfl⟩
        obtain ⟨pi, hpi⟩ : ∃ n, p.2 = n := ⟨_, rfl⟩
        simp only [hpb] at q1 d0 hp1 HBEH HSTEP
        simp only [hpi] at q2 g6 hp2 HBEH HSTEP
        have hgwy : gw < wy.heap.size := by omega
        have hw0y : w.heap.size ≤ wy.heap.size := by have := HWZ.out; have := hz5; have := HCY.out.size; omega
        have hbby : bb < wy.heap.size := by omega
        have hbqy : bq < wy.heap.size := by omega
        have g0 : wy.cell? ⟨gw, ow + jn * 2, none⟩ = some (.int .i64 (pb : Int)) := (World.cell?_of_block (a := ⟨gw, ow + jn * 2, none⟩) (HY.out.block gw hgw)).trans q1
        have g1 : wy.cell? ⟨gw, ow + jn * 2 + 1, none⟩ = some (.int .i64 (pi : Int)) := (World.cell?_of_block (a := ⟨gw, ow + jn * 2 + 1, none⟩) (HY.out.block gw hgw)).trans q2
        have HGY := hide (fun (W : World) (hW : Below wy.heap.size wy W) => (show (W.cell? ⟨gw, ow + jn * 2, none⟩ = some (.int .i64 (pb : Int)) ∧ W.cell? ⟨gw, ow + jn * 2 + 1, none⟩ = some (.int .i64 (pi : Int))) from ⟨(World.cell?_of_block (hW.block gw hgwy)).trans g0, (World.cell?_of_block (hW.block gw hgwy)).trans g1⟩))
        obtain ⟨i0', i1', i2', i3', i4', i5', i6'⟩ := g6
        obtain ⟨c0, c1, c2, c3, c4⟩ := HK5.out wy HCY.out
        obtain ⟨Av, cv, hvv, -⟩ := HSV.out
        obtain ⟨nv, hnv⟩ : ∃ n, s.length = n := ⟨_, rfl⟩
        rw [hnv] at hvv
        subst hvv
        have hj0 : (0 : Int) ≤ (jn : Int) := by omega
        have hj1 : (jn : Int) < (nX : Int) := by omega
        have h5y : h5 < wy.heap.size := by have := HCY.out.size; omega
        have hb0 : (0 : Int) ≤ (pb : Int) := by omega
        have hb1 : (pb : Int) < (ls : Int) := by omega
        have hi0 : (0 : Int) ≤ (pi : Int) := by omega
        have hi1 : (pi : Int) < (ll9 : Int) := by omega
        clear hp hpl hcd hx hcc hcw q1 q2 hxm hli hxi hll9 hpb hpi hnv
        go_upto_region 25 with (fail)
        go_region
        obtain ⟨w6, hw6⟩ : ∃ w6, w6 = (wy.alloc (.cells #[.int .i64 x.op, .int .i64 x.d, .int .i64 x.a, .int .i64 x.b, .int .i64 x.n, .int .i64 x.m, .slice Ax lx cx] 47)).drew := ⟨_, rfl⟩
        obtain ⟨h6, hh6⟩ : ∃ h6, wy.heap.size = h6 := ⟨_, rfl⟩
        have HX6 := hide (show Box w6 h6 #[.int .i64 x.op, .int .i64 x.d, .int .i64 x.a, .int .i64 x.b, .int .i64 x.n, .int .i64 x.m, .slice Ax lx cx] 47 by rw [hw6, ← hh6]; exact box_drew wy _ _)
        have HB6 := hide (show Below wy.heap.size wy w6 by rw [hw6]; exact below_drew9 wy _)
        rw [← hw6, hh6]
        clear hw6 hh6 c0 c1 c2 c3 c4 g0 g1 i0' i1' i2' i3' i4' i5' i6' d0
        have l6 := HX6.out.lt
        have hz6 := HB6.out.size
        have HK6 := hide (fun (W : World) (hW : Below w6.heap.size w6 W) => (show W.cell? ⟨h6, 0, none⟩ = some (.int .i64 x.op) ∧ W.cell? ⟨h6, 1, none⟩ = some (.int .i64 x.d) ∧ W.cell? ⟨h6, 2, none⟩ = some (.int .i64 x.a) ∧ W.cell? ⟨h6, 3, none⟩ = some (.int .i64 x.b) ∧ W.cell? ⟨h6, 4, none⟩ = some (.int .i64 x.n) ∧ W.cell? ⟨h6, 5, none⟩ = some (.int .i64 x.m) ∧ W.cell? ⟨h6, 6, none⟩ = some (.slice Ax lx cx) from ⟨((HX6.out.below hW).cell 0 (v := .int .i64 x.op) rfl).1, ((HX6.out.below hW).cell 1 (v := .int .i64 x.d) rfl).1, ((HX6.out.below hW).cell 2 (v := .int .i64 x.a) rfl).1, ((HX6.out.below hW).cell 3 (v := .int .i64 x.b) rfl).1, ((HX6.out.below hW).cell 4 (v := .int .i64 x.n) rfl).1, ((HX6.out.below hW).cell 5 (v := .int .i64 x.m) rfl).1, ((HX6.out.below hW).cell 6 (v := .slice Ax lx cx) rfl).1⟩))
        have HY6 := hide (HY.out.trans (HB6.out.mono HY.out.size))
        have HC6 := hide (HCY.out.trans (HB6.out.mono HCY.out.size))
        have HQ6 := hide (fun (W : World) (hW : Below w6.heap.size w6 W) => And.intro (HK5.out W (HC6.out.trans (hW.mono HC6.out.size))) (HK6.out W hW))
        have HW6 := hide (fun (W : World) (hW : Below w6.heap.size w6 W) => HGY.out W (HB6.out.trans (hW.mono HB6.out.size)))
        have HUX := hide (fun (W : World) (hW : Below w6.heap.size w6 W) => HUP.out W (HC6.out.trans (hW.mono HC6.out.size)))
        have HUS := hide (fun (W : World) (hW : Below w6.heap.size w6 W) => HXU.out x (.slice Ax lx cx) HFX.out W (HUX.out W hW) (HXI.out.keep (up (HB6.out.trans (hW.mono HB6.out.size)) hw0y) (fun _ h => h)))
        have HOKN := hide (show SetOk (insS x s) from thrS_ok (l := [x]) HAK.out.ok)
        have hxR := hide HXI.out.2
        have hOK1000 : SetOk s := HAK.out.ok
        have HOKS2 := hide hOK1000
        clear hOK1000
        obtain ⟨⟨c0, c1, c2, c3, c4⟩, -⟩ := HQ6.out w6 (Below.refl _ _)
        obtain ⟨g0, g1⟩ := HW6.out w6 (Below.refl _ _)
        go_upto_region 26 with (fail)
        go_region_held3 (fun w' => (w'.cell? ⟨h5, 0, none⟩ = some (.slice Ak lk ck) ∧ w'.cell? ⟨h5, 1, none⟩ = some (.slice Ab lb cb) ∧ w'.cell? ⟨h5, 2, none⟩ = some (.int .i64 fp) ∧ w'.cell? ⟨h5, 3, none⟩ = some (.int .i64 fr) ∧ w'.cell? ⟨h5, 4, none⟩ = some (.slice (some ⟨bb, ob, none⟩) ls cs)) ∧ w'.cell? ⟨gw, ow + jn * 2, none⟩ = some (.int .i64 (pb : Int)) ∧ w'.cell? ⟨gw, ow + jn * 2 + 1, none⟩ = some (.int .i64 (pi : Int))) (first | go_keep | (exact q7) | (exact qf))
          (first
            | (go_at_call 24; refine (holdsYes HVf.out (HSV.out.below (HB6.out.trans (HWf.out.mono HB6.out.size))) HOKf.out HOKS2.out (HBEH.out sf HQf.out)).mono ?_; rintro e w7 ⟨rfl, hb7⟩; have hc7 := HWf.out.trans (hb7.mono HWf.out.size); have q7 := And.intro (HQ6.out w7 hc7).1 (HW6.out w7 hc7); have HC7 := hide hc7; clear hb7 hc7)
            | (go_at_call 15; refine (HBH.out (w6.drewN 1) (below_drewN (HUX.out w6 (Below.refl _ _)) 1) (pb : Int) (pi : Int)).mono ?_; rintro e wf ⟨rf, sf, rfl, hqf, hvf, hbf0⟩; have hbf : Below w6.heap.size w6 wf := ⟨hbf0.os, hbf0.tape, hbf0.output, hbf0.size, hbf0.block⟩; have qf := And.intro (HQ6.out wf hbf).1 (HW6.out wf hbf); have HQf := hide hqf; have HVf := hide hvf; have HWf := hide hbf; have HOKf := hide (LvQ.ok HLF.out.flow hqf); clear hqf hvf hbf0 hbf))
        have HSTP := hide (fun (sg : List Nat) (hg : LvQ f 0 (pb : Int) (pi : Int) sg) => HSTEP.out sg sf hg HQf.out)
        have HV7 := hide (HSV.out.below (HB6.out.trans (HC7.out.mono HB6.out.size)))
        have lw7 := HC7.out.size
        clear c0 c1 c2 c3 c4 g0 g1
        obtain ⟨⟨c0, c1, c2, c3, c4⟩, x0, x1, x2, x3, x4, x5, x6⟩ := HQ6.out w7 HC7.out
        by_cases hD : hasB4 x.op 68 = true
        case pos =>
          have HSQ := hide (fun (W : World) => (show Calls Tryd.prog 25 #[.agg #[.int .i64 x.op, .int .i64 x.d, .int .i64 x.a, .int .i64 x.b, .int .i64 x.n, .int .i64 x.m, .slice Ax lx cx]] W fun e w' => e = .returned (.tuple #[.int .i64 x.d, .bool true]) ∧ Below W.heap.size W w' by have t := sets4_any x Ax lx cx W; simp only [hD] at t; exact t))
          have HEQ0 := hide (show insS x s = joinL [withoutL s [x.d], ofL (usesL x)] by rw [insS_eq, if_pos hD])
          have HWO := hide (fun (W : World) (hv : SetV W (.slice Av nv cv) s) => rwithoutV (hv.below (alloc1 W (.cells #[.int .i64 x.d] 3))) (by have := HOKS2.out.1; omega) HOKS2.out.2 _ 1 1 [x.d] (one_lit13 W x.d) rfl (by omega) (by intro z hz; simp at hz; subst hz; exact hxR.out.2.1))
          clear hD
          go_upto_region 31 with (first
            | (go_at_call 26; refine (HWO.out w8 (HV7.out.below HW8.out)).mono ?_; rintro e w12 ⟨v12, rfl, hv12, hb12⟩; have HV12 := hide hv12; have hw12 := (alloc1 w8 (.cells #[.int .i64 x.d] 3)).trans (hb12.mono (by rw [World.size_alloc]; omega)); have HC12 := hide (HC8.out.trans (hw12.mono HC8.out.size)); have lw12 := HC12.out.size; clear hv12 hb12 hw12)
            | (go_at_call 25; refine (HSQ.out w7).mono ?_; rintro e w8 ⟨rfl, hb8⟩; have hc8 := HC7.out.trans (hb8.mono HC7.out.size); have HC8 := hide hc8; have HW8 := hide hb8; have lw8 := hc8.size; clear hb8 hc8))
          obtain ⟨s12, hs12⟩ : ∃ s2, withoutL s [x.d] = s2 := ⟨_, rfl⟩
          have HOK12 := hide (show SetOk s12 by rw [← hs12]; exact ⟨Nat.le_trans (withoutL_len _ _) HOKS2.out.1, withoutL_w64 HOKS2.out.2 _⟩)
          rw [hs12] at HV12 HEQ0
          clear hs12 c0 c1 c2 c3 c4 x0 x1 x2 x3 x4 x5 x6
          obtain ⟨⟨c0, c1, c2, c3, c4⟩, x0, x1, x2, x3, x4, x5, x6⟩ := HQ6.out w12 HC12.out
          obtain ⟨g0, g1⟩ := HW6.out w12 HC12.out
          have HWT := hide (fun (V : World) (v : Value) (hv : SetV V v s12) (A4 : Option Addr) (c4 n4 : Nat) (hn4 : (usesL x).length = n4) (h4 : Sl V V.heap.size .i64 A4 (usesL x)) => (by have t := rwithW hv (by have := HOK12.out.1; omega) HOK12.out.2 A4 n4 c4 (usesL x) h4 hn4 (by omega) huR.out; rw [← HEQ0.out] at t; exact t : Calls Tryd.prog 27 #[v, .slice A4 n4 c4] V fun e w' => ∃ r, e = .returned r ∧ SetV w' r (insS x s) ∧ Below V.heap.size V w'))
          go_upto_region 32 with (first
            | (go_at_call 27; refine (HWT.out wd _ (HV12.out.below HWd.out) Ad cd nd hnd.out HSd.out).mono ?_; rintro e we ⟨re, rfl, hve, hbe⟩; have HVe := hide hve; have hce := HCd.out.trans (hbe.mono HCd.out.size); have HCe := hide hce; clear hve hbe hce)
            | (go_at_call 28; refine (HUS.out w12 HC12.out).mono ?_; rintro e wd ⟨vd, rfl, ho, hbd⟩; obtain ⟨Ad, cd, hvd, -, -, hsd⟩ := ho.sl; obtain ⟨nd, hnd⟩ : ∃ n, (usesL x).length = n := ⟨_, rfl⟩; rw [hnd] at hvd; subst hvd; have hnd := hide hnd; have HSd := hide hsd; have hcd := HC12.out.trans (hbd.mono HC12.out.size); have HCd := hide hcd; have HWd := hide hbd; clear hbd hcd hsd ho))
          clear c0 c1 c2 c3 c4 x0 x1 x2 x3 x4 x5 x6 g0 g1
          obtain ⟨⟨c0, c1, c2, c3, c4⟩, -⟩ := HQ6.out we HCe.out
          obtain ⟨g0, g1⟩ := HW6.out we HCe.out
          have lwe := HCe.out.size
          obtain ⟨A8, c8, hr8, -⟩ := HVe.out
          obtain ⟨n8, hn8⟩ : ∃ n8, (insS x s).length = n8 := ⟨_, rfl⟩
          rw [hn8] at hr8
          subst hr8
          clear hn8
          go_region_held3 (fun w' => (w'.cell? ⟨h5, 0, none⟩ = some (.slice Ak lk ck) ∧ w'.cell? ⟨h5, 1, none⟩ = some (.slice Ab lb cb) ∧ w'.cell? ⟨h5, 2, none⟩ = some (.int .i64 fp) ∧ w'.cell? ⟨h5, 3, none⟩ = some (.int .i64 fr) ∧ w'.cell? ⟨h5, 4, none⟩ = some (.slice (some ⟨bb, ob, none⟩) ls cs)) ∧ w'.cell? ⟨gw, ow + jn * 2, none⟩ = some (.int .i64 (pb : Int)) ∧ w'.cell? ⟨gw, ow + jn * 2 + 1, none⟩ = some (.int .i64 (pi : Int))) (first | go_keep | (exact qh) | (exact qg))
            (first
              | (go_at_call 24; refine (holdsYes HVg.out (HVe.out.below HWg.out) HOKg.out HOKN.out (HSTP.out sg HQg.out).2).mono ?_; rintro e wh ⟨rfl, hbh⟩; have hch := HCg.out.trans (hbh.mono HCg.out.size); have qh := And.intro (HQ6.out wh hch).1 (HW6.out wh hch); have HCh := hide hch; have HWh := hide hbh; clear hbh hch)
              | (go_at_call 14; refine (HAH.out (we.drewN 1) (below_drewN (HUX.out we HCe.out) 1) (pb : Int) (pi : Int)).mono ?_; rintro e wg ⟨rg, sg, rfl, hqg, hvg, hbg0⟩; have hbg : Below we.heap.size we wg := ⟨hbg0.os, hbg0.tape, hbg0.output, hbg0.size, hbg0.block⟩; have hcg := HCe.out.trans (hbg.mono HCe.out.size); have qg := And.intro (HQ6.out wg hcg).1 (HW6.out wg hcg); have HQg := hide hqg; have HVg := hide hvg; have HWg := hide hbg; have HCg := hide hcg; have HOKg := hide (LvQ.ok HLF.out.flow hqg); clear hqg hvg hbg0 hbg hcg))
          go_wp2
          go_roundw
          case rel => exact ⟨jn, _, insS x s, rfl, (by first | rfl | exact IntWalk.wrap64_in _ ⟨by omega, by omega⟩), by omega, hide (HVe.out.below (HWg.out.trans (HWh.out.mono HWg.out.size))), hide (HSTP.out sg HQg.out).1, HY6.out.trans (HCh.out.mono HY6.out.size)⟩
          case measure => first | (show (wrap64 ((jn : Int) - 1) + 1).toNat < ((jn : Int) + 1).toNat; rw [IntWalk.wrap64_in ((jn : Int) - 1) ⟨by omega, by omega⟩]; omega) | (show ((jn : Int) - 1 + 1).toNat < ((jn : Int) + 1).toNat; omega)

        have hDf : hasB4 x.op 68 = false := by simpa using hD
        have HSQ := hide (fun (W : World) => (show Calls Tryd.prog 25 #[.agg #[.int .i64 x.op, .int .i64 x.d, .int .i64 x.a, .int .i64 x.b, .int .i64 x.n, .int .i64 x.m, .slice Ax lx cx]] W fun e w' => e = .returned (.tuple #[.int .i64 0, .bool false]) ∧ Below W.heap.size W w' by have t := sets4_any x Ax lx cx W; simp only [hDf] at t; exact t))
        have HEQ0 := hide (show insS x s = joinL [s, ofL (usesL x)] by rw [insS_eq, if_neg hD])
        clear hD hDf
        go_upto_region 31 with (go_at_call 25; refine (HSQ.out w7).mono ?_; rintro e w8 ⟨rfl, hb8⟩; have hc8 := HC7.out.trans (hb8.mono HC7.out.size); have HC8 := hide hc8; have HW8 := hide hb8; have lw8 := hc8.size; clear hb8 hc8)
        obtain ⟨w12, rfl⟩ : ∃ w12, w12 = w8 := ⟨_, rfl⟩
        have HV12 := hide (HV7.out.below HW8.out)
        have HC12 := hide HC8.out
        have HOK12 := hide HOKS2.out
        have lw12 := HC12.out.size
        clear c0 c1 c2 c3 c4 x0 x1 x2 x3 x4 x5 x6
        obtain ⟨⟨c0, c1, c2, c3, c4⟩, x0, x1, x2, x3, x4, x5, x6⟩ := HQ6.out w12 HC12.out
        obtain ⟨g0, g1⟩ := HW6.out w12 HC12.out
        have HWT := hide (fun (V : World) (v : Value) (hv : SetV V v s) (A4 : Option Addr) (c4 n4 : Nat) (hn4 : (usesL x).length = n4) (h4 : Sl V V.heap.size .i64 A4 (usesL x)) => (by have t := rwithW hv (by have := HOK12.out.1; omega) HOK12.out.2 A4 n4 c4 (usesL x) h4 hn4 (by omega) huR.out; rw [← HEQ0.out] at t; exact t : Calls Tryd.prog 27 #[v, .slice A4 n4 c4] V fun e w' => ∃ r, e = .returned r ∧ SetV w' r (insS x s) ∧ Below V.heap.size V w'))
        go_upto_region 32 with (first
          | (go_at_call 27; refine (HWT.out wd _ (HV12.out.below HWd.out) Ad cd nd hnd.out HSd.out).mono ?_; rintro e we ⟨re, rfl, hve, hbe⟩; have HVe := hide hve; have hce := HCd.out.trans (hbe.mono HCd.out.size); have HCe := hide hce; clear hve hbe hce)
          | (go_at_call 28; refine (HUS.out w12 HC12.out).mono ?_; rintro e wd ⟨vd, rfl, ho, hbd⟩; obtain ⟨Ad, cd, hvd, -, -, hsd⟩ := ho.sl; obtain ⟨nd, hnd⟩ : ∃ n, (usesL x).length = n := ⟨_, rfl⟩; rw [hnd] at hvd; subst hvd; have hnd := hide hnd; have HSd := hide hsd; have hcd := HC12.out.trans (hbd.mono HC12.out.size); have HCd := hide hcd; have HWd := hide hbd; clear hbd hcd hsd ho))
        clear c0 c1 c2 c3 c4 x0 x1 x2 x3 x4 x5 x6 g0 g1
        obtain ⟨⟨c0, c1, c2, c3, c4⟩, -⟩ := HQ6.out we HCe.out
        obtain ⟨g0, g1⟩ := HW6.out we HCe.out
        have lwe := HCe.out.size
        obtain ⟨A8, c8, hr8, -⟩ := HVe.out
        obtain ⟨n8, hn8⟩ : ∃ n8, (insS x s).length = n8 := ⟨_, rfl⟩
        rw [hn8] at hr8
        subst hr8
        clear hn8
        go_region_held3 (fun w' => (w'.cell? ⟨h5, 0, none⟩ = some (.slice Ak lk ck) ∧ w'.cell? ⟨h5, 1, none⟩ = some (.slice Ab lb cb) ∧ w'.cell? ⟨h5, 2, none⟩ = some (.int .i64 fp) ∧ w'.cell? ⟨h5, 3, none⟩ = some (.int .i64 fr) ∧ w'.cell? ⟨h5, 4, none⟩ = some (.slice (some ⟨bb, ob, none⟩) ls cs)) ∧ w'.cell? ⟨gw, ow + jn * 2, none⟩ = some (.int .i64 (pb : Int)) ∧ w'.cell? ⟨gw, ow + jn * 2 + 1, none⟩ = some (.int .i64 (pi : Int))) (first | go_keep | (exact qh) | (exact qg))
          (first
            | (go_at_call 24; refine (holdsYes HVg.out (HVe.out.below HWg.out) HOKg.out HOKN.out (HSTP.out sg HQg.out).2).mono ?_; rintro e wh ⟨rfl, hbh⟩; have hch := HCg.out.trans (hbh.mono HCg.out.size); have qh := And.intro (HQ6.out wh hch).1 (HW6.out wh hch); have HCh := hide hch; have HWh := hide hbh; clear hbh hch)
            | (go_at_call 14; refine (HAH.out (we.drewN 1) (below_drewN (HUX.out we HCe.out) 1) (pb : Int) (pi : Int)).mono ?_; rintro e wg ⟨rg, sg, rfl, hqg, hvg, hbg0⟩; have hbg : Below we.heap.size we wg := ⟨hbg0.os, hbg0.tape, hbg0.output, hbg0.size, hbg0.block⟩; have hcg := HCe.out.trans (hbg.mono HCe.out.size); have qg := And.intro (HQ6.out wg hcg).1 (HW6.out wg hcg); have HQg := hide hqg; have HVg := hide hvg; have HWg := hide hbg; have HCg := hide hcg; have HOKg := hide (LvQ.ok HLF.out.flow hqg); clear hqg hvg hbg0 hbg hcg))
        go_wp2
        go_roundw
        case rel => exact ⟨jn, _, insS x s, rfl, (by first | rfl | exact IntWalk.wrap64_in _ ⟨by omega, by omega⟩), by omega, hide (HVe.out.below (HWg.out.trans (HWh.out.mono HWg.out.size))), hide (HSTP.out sg HQg.out).1, HY6.out.trans (HCh.out.mono HY6.out.size)⟩
        case measure => first | (show (wrap64 ((jn : Int) - 1) + 1).toNat < ((jn : Int) + 1).toNat; rw [IntWalk.wrap64_in ((jn : Int) - 1) ⟨by omega, by omega⟩]; omega) | (show ((jn : Int) - 1 + 1).toNat < ((jn : Int) + 1).toNat; omega)


end Go.Proofs.YtpccjlgnehghgaaDoor
