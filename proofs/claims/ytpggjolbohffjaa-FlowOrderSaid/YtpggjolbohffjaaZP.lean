/- The statement FlowOrder, walked: it answers true. Condition: no slice of the program is longer than any machine's memory. -/
import Derived.Test.YtpggjolbohffjaaZO
set_option linter.unusedSimpArgs false
set_option linter.unusedVariables false
namespace Go.Proofs.Ytpggjolbohffjaa
open Go.RowKit

theorem edges_nat {f : FunV} {x v : Int} (h : (x, v) ∈ edgesN f) : ∃ a : Nat, x = a ∧ a < f.blocks.length ∧ v ∈ nxt f a := by
  unfold edgesN edgesTo at h
  simp only [List.mem_flatMap, List.mem_map, List.mem_range, Prod.mk.injEq] at h
  obtain ⟨i, hi, u, hu, h1, rfl⟩ := h
  exact ⟨i, h1.symm, hi, hu⟩
def PlL (w8 : World) (bp n : Nat) (l : List Int) (k : Nat) (wr : World) : Prop := PlaceW wr bp n (l.take k) ∧ But bp w8 wr
set_option maxHeartbeats 4000000 in
set_option maxRecDepth 100000 in
theorem order_law (vp : Value) (p : List FunV) (w : World) (hp : FunsV w (· < w.heap.size) vp p) (hsz : progSize p) :
    Calls Try.prog 5 #[.agg #[vp]] w fun e w' => e = .returned (.bool true) ∧ Below w.heap.size w w' := by
  have HKP := hide (fun (W : World) (hW : Below w.heap.size w W) => hp.keep (up hW (Nat.le_refl _)) (fun _ h => h))
  have HOUT := hide (fun (W : World) (hW : Below w.heap.size w W) => out5_any vp p W w.heap.size hW.size (hp.keep (up hW (Nat.le_refl _)) (fun _ h => h)) hsz)
  have HALLOK := hide (fun h => @flowOk_of p h)
  obtain ⟨A, c, rfl, hpc, hpm⟩ := hp.open'
  obtain ⟨lp, hlp⟩ : ∃ lp, p.length = lp := ⟨_, rfl⟩
  have HLP := hide hlp
  rw [hlp] at HKP HOUT hpc ⊢
  clear hp hsz hlp
  go_enter Try.func5, Try.ntmps5
  go_upto_region 1 with (fail)
  obtain ⟨w0, hw0⟩ : ∃ w0, w0 = w.alloc (.cells #[.slice A lp c] 24) := ⟨_, rfl⟩
  have HX0 := hide (show Box w0 w.heap.size #[.slice A lp c] 24 by rw [hw0]; exact Box.new w _ _)
  have HB0 := hide (show Below w.heap.size w w0 by rw [hw0]; exact alloc1 w _)
  rw [← hw0]
  clear hw0
  go_upto_region 3 with (go_at_call 8; refine (alive5_any w0).mono ?_; rintro e w1 ⟨rfl, hb1⟩; have HX1 := hide (HX0.out.below hb1); have HC1 := hide (HB0.out.trans (hb1.mono HB0.out.size)); clear hb1)
  have x1 := (HX1.out.cell 0 (v := .slice A lp c) rfl).1
  have l1 := HX1.out.lt
  go_upto_region 5 with (go_at_call 9; refine (HOUT.out w1 HC1.out).mono ?_; rintro e w2 ⟨b1, rfl, hs2, hb2⟩; have HB2 := hide (HC1.out.trans (hb2.mono HC1.out.size)); have HX2 := hide (HX1.out.below hb2); have HS2 := hide hs2; clear x1 hb2 hs2)
  all_goals try (go_ret; exact ⟨rfl, HB2.out⟩)
  have hb1f : b1 = false := by assumption
  subst hb1f
  have HOKS := hide (HALLOK.out (HS2.out.out rfl))
  clear HOUT HALLOK HS2 HC1 HX1 l1
  go_wp2
  go_loopw [3] (fun i wr => ∃ k : Nat, k ≤ lp ∧ i = .int .i64 k ∧ Below w2.heap.size w2 wr) (fun i _ => lp - (intOf i).toNat)
  case atStart => exact ⟨0, Nat.zero_le _, rfl, Below.refl _ _⟩
  case round =>
    obtain ⟨k, hk, rfl, hb'⟩ := hrel
    obtain ⟨wo, rfl⟩ : ∃ wo, wo = wr := ⟨_, rfl⟩
    have hszo := hb'.size
    have HBEL := hide (HB2.out.trans (hb'.mono HB2.out.size))
    have HXO := hide (HX2.out.below hb')
    have HBW := hide hb'
    have xp := (HXO.out.cell 0 (v := .slice A lp c) rfl).1
    have lxp := HXO.out.lt
    clear hb'
    by_cases hlt : k < lp
    case neg =>
      go_wp2
      go_ret
      exact ⟨rfl, HBEL.out⟩
    obtain ⟨f, hf⟩ : ∃ f, p[k]? = some f := ⟨_, List.getElem?_eq_getElem (by have := HLP.out; omega)⟩
    obtain ⟨b, o, Ak, ck, Ab, cb, As, cs, hA, hbb, ⟨e0, e1, e2, e3, e4⟩, hi⟩ := (HKP.out wo HBEL.out).get hf
    subst hA
    have hbs : b < wo.heap.size := by have := HBEL.out.size; omega
    obtain ⟨hok, hls1⟩ := HOKS.out f (List.mem_of_getElem? hf)
    have kI := fun (W : World) (hW : Below wo.heap.size wo W) => hi.keep (w := wo) (S := (· < w.heap.size)) (up hW HBEL.out.size) (fun _ h => h)
    have HRX := hide (fun (W : World) (hW : Below wo.heap.size wo W) => freach_any _ _ _ f W w.heap.size (by have := hW.size; have := HBEL.out.size; omega) (kI W hW) hok hls1)
    have HOX := hide (fun (W : World) (hW : Below wo.heap.size wo W) => forder_any _ _ _ f W w.heap.size (by have := hW.size; have := HBEL.out.size; omega) (kI W hW) hok hls1)
    have HEX := hide (fun (W : World) (hW : Below wo.heap.size wo W) => fedges_any _ _ _ f W w.heap.size (by have := hW.size; have := HBEL.out.size; omega) (kI W hW) hok)
    have HWX := hide (fun (W : World) (hW : Below wo.heap.size wo W) (a : Nat) (ha : a < f.blocks.length) => rwithin5_any _ _ _ f a W w.heap.size (by have := hW.size; have := HBEL.out.size; omega) (kI W hW) hok ha)
    have HRO := hide (fun l h => @order_reach f l hok hls1 h)
    have HBK := hide (fun l h => @order_back f l hok hls1 h)
    have HFR := hide (fun l h => @order_len f l hok hls1 h)
    have HRNG := hide hok.2.2
    have hel := edgesN_len hok
    have hls40 := hok.1
    have HFR := hide (fun l h => @order_len f l hok hls1 h)
    have hmake : ∀ W : World, (Instr.makeSlice 27 (.int .i64 (f.blocks.length : Int)) (.int .i64 (f.blocks.length : Int))).run Try.prog W = .ok (.slice (some ⟨W.heap.size, 0, none⟩) f.blocks.length f.blocks.length) (W.alloc (.cells (madeCells (Value.int .i64 0).cells (f.blocks.length * 1)) 3)) := fun W => mk_run 27 3 Try.underlying27 info_i64 (by omega) f.blocks.length (by omega) W
    obtain ⟨mc, hmc⟩ : ∃ mc, madeCells (Value.int .i64 0).cells (f.blocks.length * 1) = mc := ⟨_, rfl⟩
    rw [hmc] at hmake
    have HMC := hide (show mc = ((placeOf f.blocks.length []).map (Value.int .i64)).toArray by rw [placeOf_nil, ← hmc]; exact madeCells_int _)
    obtain ⟨ls, hls⟩ : ∃ ls, f.blocks.length = ls := ⟨_, rfl⟩
    have HLS := hide hls
    rw [hls] at hls1 hls40 hmake HMC e4 HRX HOX HEX HWX HRNG
    generalize f.kinds.length = lk, f.base.length = lb, f.params = fp, f.result = fr at *
    have hki : (0 : Int) ≤ (k : Int) := by omega
    have hkl : (k : Int) < (lp : Int) := by omega
    clear hi hf kI hok hls hmc
    go_upto_region 9 with (fail)
    obtain ⟨w5, hw5⟩ : ∃ w5, w5 = wo.alloc (.cells #[.slice Ak lk ck, .slice Ab lb cb, .int .i64 fp, .int .i64 fr, .slice As ls cs] 30) := ⟨_, rfl⟩
    obtain ⟨h5, hh5⟩ : ∃ h5, wo.heap.size = h5 := ⟨_, rfl⟩
    have HX5 := hide (show Box w5 h5 #[.slice Ak lk ck, .slice Ab lb cb, .int .i64 fp, .int .i64 fr, .slice As ls cs] 30 by rw [hw5, ← hh5]; exact Box.new wo _ _)
    have HB5 := hide (show Below wo.heap.size wo w5 by rw [hw5]; exact alloc1 wo _)
    rw [← hw5, hh5]
    clear hw5 hh5 e0 e1 e2 e3 e4 hbs xp lxp
    have l5 := HX5.out.lt
    have c0 := (HX5.out.cell 0 (v := .slice Ak lk ck) rfl).1
    have c1 := (HX5.out.cell 1 (v := .slice Ab lb cb) rfl).1
    have c2 := (HX5.out.cell 2 (v := .int .i64 fp) rfl).1
    have c3 := (HX5.out.cell 3 (v := .int .i64 fr) rfl).1
    have c4 := (HX5.out.cell 4 (v := .slice As ls cs) rfl).1
    have HK5 := hide (fun (W : World) (hW : Below w5.heap.size w5 W) => And.intro ((HX5.out.below hW).cell 0 (v := .slice Ak lk ck) rfl).1 (And.intro ((HX5.out.below hW).cell 1 (v := .slice Ab lb cb) rfl).1 (And.intro ((HX5.out.below hW).cell 2 (v := .int .i64 fp) rfl).1 (And.intro ((HX5.out.below hW).cell 3 (v := .int .i64 fr) rfl).1 (((HX5.out.below hW).cell 4 (v := .slice As ls cs) rfl).1)))))
    have HUP := hide (fun (W : World) (hW : Below w5.heap.size w5 W) => HB5.out.trans (hW.mono HB5.out.size))
    go_wp2_with fail
    go_region_held3 (fun w' => w'.cell? ⟨h5, 0, none⟩ = some (.slice Ak lk ck) ∧ w'.cell? ⟨h5, 1, none⟩ = some (.slice Ab lb cb) ∧ w'.cell? ⟨h5, 2, none⟩ = some (.int .i64 fp) ∧ w'.cell? ⟨h5, 3, none⟩ = some (.int .i64 fr) ∧ w'.cell? ⟨h5, 4, none⟩ = some (.slice As ls cs)) (first | go_keep | (exact q7) | (exact q6))
      (first
        | (go_at_call 20; refine (HRX.out w6 (HUP.out w6 HC6.out)).mono ?_; rintro e w7 ⟨v7, lr, rfl, hOr, ho7, hb7⟩; obtain rfl := HO6.out.one hOr; obtain ⟨A7, k7, hv7, hle7, hme7, -⟩ := ho7.sl; rw [sortL_len, HNL.out] at hv7; have hc7 := HC6.out.trans (hb7.mono HC6.out.size); have q7 := HK5.out w7 hc7; have HS6' := hide ((HS6.out.below hb7).more hb7.size); have HC7 := hide hc7; subst hv7; clear hb7 hc7 ho7 hOr hle7 hme7)
        | (go_at_call 22; refine (HOX.out _ (HUP.out _ (below_drewN (Below.refl _ _) 1))).mono ?_; rintro e w6 ⟨v6, l, rfl, hO, ho6, hb6⟩; obtain ⟨A6, k6, hv6, hle6, hme6, hs6⟩ := ho6.sl; obtain ⟨nL, hnL⟩ : ∃ n, l.length = n := ⟨_, rfl⟩; have HNL := hide hnL; rw [hnL] at hv6 hle6; have hc6 : Below w5.heap.size w5 w6 := ⟨hb6.os, hb6.tape, hb6.output, hb6.size, hb6.block⟩; have q6 := HK5.out w6 hc6; have HS6 := hide hs6; have HO6 := hide hO; have HC6 := hide hc6; subst hv6; clear hb6 hc6 hs6 ho6 hO hnL))
    all_goals
      have HRD := hide (HRO.out l HO6.out)
      have HBACK := hide (HBK.out l HO6.out)
      have hd := order_head HO6.out
      have hnl40 : nL ≤ 40 := by have := HFR.out l HO6.out; have := HNL.out; omega
      have hnl1 : 0 < nL := by have := (List.getElem?_eq_some_iff.1 hd).1; have := HNL.out; omega
      have z7 := HC7.out.size
      have HX7 := hide (HX5.out.below HC7.out)
      obtain ⟨b6, o6, rfl, hb6, hc6⟩ := HS6'.out (by have := HNL.out; omega)
      have HCL := hide hc6
      have cj0 : w7.cell? ⟨b6, o6, none⟩ = some (.int .i64 0) := by
        have h := hc6 0 (by have := HNL.out; omega)
        rw [List.getD_eq_getElem?_getD, hd] at h
        simpa using h
      have n0 : ((nL : Int) == 0) = false := by simp; omega
      have c4 := q7.2.2.2.2
      have l7 : h5 < w7.heap.size := by omega
      clear q6 q7 c0 c1 c2 c3 hc6 hd
      go_upto_region 13 with (fail)
      obtain ⟨w8, hw8⟩ : ∃ w8, w8 = w7.alloc (.cells mc 3) := ⟨_, rfl⟩
      obtain ⟨bp, hbp⟩ : ∃ bp, w7.heap.size = bp := ⟨_, rfl⟩
      have HM8 := hide (show PlaceW w8 bp ls [] by unfold PlaceW; rw [hw8, ← hbp, ← HMC.out]; exact Box.new w7 _ _)
      have HC8 := hide (show Below w5.heap.size w5 w8 by rw [hw8]; exact HC7.out.alloc HC7.out.size _)
      have HL8 := hide (show ∀ W, But bp w8 W → ∀ (j : Nat) (y : Int), l[j]? = some y → W.cell? ⟨b6, o6 + j, none⟩ = some (.int .i64 y) from fun W hW j y hy => by
        have h := HCL.out j (List.getElem?_eq_some_iff.1 hy).1
        rw [List.getD_eq_getElem?_getD, hy] at h
        refine Eq.trans (World.cell?_of_block (a := ⟨b6, o6 + j, none⟩) ((hW.block b6 ?_ (by omega)).trans ?_)) h
        · rw [hw8, World.size_alloc]; omega
        · rw [hw8]; exact (alloc1 w7 _).block b6 (by omega))
      have hs8 : w8.heap.size = bp + 1 := by rw [hw8, World.size_alloc, hbp]
      have h5bp : w5.heap.size ≤ bp := by omega
      have lb8 : bp < w8.heap.size := by omega
      have b6bp : b6 < bp := by omega
      rw [← hw8, hbp]
      have HS8 := hide hs8
      clear hw8 hbp hs8 c4 cj0 n0 hmake HMC HCL l7
      go_wp2
      go_loopw [8] (fun i wr => ∃ j : Nat, j ≤ nL ∧ i = .int .i64 j ∧ Hid (PlL w8 bp ls l j wr)) (fun i _ => nL - (intOf i).toNat)
      case atStart => exact ⟨0, Nat.zero_le _, rfl, hide ⟨by rw [List.take_zero]; exact HM8.out, But.refl _ _⟩⟩
      case round =>
        obtain ⟨j, hj, rfl, hin⟩ := hrel
        obtain ⟨hmk, hbut⟩ := hin.out
        have hsw := hbut.size
        by_cases hlj : j < nL
        · obtain ⟨y, hy⟩ : ∃ y, l[j]? = some y := ⟨_, List.getElem?_eq_getElem (by have := HNL.out; omega)⟩
          obtain ⟨hy0, hyn⟩ := HRD.out.rng y (List.mem_of_getElem? hy)
          rw [HLS.out] at hyn
          obtain ⟨yn, hyn'⟩ : ∃ n : Nat, y = n := ⟨y.toNat, by omega⟩
          subst hyn'
          have hynl : yn < ls := by omega
          have cj := HL8.out wr hbut j _ hy
          have lb6r : b6 < wr.heap.size := by omega
          have lbpr : bp < wr.heap.size := by omega
          obtain ⟨mc1, mf1⟩ := hmk.cell hynl
          have hnt := nodup_take HRD.out.nod hy
          rw [placeN_out hnt] at mc1
          have HST := hide (show PlL w8 bp ls l (j + 1) (wr.setCell ⟨bp, yn, none⟩ (.int .i64 ((j : Int) + 1))) from ⟨by
            have h := hmk.add hynl hnt
            rw [List.length_take, Nat.min_eq_left (by have := HNL.out; omega)] at h
            rw [take_snocI hy]
            simpa using h, hbut.set⟩)
          have e1 : IntKind.i64.wrap ((j : Int) + 1) = (j : Int) + 1 := IntWalk.i64_in _ ⟨by omega, by omega⟩
          have q1 : ¬ (yn : Int) < 0 := by omega
          have q2 : ¬ ls ≤ yn := by omega
          have q3 : (0 : Int) ≤ (yn : Int) := by omega
          have q4 : (yn : Int) < (ls : Int) := by omega
          clear hy hmk hbut hin hy0 hyn hnt
          go_wp2
          go_roundw
          case rel => exact ⟨j + 1, by omega, by go_num, HST⟩
          case measure => simp [intOf]; omega
        obtain ⟨wA, rfl⟩ : ∃ wA, wA = wr := ⟨_, rfl⟩
        have HMA := hide (show PlaceW wA bp ls l by have h := hmk; rwa [List.take_of_length_le (by have := HNL.out; omega)] at h)
        have HCA := hide (hbut.below HC8.out h5bp (by have := HS8.out; omega))
        have HXA := hide (HX5.out.below HCA.out)
        have lA : h5 < wA.heap.size := HXA.out.lt
        have c0 := (HXA.out.cell 0 (v := .slice Ak lk ck) rfl).1
        have c1 := (HXA.out.cell 1 (v := .slice Ab lb cb) rfl).1
        have c2 := (HXA.out.cell 2 (v := .int .i64 fp) rfl).1
        have c3 := (HXA.out.cell 3 (v := .int .i64 fr) rfl).1
        have c4 := (HXA.out.cell 4 (v := .slice As ls cs) rfl).1
        clear hmk hbut hin
        go_wp2_with (go_at_call 16; refine (HEX.out wA (HUP.out wA HCA.out)).mono ?_; rintro e w9 ⟨v9, rfl, ho9, hb9⟩; obtain ⟨A9, k9, hv9, hle9, hme9, hs9⟩ := ho9.sl; have HS9 := hide hs9; have HC9 := hide (HCA.out.trans (hb9.mono HCA.out.size)); have HM9 := hide (show PlaceW w9 bp ls l from Box.below HMA.out hb9); subst hv9; clear hb9 ho9 hs9 hle9)
        have HED := hide (fun x v => @edges_nat f x v)
        rw [HLS.out] at HED
        obtain ⟨en, hen⟩ : ∃ en, edgesN f = en := ⟨_, rfl⟩
        rw [hen] at HS9 hel HED ⊢
        obtain ⟨n9, hn9⟩ : ∃ n, en.length = n := ⟨_, rfl⟩
        have HN9 := hide hn9
        rw [hn9] at hel ⊢
        have lb9 : bp < w9.heap.size := HM9.out.lt
        clear hen hn9 c0 c1 c2 c3 c4
        go_loopw [9, 10, 12] (fun x y i wr => ∃ (rb bb : Bool) (k : Nat), x = .bool rb ∧ y = .bool bb ∧ k ≤ n9 ∧ i = .int .i64 k ∧ Hid (bb = true → rb = true) ∧ Below w9.heap.size w9 wr) (fun _ _ i _ => n9 - (intOf i).toNat)
        case atStart => exact ⟨false, false, 0, rfl, rfl, Nat.zero_le _, rfl, hide (fun h => h), Below.refl _ _⟩
        case round =>
          obtain ⟨rb, bb, k', rfl, rfl, hk', rfl, hrb, hbz⟩ := hrel
          obtain ⟨wz, rfl⟩ : ∃ wz, wz = wr := ⟨_, rfl⟩
          have hszz := hbz.size
          have HBZ := hide (HC9.out.trans (hbz.mono HC9.out.size))
          have HBN := hide hbz
          by_cases hlk : k' < n9
          case neg =>
            have HEND := hide (HBW.out.trans ((HUP.out wz HBZ.out).mono hszo))
            clear hbz
            cases bb with
            | false =>
              go_wp2
              go_roundw
              case rel => exact ⟨k + 1, by omega, by go_num, HEND.out⟩
              case measure => simp [intOf]; omega
            | true =>
              have e := hrb.out rfl
              subst e
              go_wp2
              go_roundw
              case rel => exact ⟨k + 1, by omega, by go_num, HEND.out⟩
              case measure => simp [intOf]; omega
          obtain ⟨ee, hy⟩ : ∃ y, en[k']? = some y := ⟨_, List.getElem?_eq_getElem (by have := HN9.out; omega)⟩
          obtain ⟨xa, xv⟩ := ee
          obtain ⟨a, rfl, hal, hnx⟩ := HED.out xa xv (List.mem_of_getElem? hy)
          obtain ⟨hv0, hvl⟩ := HRNG.out a xv hnx
          obtain ⟨vn, rfl⟩ : ∃ n : Nat, xv = n := ⟨xv.toNat, by omega⟩
          have hvl' : vn < ls := by omega
          obtain ⟨b9, o9, rfl, hb9, hc9⟩ := (HS9.out.below hbz) (by have := HN9.out; omega)
          obtain ⟨cj1, cj2⟩ := hc9 k' _ hy
          simp only at cj1 cj2
          have hb9z : b9 < wz.heap.size := by omega
          have HNXV := hide hnx
          clear hc9 hy hnx hv0 hvl hbz
          go_upto_region 26 with (fail)
          obtain ⟨wE, hwE⟩ : ∃ wE, wE = wz.alloc (.cells #[.int .i64 (a : Int), .int .i64 (vn : Int)] 40) := ⟨_, rfl⟩
          obtain ⟨hE, hhE⟩ : ∃ hE, wz.heap.size = hE := ⟨_, rfl⟩
          have HXE := hide (show Box wE hE #[.int .i64 (a : Int), .int .i64 (vn : Int)] 40 by rw [hwE, ← hhE]; exact Box.new wz _ _)
          have HBE := hide (show Below wz.heap.size wz wE by rw [hwE]; exact alloc1 wz _)
          have hEw : hE ≤ wz.heap.size := by omega
          rw [← hwE, hhE]
          clear hwE hhE cj1 cj2
          have HBNE := hide (HBN.out.trans (HBE.out.mono hszz))
          have HBZE := hide (HBZ.out.trans (HBE.out.mono HBZ.out.size))
          have HME := hide (show PlaceW wE bp ls l from Box.below HM9.out HBNE.out)
          have d0 := (HXE.out.cell 0 (v := .int .i64 (a : Int)) rfl).1
          have d1 := (HXE.out.cell 1 (v := .int .i64 (vn : Int)) rfl).1
          have lE := HXE.out.lt
          have pa := (HME.out.cell hal).1
          have lbE : bp < wE.heap.size := HME.out.lt
          by_cases hmem : (a : Int) ∈ l
          case neg =>
            rw [placeN_out hmem] at pa
            clear hmem
            go_wp2
            go_roundw
            case rel => exact ⟨rb, bb, k' + 1, rfl, rfl, by omega, by go_num, hrb, HBNE.out⟩
            case measure => simp [intOf]; omega
          have HKEY := hide (HBACK.out a hmem vn (by rw [Int.toNat_natCast]; exact HNXV.out))
          have hpos := placeN_pos hmem
          have HQ := hide (show (placeN l (a : Int) == 0) = false by simp; omega)
          obtain ⟨qa, hqa⟩ : ∃ q, placeN l (a : Int) = q := ⟨_, rfl⟩
          obtain ⟨qv, hqv⟩ : ∃ q, placeN l (vn : Int) = q := ⟨_, rfl⟩
          have HQA := hide hqa
          have HQV := hide hqv
          rw [hqa] at pa hpos HQ
          rw [hqa, hqv] at HKEY
          clear hmem hqa hqv
          have q0 := HQ.out
          have HKE := hide (fun (W : World) (hW : Below wE.heap.size wE W) => And.intro ((HXE.out.below hW).cell 0 (v := .int .i64 (a : Int)) rfl).1 (And.intro ((HXE.out.below hW).cell 1 (v := .int .i64 (vn : Int)) rfl).1 (And.intro (HQA.out ▸ (PlaceW.cell (Box.below HME.out hW) hal).1 : W.cell? ⟨bp, a, none⟩ = some (.int .i64 qa)) (HQV.out ▸ (PlaceW.cell (Box.below HME.out hW) hvl').1 : W.cell? ⟨bp, vn, none⟩ = some (.int .i64 qv)))))
          have HXF := hide (HX5.out.below HBZE.out)
          have c0 := (HXF.out.cell 0 (v := .slice Ak lk ck) rfl).1
          have c1 := (HXF.out.cell 1 (v := .slice Ab lb cb) rfl).1
          have c2 := (HXF.out.cell 2 (v := .int .i64 fp) rfl).1
          have c3 := (HXF.out.cell 3 (v := .int .i64 fr) rfl).1
          have c4 := (HXF.out.cell 4 (v := .slice As ls cs) rfl).1
          have lF : h5 < wE.heap.size := HXF.out.lt
          have a0 : (0 : Int) ≤ (a : Int) := by omega
          have a1 : (a : Int) < (ls : Int) := by omega
          have v0 : (0 : Int) ≤ (vn : Int) := by omega
          have v1 : (vn : Int) < (ls : Int) := by omega
          have HK7 := hide (fun (W : World) (hW : Below wE.heap.size wE W) => And.intro ((HXE.out.below hW).cell 0 (v := .int .i64 (a : Int)) rfl).1 (And.intro ((HXE.out.below hW).cell 1 (v := .int .i64 (vn : Int)) rfl).1 (And.intro ((HXF.out.below hW).cell 0 (v := .slice Ak lk ck) rfl).1 (And.intro ((HXF.out.below hW).cell 1 (v := .slice Ab lb cb) rfl).1 (And.intro ((HXF.out.below hW).cell 2 (v := .int .i64 fp) rfl).1 (And.intro ((HXF.out.below hW).cell 3 (v := .int .i64 fr) rfl).1 (((HXF.out.below hW).cell 4 (v := .slice As ls cs) rfl).1)))))))
          go_wp2_with fail
          cases rb with
          | true =>
            go_quiet (fail)
            obtain ⟨wF, hwF⟩ : ∃ wF, wF = wE.drewN nq := ⟨_, rfl⟩
            have hF : Below wE.heap.size wE wF := by rw [hwF]; exact below_drewN (Below.refl _ _) nq
            rw [← hwF]
            clear hwF d0 d1 c0 c1 c2 c3 c4 pa q0
            obtain ⟨d0, d1, p0, p1⟩ := HKE.out wF hF
            have zF := hF.size
            have lEF : hE < wF.heap.size := by omega
            have lbF : bp < wF.heap.size := by omega
            have HBF := hide (HBNE.out.trans (hF.mono HBNE.out.size))
            clear hF
            cases bb
            all_goals by_cases hle : qv ≤ qa
            all_goals
              go_wp2_with fail
              go_quiet (fail)
              go_wp2
              go_roundw
              case rel => exact ⟨_, _, k' + 1, rfl, rfl, by omega, by go_num, hide (fun _ => rfl), below_drewN HBF.out _⟩
              case measure => simp [intOf]; omega
          | false =>
            have hbf : bb = false := by
              cases bb with
              | false => rfl
              | true => exact absurd (hrb.out rfl) (by simp)
            subst hbf
            go_region_with (go_at_call 24; refine (HWX.out _ (HUP.out _ (below_drewN HBZE.out 1)) vn hvl').mono ?_; rintro e w10 ⟨bw, m, rfl, hbw, hmb, ⟨hwg, hcl⟩, hb10⟩; have hc10 : Below wE.heap.size wE w10 := ⟨hb10.os, hb10.tape, hb10.output, hb10.size, hb10.block⟩; obtain ⟨d0', d1', -⟩ := HK7.out w10 hc10; have mcell := (hmb.cell (b := a) (by rw [hwg.len, HLS.out]; exact hal)).1; have lbw := hmb.lt; have HKR := hide (fun h => (HKEY.out h).within hwg hcl); obtain ⟨R, hR⟩ : ∃ R, metB m (a : Int) = R := ⟨_, rfl⟩; rw [hR] at mcell HKR; have HC10 := hide hc10; clear hR hwg hcl hmb hb10 hc10 hbw)
            all_goals
              obtain ⟨p0, p1, p2, p3⟩ := HKE.out w10 HC10.out
              have zF := HC10.out.size
              have lEF : hE < w10.heap.size := by omega
              have lbF : bp < w10.heap.size := by omega
              have HBF := hide (HBNE.out.trans (HC10.out.mono HBNE.out.size))
              clear d0' d1' d0 d1 c0 c1 c2 c3 c4 pa q0 mcell
              by_cases hle : qv ≤ qa
              all_goals
                have HRR := hide (show qv ≤ qa → R = true from HKR.out)
                go_wp2_with fail
                go_quiet (fail)
                go_wp2
                go_roundw
                case rel => first | exact ⟨_, _, k' + 1, rfl, rfl, by omega, by go_num, hide (fun _ => HRR.out hle), below_drewN HBF.out _⟩ | exact ⟨_, _, k' + 1, rfl, rfl, by omega, by go_num, hide (fun h => absurd h (by first | (simp; done) | (simp; omega))), below_drewN HBF.out _⟩ | exact ⟨_, _, k' + 1, rfl, rfl, by omega, by go_num, hide (fun h => by first | (simp at h; omega) | (simp at h; exact HRR.out h)), below_drewN HBF.out _⟩
                case measure => simp [intOf]; omega
end Go.Proofs.Ytpggjolbohffjaa
