/- The statement LivePlaces, walked: it answers true. Condition: the table of parts reads as listed; no slice of the program is longer than any machine's memory. -/
import Derived.Test.YtbofnlaacjgclaaDoorPbJY
import Derived.Test.YtbofnlaacjgclaaDoorPbJS
set_option linter.unusedSimpArgs false
set_option linter.unusedVariables false
namespace Go.Proofs.YtbofnlaacjgclaaDoor
open Go.RowKit

theorem calls_ans {P : Program} {f : FuncId} {args : Array Value} {w : World} {R : Ending → World → Prop} (h : Calls P f args w R) : ∃ e w', R e w' := by
  obtain ⟨e, w', fr, hr, -⟩ := h []
  exact ⟨e, w', hr⟩
/-- What is live at the beginnings. -/
theorem lvS_ex {f : FunV} (h1 : 1 ≤ f.blocks.length) (hne : ∀ c, c < f.blocks.length → codeOf f c ≠ []) {s : List Nat} (h : LvQ f 0 0 0 s) : ∃ σ : Nat → List Nat, ∀ c, c < f.blocks.length → LvS f c (σ c) := by
  obtain ⟨l, hl⟩ : ∃ l, f.blocks[0]? = some l := ⟨_, List.getElem?_eq_getElem (by omega)⟩
  have hn := hne 0 (by omega)
  have hc : codeOf f 0 = l := by unfold codeOf; rw [hl]; rfl
  rw [hc] at hn
  have hp := List.length_pos_iff.2 hn
  have hs := sizeN_nat (f := f) (b := 0) hl
  have hh : hereB f 0 0 = true := by
    unfold hereB
    rw [show sizeN f 0 = (l.length : Int) from hs]
    simp
    omega
  unfold LvQ at h
  rw [if_pos hh] at h
  obtain ⟨t, ⟨σ, hσ, -⟩, -⟩ := h
  exact ⟨σ, hσ⟩
set_option maxHeartbeats 4000000 in
set_option maxRecDepth 100000 in
theorem lplaces_law (vp : Value) (p : List FunV) (bz iz : Int) (w : World) (hT : TabP w) (hp : FunsV w (· < w.heap.size) vp p) (hsz : progSize p) :
    Calls Tryd.prog 3 #[.agg #[vp], .int .i64 bz, .int .i64 iz] w fun e w' => e = .returned (.bool true) ∧ Below w.heap.size w w' := by
  have HKP := hide (fun (W : World) (hW : Below w.heap.size w W) => hp.keep (up hW (Nat.le_refl _)) (fun _ h => h))
  have HTT := hide (fun (W : World) (hW : Below w.heap.size w W) => hT.below hW hT.1)
  have HOUT := hide (fun (W : World) (hW : Below w.heap.size w W) => out11_any vp p W w.heap.size hW.size (hp.keep (up hW (Nat.le_refl _)) (fun _ h => h)) hsz)
  have HALLOK := hide (fun (h : progB4 p = true ∧ progFew p) => @lOk_of p h.1 h.2)
  obtain ⟨A, c, rfl, hpc, hpm⟩ := hp.open'
  obtain ⟨lp, hlp⟩ : ∃ lp, p.length = lp := ⟨_, rfl⟩
  have HLP := hide hlp
  rw [hlp] at HKP HOUT hpc ⊢
  clear hp hsz hlp hT
  go_enter Tryd.func3, Tryd.ntmps3
  go_upto_region 1 with (fail)
  obtain ⟨w0, hw0⟩ : ∃ w0, w0 = w.alloc (.cells #[.slice A lp c] 24) := ⟨_, rfl⟩
  have HX0 := hide (show Box w0 w.heap.size #[.slice A lp c] 24 by rw [hw0]; exact Box.new w _ _)
  have HB0 := hide (show Below w.heap.size w w0 by rw [hw0]; exact alloc1 w _)
  rw [← hw0]
  clear hw0
  go_upto_region 3 with (go_at_call 6; refine (alive11_any w0 (HTT.out w0 HB0.out)).mono ?_; rintro e w1 ⟨rfl, hb1⟩; have HX1 := hide (HX0.out.below hb1); have HC1 := hide (HB0.out.trans (hb1.mono HB0.out.size)); clear hb1)
  have x1 := (HX1.out.cell 0 (v := .slice A lp c) rfl).1
  have l1 := HX1.out.lt
  go_upto_region 5 with (go_at_call 7; refine (HOUT.out w1 HC1.out).mono ?_; rintro e w2 ⟨b1, rfl, hs2, hb2⟩; have HB2 := hide (HC1.out.trans (hb2.mono HC1.out.size)); have HX2 := hide (HX1.out.below hb2); have HS2 := hide hs2; clear x1 hb2 hs2)
  all_goals try (go_ret; exact ⟨rfl, HB2.out⟩)
  have hb1f : b1 = false := by first | assumption | exact Bool.eq_false_iff.2 (by assumption)
  subst hb1f
  have HOKS := hide (HALLOK.out (HS2.out.out rfl))
  clear HOUT HALLOK HS2 HC1 HX1 l1
  go_wp2
  go_loopw [7] (fun i wr => ∃ k : Nat, k ≤ lp ∧ i = .int .i64 k ∧ Below w2.heap.size w2 wr) (fun i _ => lp - (intOf i).toNat)
  case atStart => exact ⟨0, Nat.zero_le _, rfl, Below.refl _ _⟩
  case round =>
    obtain ⟨k, hk, rfl, hb'⟩ := hrel
    obtain ⟨wo, rfl⟩ : ∃ wo, wo = wr := ⟨_, rfl⟩
    have hszo := hb'.size
    have HBEL := hide (HB2.out.trans (hb'.mono HB2.out.size))
    have HXO := hide (HX2.out.below hb')
    have HBW := hide hb'
    have xp := (HXO.out.cell 0 (v := .slice A lp c) rfl).1
    have lxp := HXO.out.lt
    clear hb'
    by_cases hlt : k < lp
    case neg =>
      go_wp2
      go_ret
      exact ⟨rfl, HBEL.out⟩
    have HKLT := hide hlt
    obtain ⟨f, hf⟩ : ∃ f, p[k]? = some f := ⟨_, List.getElem?_eq_getElem (by have := HLP.out; omega)⟩
    obtain ⟨b, o, Ak, ck, Ab, cb, As, cs, hA, hbb, ⟨e0, e1, e2, e3, e4⟩, hi⟩ := (HKP.out wo HBEL.out).get hf
    subst hA
    have hbs : b < wo.heap.size := by have := HBEL.out.size; omega
    have HLF := hide (HOKS.out f (List.mem_of_getElem? hf))
    have kI := fun (W : World) (hW : Below wo.heap.size wo W) => hi.keep (w := wo) (S := (· < w.heap.size)) (up hW HBEL.out.size) (fun _ h => h)
    have hsW : ∀ W : World, Below wo.heap.size wo W → w.heap.size ≤ W.heap.size := fun W hW => by have := hW.size; have := HBEL.out.size; omega
    have HTO := hide (fun (W : World) (hW : Below wo.heap.size wo W) => HTT.out W (HBEL.out.trans (hW.mono HBEL.out.size)))
    have hls40 := HLF.out.flow.1
    have hls1 := HLF.out.one
    have HSIG := hide (show ∃ σ : Nat → List Nat, ∀ c, c < f.blocks.length → LvS f c (σ c) by
      obtain ⟨e, w', r, s, -, hq, -⟩ := calls_ans (in_any _ _ _ f 0 wo w.heap.size HBEL.out.size (kI wo (Below.refl _ _)) (HTO.out wo (Below.refl _ _)) HLF.out.flow HLF.out.ne HLF.out.few)
      exact lvS_ex HLF.out.one HLF.out.ne hq)
    have HAH := hide (fun (W : World) (hW : Below wo.heap.size wo W) => ahead_any _ _ _ f bz iz W w.heap.size (hsW W hW) (kI W hW) (HTO.out W hW) HLF.out.flow HLF.out.ne HLF.out.few)
    have HBH := hide (fun (W : World) (hW : Below wo.heap.size wo W) => behind_any _ _ _ f bz iz W w.heap.size (hsW W hW) (kI W hW) (HTO.out W hW) HLF.out.flow HLF.out.ne HLF.out.few)
    have HIN := hide (fun (W : World) (hW : Below wo.heap.size wo W) => in_any _ _ _ f bz W w.heap.size (hsW W hW) (kI W hW) (HTO.out W hW) HLF.out.flow HLF.out.ne HLF.out.few)
    have HOU := hide (fun (W : World) (hW : Below wo.heap.size wo W) => out_anyL _ _ _ f bz W w.heap.size (hsW W hW) (kI W hW) (HTO.out W hW) HLF.out.flow HLF.out.ne HLF.out.few)
    have HIS := hide (fun (W : World) (hW : Below wo.heap.size wo W) (v : Int) (hv : i64R v) => is_any _ _ _ f bz iz v hv W w.heap.size (hsW W hW) (kI W hW) (HTO.out W hW) HLF.out.flow HLF.out.ne HLF.out.few)
    have HRA := hide (fun (W : World) (hW : Below wo.heap.size wo W) => rahead11_any p _ _ _ f bz iz W w.heap.size (hsW W hW) (kI W hW) HLF.out HSIG.out)
    have HRB := hide (fun (W : World) (hW : Below wo.heap.size wo W) => rbehind11_any p _ _ _ f bz iz W w.heap.size (hsW W hW) (kI W hW) HLF.out HSIG.out)
    have HRI := hide (fun (W : World) (hW : Below wo.heap.size wo W) => rin11_any p _ _ _ f bz W w.heap.size (hsW W hW) (kI W hW) HLF.out HSIG.out)
    have HRO := hide (fun (W : World) (hW : Below wo.heap.size wo W) => rout11_any p _ _ _ f bz W w.heap.size (hsW W hW) (kI W hW) HLF.out HSIG.out)
    have HONE := hide (fun (k : Nat) (b i : Int) (s t : List Nat) (h1 : LvQ f k b i s) (h2 : LvQ f k b i t) => h1.one HLF.out.flow h2)
    have HOKQ := hide (fun (k : Nat) (b i : Int) (s : List Nat) (h1 : LvQ f k b i s) => h1.ok HLF.out.flow)
    have hlk48 := HLF.out.kinds
    obtain ⟨ls, hls2⟩ : ∃ ls, f.blocks.length = ls := ⟨_, rfl⟩
    have HLS := hide hls2
    rw [hls2] at HAH HBH HIN HOU HIS HRA HRB HRI HRO e4 hls40 hls1
    clear hi hf kI hsW hls2
    generalize f.kinds.length = lk, f.base.length = lb, f.params = fp, f.result = fr at *
    have hki : (0 : Int) ≤ (k : Int) := by omega
    have hkl : (k : Int) < (lp : Int) := by omega
    go_upto_region 9 with (fail)
    obtain ⟨w5, hw5⟩ : ∃ w5, w5 = wo.alloc (.cells #[.slice Ak lk ck, .slice Ab lb cb, .int .i64 fp, .int .i64 fr, .slice As ls cs] 30) := ⟨_, rfl⟩
    obtain ⟨h5, hh5⟩ : ∃ h5, wo.heap.size = h5 := ⟨_, rfl⟩
    have HX5 := hide (show Box w5 h5 #[.slice Ak lk ck, .slice Ab lb cb, .int .i64 fp, .int .i64 fr, .slice As ls cs] 30 by rw [hw5, ← hh5]; exact Box.new wo _ _)
    have HB5 := hide (show Below wo.heap.size wo w5 by rw [hw5]; exact alloc1 wo _)
    rw [← hw5, hh5]
    clear hw5 hh5 e0 e1 e2 e3 e4 hbs xp lxp
    have l5 := HX5.out.lt
    have hz5 := HB5.out.size
    have HK5 := hide (fun (W : World) (hW : Below w5.heap.size w5 W) => And.intro ((HX5.out.below hW).cell 0 (v := .slice Ak lk ck) rfl).1 (And.intro ((HX5.out.below hW).cell 1 (v := .slice Ab lb cb) rfl).1 (And.intro ((HX5.out.below hW).cell 2 (v := .int .i64 fp) rfl).1 (And.intro ((HX5.out.below hW).cell 3 (v := .int .i64 fr) rfl).1 ((HX5.out.below hW).cell 4 (v := .slice As ls cs) rfl).1))))
    have HUP := hide (fun (W : World) (hW : Below w5.heap.size w5 W) => HB5.out.trans (hW.mono HB5.out.size))
    obtain ⟨c0, c1, c2, c3, c4⟩ := HK5.out w5 (Below.refl _ _)
    go_upto_region 10 with (go_at_call 8; (with_reducible refine (HRA.out w5 (HUP.out w5 (Below.refl _ _))).mono ?_); rintro e w6 ⟨r6, s6, rfl, hq6, hv6, hb6⟩; have HQ6 := hide hq6; have HV6 := hide hv6; have q6 := HK5.out w6 hb6; have HC6 := hide hb6; clear hq6 hv6 hb6)
    have HOK6 := hide (HOKQ.out 0 bz iz s6 HQ6.out)
    obtain ⟨A6, c6, hr6, -⟩ := HV6.out
    obtain ⟨n6, hn6⟩ : ∃ n, s6.length = n := ⟨_, rfl⟩
    rw [hn6] at hr6
    subst hr6
    have HN6 := hide hn6
    clear hn6 c0 c1 c2 c3 c4
    obtain ⟨c0, c1, c2, c3, c4⟩ := q6
    have l6 : h5 < w6.heap.size := by have := HC6.out.size; omega
    go_region_held3 (fun w' => w'.cell? ⟨h5, 0, none⟩ = some (.slice Ak lk ck) ∧ w'.cell? ⟨h5, 1, none⟩ = some (.slice Ab lb cb) ∧ w'.cell? ⟨h5, 2, none⟩ = some (.int .i64 fp) ∧ w'.cell? ⟨h5, 3, none⟩ = some (.int .i64 fr) ∧ w'.cell? ⟨h5, 4, none⟩ = some (.slice As ls cs)) (first | go_keep | (exact q17) | (exact q16) | (exact q15) | (exact q14) | (exact q13) | (exact q12) | (exact q11))
      (first
        | (go_at_call 9; refine HWD17.out.mono ?_; rintro e w' ⟨rfl, rfl⟩)
        | (go_at_call 16; refine (HRO.out w16 (HUP.out w16 HC16.out)).mono ?_; rintro e w17 ⟨r17, s17, rfl, hq17, hv17, hb17⟩; have he17 := HONE.out 1 bz (sizeN f bz - 1) s17 s16 hq17 HQ16.out; subst he17; have HWD17 := hide (rwordsV (HV16.out.below hb17) hv17 (by have := (HOKQ.out 1 bz (sizeN f bz - 1) _ hq17).1; omega)); obtain ⟨A17, c17, hr17, -⟩ := id hv17; rw [HN16.out] at hr17; subst hr17; have hd17 := HD16.out.trans (hb17.mono HD16.out.size); have HD17 := hide hd17; have hc17 := HC6.out.trans (hd17.mono HC6.out.size); have q17 := HK5.out w17 hc17; have HC17 := hide hc17; clear hb17 hc17 hd17 hv17 hq17)
        | (go_at_call 15; refine (HOU.out w15 (HUP.out w15 HC15.out)).mono ?_; rintro e w16 ⟨r16, s16, rfl, hq16, hv16, hb16⟩; obtain ⟨A16, c16, hr16, -⟩ := id hv16; obtain ⟨n16, hn16⟩ : ∃ n, s16.length = n := ⟨_, rfl⟩; rw [hn16] at hr16; subst hr16; have HN16 := hide hn16; clear hn16; have hd16 := HD15.out.trans (hb16.mono HD15.out.size); have HD16 := hide hd16; have hc16 := HC6.out.trans (hd16.mono HC6.out.size); have q16 := HK5.out w16 hc16; have HC16 := hide hc16; have HV16 := hide hv16; have HQ16 := hide hq16; clear hb16 hc16 hd16 hv16 hq16)
        | (go_at_call 9; refine HWD15.out.mono ?_; rintro e w' ⟨rfl, rfl⟩)
        | (go_at_call 14; refine (HRI.out w14 (HUP.out w14 HC14.out)).mono ?_; rintro e w15 ⟨r15, s15, rfl, hq15, hv15, hb15⟩; have he15 := HONE.out 0 bz 0 s15 s14 hq15 HQ14.out; subst he15; have HWD15 := hide (rwordsV (HV14.out.below hb15) hv15 (by have := (HOKQ.out 0 bz 0 _ hq15).1; omega)); obtain ⟨A15, c15, hr15, -⟩ := id hv15; rw [HN14.out] at hr15; subst hr15; have hd15 := HD14.out.trans (hb15.mono HD14.out.size); have HD15 := hide hd15; have hc15 := HC6.out.trans (hd15.mono HC6.out.size); have q15 := HK5.out w15 hc15; have HC15 := hide hc15; clear hb15 hc15 hd15 hv15 hq15)
        | (go_at_call 13; refine (HIN.out w13 (HUP.out w13 HC13.out)).mono ?_; rintro e w14 ⟨r14, s14, rfl, hq14, hv14, hb14⟩; obtain ⟨A14, c14, hr14, -⟩ := id hv14; obtain ⟨n14, hn14⟩ : ∃ n, s14.length = n := ⟨_, rfl⟩; rw [hn14] at hr14; subst hr14; have HN14 := hide hn14; clear hn14; have hd14 := HD13.out.trans (hb14.mono HD13.out.size); have HD14 := hide hd14; have hc14 := HC6.out.trans (hd14.mono HC6.out.size); have q14 := HK5.out w14 hc14; have HC14 := hide hc14; have HV14 := hide hv14; have HQ14 := hide hq14; clear hb14 hc14 hd14 hv14 hq14)
        | (go_at_call 9; refine HWD13.out.mono ?_; rintro e w' ⟨rfl, rfl⟩)
        | (go_at_call 12; refine (HRB.out w12 (HUP.out w12 HC12.out)).mono ?_; rintro e w13 ⟨r13, s13, rfl, hq13, hv13, hb13⟩; have he13 := HONE.out 1 bz iz s13 s12 hq13 HQ12.out; subst he13; have HWD13 := hide (rwordsV (HV12.out.below hb13) hv13 (by have := (HOKQ.out 1 bz iz _ hq13).1; omega)); obtain ⟨A13, c13, hr13, -⟩ := id hv13; rw [HN12.out] at hr13; subst hr13; have hd13 := HD12.out.trans (hb13.mono HD12.out.size); have HD13 := hide hd13; have hc13 := HC6.out.trans (hd13.mono HC6.out.size); have q13 := HK5.out w13 hc13; have HC13 := hide hc13; clear hb13 hc13 hd13 hv13 hq13)
        | (go_at_call 11; refine (HBH.out w11 (HUP.out w11 HC11.out)).mono ?_; rintro e w12 ⟨r12, s12, rfl, hq12, hv12, hb12⟩; obtain ⟨A12, c12, hr12, -⟩ := id hv12; obtain ⟨n12, hn12⟩ : ∃ n, s12.length = n := ⟨_, rfl⟩; rw [hn12] at hr12; subst hr12; have HN12 := hide hn12; clear hn12; have hd12 := HD11.out.trans (hb12.mono HD11.out.size); have HD12 := hide hd12; have hc12 := HC6.out.trans (hd12.mono HC6.out.size); have q12 := HK5.out w12 hc12; have HC12 := hide hc12; have HV12 := hide hv12; have HQ12 := hide hq12; clear hb12 hc12 hd12 hv12 hq12)
        | (go_at_call 9; refine HWD11.out.mono ?_; rintro e w' ⟨rfl, rfl⟩)
        | (go_at_call 10; refine (HAH.out _ (HUP.out _ (below_drewN HC6.out 1))).mono ?_; rintro e w11 ⟨r11, s11, rfl, hq11, hv11, hb11⟩; have he11 := HONE.out 0 bz iz s11 s6 hq11 HQ6.out; have hb11' : Below w6.heap.size w6 w11 := ⟨hb11.os, hb11.tape, hb11.output, hb11.size, hb11.block⟩; rw [he11] at hv11; have HWD11 := hide (rwordsV hv11 (HV6.out.below hb11') (by have := HOK6.out.1; omega)); obtain ⟨A11, c11, hr11, -⟩ := id hv11; rw [HN6.out] at hr11; subst hr11; have hc11 := HC6.out.trans (hb11'.mono HC6.out.size); have q11 := HK5.out w11 hc11; have HC11 := hide hc11; have HD11 := hide hb11'; clear hb11 hb11' hc11 hv11 hq11 he11))
    have HC17K := hide (HK5.out w17 HC17.out)
    have HV17 := hide (HV6.out.below (show Below w6.heap.size w6 w17 from HD17.out))
    go_wp2
    go_loopw [10] (fun i wr => ∃ j : Nat, j ≤ lk + 2 ∧ i = .int .i64 ((j : Int) - 1) ∧ Below w17.heap.size w17 wr) (fun i _ => (lk + 1 - intOf i).toNat)
    case atStart => exact ⟨0, Nat.zero_le _, rfl, Below.refl _ _⟩
    case round =>
      obtain ⟨j, hj, rfl, hbj⟩ := hrel
      obtain ⟨wj, rfl⟩ : ∃ wj, wj = wr := ⟨_, rfl⟩
      have HCJ := hide (HC17.out.trans (hbj.mono HC17.out.size))
      have HBJ := hide hbj
      have lj := hbj.size
      clear hbj
      obtain ⟨c0, c1, c2, c3, c4⟩ := HK5.out wj HCJ.out
      have l6j : h5 < wj.heap.size := by have := HCJ.out.size; omega
      by_cases hltj : (j : Int) - 1 ≤ (lk : Int)
      case neg =>
        go_wp2
        go_roundw
        case rel => exact ⟨k + 1, by have := HKLT.out; omega, by go_num, HBW.out.trans ((HUP.out wj HCJ.out).mono hszo)⟩
        case measure => have := HKLT.out; simp [intOf]; omega
      have HJL := hide hltj
      obtain ⟨z, hz⟩ : ∃ z, (j : Int) - 1 = z := ⟨_, rfl⟩
      rw [hz] at hltj ⊢
      have HZ := hide hz
      have HWZ := hide (show wrap64 (z + 1) = z + 1 from IntWalk.wrap64_in _ ⟨by omega, by omega⟩)
      have hz64 : i64R z := by unfold i64R; omega
      obtain ⟨bz2, hbz2⟩ : ∃ b, hasB s6 z = b := ⟨_, rfl⟩
      have HISZ := hide ((HIS.out wj (HUP.out wj HCJ.out) z hz64).mono (R' := fun e w' => e = .returned (.bool bz2) ∧ Below wj.heap.size wj w') (fun e w' ⟨s, h1, h2, h3⟩ => ⟨by rw [h1, HONE.out 0 bz iz s s6 h2 HQ6.out, hbz2], h3⟩))
      have HHAS := hide (fun (W : World) (hW : Below w17.heap.size w17 W) => (show Calls Tryd.prog 18 #[.slice A6 n6 c6, .int .i64 z] W fun e w' => e = .returned (.bool bz2) ∧ W = w' by
        rw [← hbz2]
        exact rhasV (HV17.out.below hW) (by have := HOK6.out.1; omega) HOK6.out.2 z hz64))
      clear hz hbz2
      go_wp2_with (first
        | (go_at_call 18; refine (HHAS.out w20 HB20.out).mono ?_; rintro e w' ⟨rfl, rfl⟩)
        | (go_at_call 17; (with_reducible refine HISZ.out.mono ?_); rintro e w20 ⟨rfl, hb20⟩; have HB20 := hide (HBJ.out.trans (hb20.mono lj)); clear hb20))
      go_roundw
      case rel => exact ⟨j + 1, by have := HJL.out; omega, by rw [HWZ.out, ← HZ.out]; congr 1; omega, HB20.out⟩
      case measure => have := HJL.out; have := HZ.out; simp [intOf]; rw [HWZ.out]; omega
end Go.Proofs.YtbofnlaacjgclaaDoor
