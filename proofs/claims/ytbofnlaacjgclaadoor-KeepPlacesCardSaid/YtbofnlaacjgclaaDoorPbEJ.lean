/- The statement KeepPlaces, walked: it answers true. Condition: the table of parts reads as listed; no slice of the program is longer than any machine's memory. -/
import Derived.Test.YtbofnlaacjgclaaDoorPbEI
import Derived.Test.YtbofnlaacjgclaaDoorPbEE
import Derived.Test.YtbofnlaacjgclaaDoorPbJZ
set_option linter.unusedSimpArgs false
set_option linter.unusedVariables false
namespace Go.Proofs.YtbofnlaacjgclaaDoor
open Go.RowKit

set_option maxHeartbeats 4000000 in
set_option maxRecDepth 100000 in
theorem kplaces_law (vp : Value) (p : List FunV) (bz iz : Int) (w : World) (hT : TabP w) (hp : FunsV w (· < w.heap.size) vp p) (hsz : progSize p) :
    Calls Tryd.prog 4 #[.agg #[vp], .int .i64 bz, .int .i64 iz] w fun e w' => e = .returned (.bool true) ∧ Below w.heap.size w w' := by
  have HKP := hide (fun (W : World) (hW : Below w.heap.size w W) => hp.keep (up hW (Nat.le_refl _)) (fun _ h => h))
  have HTT := hide (fun (W : World) (hW : Below w.heap.size w W) => hT.below hW hT.1)
  have HOUT := hide (fun (W : World) (hW : Below w.heap.size w W) => out12_any vp p W w.heap.size hW.size (hp.keep (up hW (Nat.le_refl _)) (fun _ h => h)) hsz)
  have HALLOK := hide (fun (h : progB4 p = true ∧ progFew p) => @lOk_of p h.1 h.2)
  obtain ⟨A, c, rfl, hpc, hpm⟩ := hp.open'
  obtain ⟨lp, hlp⟩ : ∃ lp, p.length = lp := ⟨_, rfl⟩
  have HLP := hide hlp
  rw [hlp] at HKP HOUT hpc ⊢
  clear hp hsz hlp hT
  go_enter Tryd.func4, Tryd.ntmps4
  go_upto_region 1 with (fail)
  obtain ⟨w0, hw0⟩ : ∃ w0, w0 = w.alloc (.cells #[.slice A lp c] 24) := ⟨_, rfl⟩
  have HX0 := hide (show Box w0 w.heap.size #[.slice A lp c] 24 by rw [hw0]; exact Box.new w _ _)
  have HB0 := hide (show Below w.heap.size w w0 by rw [hw0]; exact alloc1 w _)
  rw [← hw0]
  clear hw0
  go_upto_region 3 with (go_at_call 19; refine (alive12_any w0 (HTT.out w0 HB0.out)).mono ?_; rintro e w1 ⟨rfl, hb1⟩; have HX1 := hide (HX0.out.below hb1); have HC1 := hide (HB0.out.trans (hb1.mono HB0.out.size)); clear hb1)
  have x1 := (HX1.out.cell 0 (v := .slice A lp c) rfl).1
  have l1 := HX1.out.lt
  go_upto_region 5 with (go_at_call 20; refine (HOUT.out w1 HC1.out).mono ?_; rintro e w2 ⟨b1, rfl, hs2, hb2⟩; have HB2 := hide (HC1.out.trans (hb2.mono HC1.out.size)); have HX2 := hide (HX1.out.below hb2); have HS2 := hide hs2; clear x1 hb2 hs2)
  all_goals try (go_ret; exact ⟨rfl, HB2.out⟩)
  have hb1f : b1 = false := by first | assumption | exact Bool.eq_false_iff.2 (by assumption)
  subst hb1f
  have HOKS := hide (HALLOK.out (HS2.out.out rfl))
  clear HOUT HALLOK HS2 HC1 HX1 l1
  go_wp2
  go_loopw [7] (fun i wr => ∃ k : Nat, k ≤ lp ∧ i = .int .i64 k ∧ Below w2.heap.size w2 wr) (fun i _ => lp - (intOf i).toNat)
  case atStart => exact ⟨0, Nat.zero_le _, rfl, Below.refl _ _⟩
  case round =>
    obtain ⟨k, hk, rfl, hb'⟩ := hrel
    obtain ⟨wo, rfl⟩ : ∃ wo, wo = wr := ⟨_, rfl⟩
    have hszo := hb'.size
    have HBEL := hide (HB2.out.trans (hb'.mono HB2.out.size))
    have HXO := hide (HX2.out.below hb')
    have HBW := hide hb'
    have xp := (HXO.out.cell 0 (v := .slice A lp c) rfl).1
    have lxp := HXO.out.lt
    clear hb'
    by_cases hlt : k < lp
    case neg =>
      go_wp2
      go_ret
      exact ⟨rfl, HBEL.out⟩
    have HKLT := hide hlt
    obtain ⟨f, hf⟩ : ∃ f, p[k]? = some f := ⟨_, List.getElem?_eq_getElem (by have := HLP.out; omega)⟩
    obtain ⟨b, o, Ak, ck, Ab, cb, As, cs, hA, hbb, ⟨e0, e1, e2, e3, e4⟩, hi⟩ := (HKP.out wo HBEL.out).get hf
    subst hA
    have hbs : b < wo.heap.size := by have := HBEL.out.size; omega
    have HLF := hide (HOKS.out f (List.mem_of_getElem? hf))
    have kI := fun (W : World) (hW : Below wo.heap.size wo W) => hi.keep (w := wo) (S := (· < w.heap.size)) (up hW HBEL.out.size) (fun _ h => h)
    have hsW : ∀ W : World, Below wo.heap.size wo W → w.heap.size ≤ W.heap.size := fun W hW => by have := hW.size; have := HBEL.out.size; omega
    have HTO := hide (fun (W : World) (hW : Below wo.heap.size wo W) => HTT.out W (HBEL.out.trans (hW.mono HBEL.out.size)))
    have hls40 := HLF.out.flow.1
    have hls1 := HLF.out.one
    have HSIG := hide (show ∃ σ : Nat → List Nat, ∀ c, c < f.blocks.length → LvS f c (σ c) by
      obtain ⟨e, w', r, s, -, hq, -⟩ := calls_ans (in_any _ _ _ f 0 wo w.heap.size HBEL.out.size (kI wo (Below.refl _ _)) (HTO.out wo (Below.refl _ _)) HLF.out.flow HLF.out.ne HLF.out.few)
      exact lvS_ex HLF.out.one HLF.out.ne hq)
    have HAC := hide (fun (W : World) (hW : Below wo.heap.size wo W) => across_any _ _ _ f bz iz W w.heap.size (hsW W hW) (kI W hW) (HTO.out W hW) HLF.out.flow HLF.out.ne HLF.out.few (by have := HLF.out.kinds; omega))
    have HAH := hide (fun (W : World) (hW : Below wo.heap.size wo W) => kp_ahead_any _ _ _ f bz iz W w.heap.size (hsW W hW) (kI W hW) (HTO.out W hW) HLF.out.flow HLF.out.ne HLF.out.few (by have := HLF.out.kinds; omega))
    have HBH := hide (fun (W : World) (hW : Below wo.heap.size wo W) => kp_behind_any _ _ _ f bz iz W w.heap.size (hsW W hW) (kI W hW) (HTO.out W hW) HLF.out.flow HLF.out.ne HLF.out.few (by have := HLF.out.kinds; omega))
    have HRC := hide (fun (W : World) (hW : Below wo.heap.size wo W) => rkacross_any p _ _ _ f bz iz W w.heap.size (hsW W hW) (kI W hW) HLF.out HSIG.out)
    have HRA := hide (fun (W : World) (hW : Below wo.heap.size wo W) => rkahead_any p _ _ _ f bz iz W w.heap.size (hsW W hW) (kI W hW) HLF.out HSIG.out)
    have HRB := hide (fun (W : World) (hW : Below wo.heap.size wo W) => rkbehind_any p _ _ _ f bz iz W w.heap.size (hsW W hW) (kI W hW) HLF.out HSIG.out)
    have HONE := hide (fun (k : Nat) (b i : Int) (s t : List Nat) (h1 : LvQ f k b i s) (h2 : LvQ f k b i t) => h1.one HLF.out.flow h2)
    have HAONE := hide (fun (b i : Int) (s t : List Nat) (h1 : AcrQ f b i s) (h2 : AcrQ f b i t) => h1.one HLF.out.flow h2)
    obtain ⟨ls, hls2⟩ : ∃ ls, f.blocks.length = ls := ⟨_, rfl⟩
    have HLS := hide hls2
    rw [hls2] at HAC HAH HBH HRC HRA HRB e4 hls40 hls1
    clear hi hf kI hsW hls2
    generalize f.kinds.length = lk, f.base.length = lb, f.params = fp, f.result = fr at *
    have hki : (0 : Int) ≤ (k : Int) := by omega
    have hkl : (k : Int) < (lp : Int) := by omega
    go_upto_region 9 with (fail)
    obtain ⟨w5, hw5⟩ : ∃ w5, w5 = wo.alloc (.cells #[.slice Ak lk ck, .slice Ab lb cb, .int .i64 fp, .int .i64 fr, .slice As ls cs] 30) := ⟨_, rfl⟩
    obtain ⟨h5, hh5⟩ : ∃ h5, wo.heap.size = h5 := ⟨_, rfl⟩
    have HX5 := hide (show Box w5 h5 #[.slice Ak lk ck, .slice Ab lb cb, .int .i64 fp, .int .i64 fr, .slice As ls cs] 30 by rw [hw5, ← hh5]; exact Box.new wo _ _)
    have HB5 := hide (show Below wo.heap.size wo w5 by rw [hw5]; exact alloc1 wo _)
    rw [← hw5, hh5]
    clear hw5 hh5 e0 e1 e2 e3 e4 hbs xp lxp
    have l5 := HX5.out.lt
    have hz5 := HB5.out.size
    have HK5 := hide (fun (W : World) (hW : Below w5.heap.size w5 W) => And.intro ((HX5.out.below hW).cell 0 (v := .slice Ak lk ck) rfl).1 (And.intro ((HX5.out.below hW).cell 1 (v := .slice Ab lb cb) rfl).1 (And.intro ((HX5.out.below hW).cell 2 (v := .int .i64 fp) rfl).1 (And.intro ((HX5.out.below hW).cell 3 (v := .int .i64 fr) rfl).1 ((HX5.out.below hW).cell 4 (v := .slice As ls cs) rfl).1))))
    have HUP := hide (fun (W : World) (hW : Below w5.heap.size w5 W) => HB5.out.trans (hW.mono HB5.out.size))
    obtain ⟨c0, c1, c2, c3, c4⟩ := HK5.out w5 (Below.refl _ _)
    go_upto_region 10 with (go_at_call 21; (with_reducible refine (HAC.out w5 (HUP.out w5 (Below.refl _ _))).mono ?_); rintro e w6 ⟨r6, s6, rfl, hq6, hv6, hb6⟩; have HQ6 := hide hq6; have HV6 := hide hv6; have q6 := HK5.out w6 hb6; have HC6 := hide hb6; clear hq6 hv6 hb6)
    obtain ⟨A6, c6, hr6, -⟩ := HV6.out
    obtain ⟨n6, hn6⟩ : ∃ n, s6.length = n := ⟨_, rfl⟩
    rw [hn6] at hr6
    subst hr6
    have HN6 := hide hn6
    clear hn6 c0 c1 c2 c3 c4
    obtain ⟨c0, c1, c2, c3, c4⟩ := q6
    have l6 : h5 < w6.heap.size := by have := HC6.out.size; omega
    go_region_held3 (fun w' => w'.cell? ⟨h5, 0, none⟩ = some (.slice Ak lk ck) ∧ w'.cell? ⟨h5, 1, none⟩ = some (.slice Ab lb cb) ∧ w'.cell? ⟨h5, 2, none⟩ = some (.int .i64 fp) ∧ w'.cell? ⟨h5, 3, none⟩ = some (.int .i64 fr) ∧ w'.cell? ⟨h5, 4, none⟩ = some (.slice As ls cs)) (first | go_keep | (exact q15) | (exact q14) | (exact q13) | (exact q12) | (exact q11))
      (first
        | (go_at_call 9; refine HWD15.out.mono ?_; rintro e w' ⟨rfl, rfl⟩)
        | (go_at_call 26; refine (HRB.out w14 (HUP.out w14 HC14.out)).mono ?_; rintro e w15 ⟨r15, s15, rfl, hq15, hv15, hb15⟩; have he15 := HONE.out 1 bz iz s15 s14 hq15 HQ14.out; subst he15; have HWD15 := hide (rwordsV (HV14.out.below hb15) hv15 (by have := (closeL_ok f s15).1; omega)); obtain ⟨A15, c15, hr15, -⟩ := id hv15; rw [HN14.out] at hr15; subst hr15; have hc15 := HC14.out.trans (hb15.mono HC14.out.size); have q15 := HK5.out w15 hc15; have HC15 := hide hc15; clear hb15 hc15 hv15 hq15)
        | (go_at_call 25; refine (HBH.out w13 (HUP.out w13 HC13.out)).mono ?_; rintro e w14 ⟨r14, s14, rfl, hq14, hx14, hb14⟩; have hv14 := hx14.ws; clear hx14; obtain ⟨A14, c14, hr14, -⟩ := id hv14; obtain ⟨n14, hn14⟩ : ∃ n, (closeL f s14).length = n := ⟨_, rfl⟩; rw [hn14] at hr14; subst hr14; have HN14 := hide hn14; clear hn14; have hc14 := HC13.out.trans (hb14.mono HC13.out.size); have q14 := HK5.out w14 hc14; have HC14 := hide hc14; have HV14 := hide hv14; have HQ14 := hide hq14; clear hb14 hc14 hv14 hq14)
        | (go_at_call 9; refine HWD13.out.mono ?_; rintro e w' ⟨rfl, rfl⟩)
        | (go_at_call 24; refine (HRA.out w12 (HUP.out w12 HC12.out)).mono ?_; rintro e w13 ⟨r13, s13, rfl, hq13, hv13, hb13⟩; have he13 := HONE.out 0 bz iz s13 s12 hq13 HQ12.out; subst he13; have HWD13 := hide (rwordsV (HV12.out.below hb13) hv13 (by have := (closeL_ok f s13).1; omega)); obtain ⟨A13, c13, hr13, -⟩ := id hv13; rw [HN12.out] at hr13; subst hr13; have hc13 := HC12.out.trans (hb13.mono HC12.out.size); have q13 := HK5.out w13 hc13; have HC13 := hide hc13; clear hb13 hc13 hv13 hq13)
        | (go_at_call 23; refine (HAH.out w11 (HUP.out w11 HC11.out)).mono ?_; rintro e w12 ⟨r12, s12, rfl, hq12, hx12, hb12⟩; have hv12 := hx12.ws; clear hx12; obtain ⟨A12, c12, hr12, -⟩ := id hv12; obtain ⟨n12, hn12⟩ : ∃ n, (closeL f s12).length = n := ⟨_, rfl⟩; rw [hn12] at hr12; subst hr12; have HN12 := hide hn12; clear hn12; have hc12 := HC11.out.trans (hb12.mono HC11.out.size); have q12 := HK5.out w12 hc12; have HC12 := hide hc12; have HV12 := hide hv12; have HQ12 := hide hq12; clear hb12 hc12 hv12 hq12)
        | (go_at_call 9; refine HWD11.out.mono ?_; rintro e w' ⟨rfl, rfl⟩)
        | (go_at_call 22; refine (HRC.out _ (HUP.out _ (below_drewN HC6.out 1))).mono ?_; rintro e w11 ⟨r11, s11, rfl, hq11, hv11, hb11⟩; have he11 := HAONE.out bz iz s11 s6 hq11 HQ6.out; have hb11' : Below w6.heap.size w6 w11 := ⟨hb11.os, hb11.tape, hb11.output, hb11.size, hb11.block⟩; rw [he11] at hv11; have HWD11 := hide (rwordsV (HV6.out.below hb11') hv11 (HQ6.out.ok)); obtain ⟨A11, c11, hr11, -⟩ := id hv11; rw [HN6.out] at hr11; subst hr11; have hc11 := HC6.out.trans (hb11'.mono HC6.out.size); have q11 := HK5.out w11 hc11; have HC11 := hide hc11; clear hb11 hb11' hc11 hv11 hq11 he11))
    go_wp2
    go_roundw
    case rel => exact ⟨k + 1, by have := HKLT.out; omega, by go_num, HBW.out.trans ((HUP.out w15 HC15.out).mono hszo)⟩
    case measure => have := HKLT.out; simp [intOf]; omega
end Go.Proofs.YtbofnlaacjgclaaDoor
