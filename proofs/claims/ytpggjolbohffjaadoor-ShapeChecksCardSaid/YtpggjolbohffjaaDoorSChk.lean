/- The statement ShapeChecks, walked: it answers true. Conditions: the table of parts reads as listed; no slice of the program is longer than any machine's memory. -/
import Derived.Test.YtpggjolbohffjaaDoorTC
import Derived.Test.YtpggjolbohffjaaDoorSW
set_option linter.unusedSimpArgs false
set_option linter.unusedVariables false
namespace Go.Proofs.YtpggjolbohffjaaDoor
open Go.RowKit

set_option maxHeartbeats 2000000 in
set_option maxRecDepth 100000 in
theorem checks_law (vp : Value) (p : List FunV) (w : World) (hT : TabP w) (hp : FunsV w (· < w.heap.size) vp p) (hsz : progSize p) :
    Calls Tryd.prog 4 #[.agg #[vp]] w fun e w' => e = .returned (.bool true) ∧ Below w.heap.size w w' := by
  have kp := fun (W : World) (hW : Below w.heap.size w W) => hp.keep (up hW (Nat.le_refl _)) (fun _ h => h)
  obtain ⟨A, c, rfl, hpc, hpm⟩ := hp.open'
  have HKP := hide kp
  have HA := hide (fun (W : World) (hW : Below w.heap.size w W) => alive4_any W (hT.below hW hT.1))
  have HG := hide (fun (W : World) (hW : Below w.heap.size w W) => great2_any _ p W w.heap.size hW.size (kp W hW) hsz)
  have HCK := hide (fun (W : World) (hW : Below w.heap.size w W) (hf : progFew p) => check_any _ p W w.heap.size hW.size (hT.below hW hT.1) (kp W hW) hf)
  have HC4 := hide (fun (W : World) (hW : Below w.heap.size w W) (hf : progFew p) => check4_any _ p W w.heap.size hW.size (kp W hW) hf)
  have HFEW := hide (fun h : ∀ f ∈ p, smallF f => smallF.few h)
  generalize chkN4 p = ck at *
  obtain ⟨lp, hlp⟩ : ∃ lp, p.length = lp := ⟨_, rfl⟩
  have HLP := hide hlp
  rw [hlp] at HKP HG HCK HC4 hpc ⊢
  clear kp hp hT hsz hlp
  go_enter Tryd.func4, Tryd.ntmps4
  go_upto_region 1 with (fail)
  obtain ⟨w0, hw0⟩ : ∃ w0, w0 = w.alloc (.cells #[.slice A lp c] 26) := ⟨_, rfl⟩
  have HX0 := hide (show Box w0 w.heap.size #[.slice A lp c] 26 by rw [hw0]; exact Box.new w _ _)
  have HB0 := hide (show Below w.heap.size w w0 by rw [hw0]; exact alloc1 w _)
  have hl0 := HX0.out.lt
  rw [← hw0]
  clear hw0
  go_upto_region 3 with (go_at_call 12; refine (HA.out w0 HB0.out).mono ?_; rintro e w1 ⟨rfl, hb1⟩; have hz1 := hb1.size; have HX1 := hide (HX0.out.below hb1); have HC1 := hide (HB0.out.trans (hb1.mono HB0.out.size)); clear hb1)
  have x1 := (HX1.out.cell 0 (v := .slice A lp c) rfl).1
  go_upto_region 5 with (go_at_call 13; refine (HG.out w1 HC1.out).mono ?_; rintro e w2 ⟨b1, rfl, hs2, hb2⟩; have hz2 := hb2.size; have HB2 := hide (HC1.out.trans (hb2.mono (by omega))); have HX2 := hide (HX1.out.below hb2); have HS2 := hide hs2; clear x1 hb2 hs2)
  all_goals try (go_ret; exact ⟨rfl, HB2.out⟩)
  have hb1f : b1 = false := by assumption
  subst hb1f
  have HFW := hide (HFEW.out (HS2.out rfl))
  have HCK' := hide (fun W hW => HCK.out W hW HFW.out)
  have HC4' := hide (fun W hW => HC4.out W hW HFW.out)
  clear HA HG HCK HC4 HFEW HS2 HC1 HFW HX1
  go_wp2
  go_loopw [3] (fun i wr => ∃ k : Nat, k ≤ lp ∧ i = .int .i64 k ∧ Below w2.heap.size w2 wr) (fun i _ => lp - (intOf i).toNat)
  case atStart => exact ⟨0, Nat.zero_le _, rfl, Below.refl _ _⟩
  case round =>
    obtain ⟨k, hk, rfl, hb⟩ := hrel
    obtain ⟨wo, rfl⟩ : ∃ wo, wo = wr := ⟨_, rfl⟩
    have hszo := hb.size
    have HBEL := hide (HB2.out.trans (hb.mono HB2.out.size))
    have HXO := hide (HX2.out.below hb)
    have HBW := hide hb
    have xp := (HXO.out.cell 0 (v := .slice A lp c) rfl).1
    have lxp := HXO.out.lt
    clear hb
    by_cases hlt : k < lp
    · obtain ⟨f, hf⟩ : ∃ f, p[k]? = some f := ⟨_, List.getElem?_eq_getElem (by have := HLP.out; omega)⟩
      obtain ⟨b, o, Ak, ck', Ab, cb, As, cs, hA, hbb, ⟨e0, e1, e2, e3, e4⟩, hi⟩ := (HKP.out wo HBEL.out).get hf
      subst hA
      have hbs : b < wo.heap.size := by omega
      have HQ := hide (fun (W : World) (hW : Below wo.heap.size wo W) (a z : Nat) (v : Value) (h : wo.cell? ⟨b, o + k * 5 + z, none⟩ = some v) => (hW.cell (p := ⟨b, o + k * 5 + z, none⟩) hbs).trans h)
      have HK5 := hide (fun (W : World) (hW : Below wo.heap.size wo W) => And.intro ((hW.cell (p := ⟨b, o + k * 5, none⟩) hbs).trans e0) (And.intro ((hW.cell (p := ⟨b, o + k * 5 + 1, none⟩) hbs).trans e1) (And.intro ((hW.cell (p := ⟨b, o + k * 5 + 2, none⟩) hbs).trans e2) (And.intro ((hW.cell (p := ⟨b, o + k * 5 + 3, none⟩) hbs).trans e3) (And.intro ((hW.cell (p := ⟨b, o + k * 5 + 4, none⟩) hbs).trans e4) (HXO.out.below hW |>.cell 0 (v := .slice (some ⟨b, o, none⟩) lp c) rfl).1)))))
      have kI := fun (W : World) (hW : Below wo.heap.size wo W) => hi.keep (w := wo) (S := (· < w.heap.size)) (up hW (by omega)) (fun _ h => h)
      have HFn := hide (fun (W : World) (hW : Below wo.heap.size wo W) => sfunc_any (.slice Ak f.kinds.length ck') (.slice Ab f.base.length cb) (.slice As f.blocks.length cs) f W w.heap.size (by have := hW.size; omega) (kI W hW))
      have HF4 := hide (fun (W : World) (hW : Below wo.heap.size wo W) => func4_any (.slice Ak f.kinds.length ck') (.slice Ab f.base.length cb) (.slice As f.blocks.length cs) f W w.heap.size (by have := hW.size; omega) (kI W hW))
      generalize funB4 f = fb at *
      generalize f.kinds.length = lk, f.base.length = lb, f.blocks.length = ls, f.params = fp, f.result = fr at *
      have hki : (0 : Int) ≤ (k : Int) := by omega
      have hkl : (k : Int) < (lp : Int) := by omega
      clear hi hf kI HQ
      cases fb
      all_goals
        go_wp2_with fail
        go_region_held3 (fun w' => w'.cell? ⟨b, o + k * 5, none⟩ = some (.slice Ak lk ck') ∧ w'.cell? ⟨b, o + k * 5 + 1, none⟩ = some (.slice Ab lb cb) ∧ w'.cell? ⟨b, o + k * 5 + 2, none⟩ = some (.int .i64 fp) ∧ w'.cell? ⟨b, o + k * 5 + 3, none⟩ = some (.int .i64 fr) ∧ w'.cell? ⟨b, o + k * 5 + 4, none⟩ = some (.slice As ls cs) ∧ w'.cell? ⟨w.heap.size, 0, none⟩ = some (.slice (some ⟨b, o, none⟩) lp c)) (first | go_keep | (exact q4) | (exact q3))
          (first
            | (go_at_call 14; refine (HFn.out w3 HB3.out).mono ?_; rintro e w4 ⟨rfl, hb4⟩; have hb4' := HB3.out.trans (hb4.mono HB3.out.size); have q4 := HK5.out w4 hb4'; have HB4 := hide hb4'; clear hb4 hb4')
            | (go_at_call 15; refine (HF4.out w3 HB3.out).mono ?_; rintro e w4 ⟨rfl, hb4⟩; have hb4' := HB3.out.trans (hb4.mono HB3.out.size); have q4 := HK5.out w4 hb4'; have HB4 := hide hb4'; clear hb4 hb4')
            | (go_at_call 14; refine (HFn.out _ (below_drewN (Below.refl _ _) 1)).mono ?_; rintro e w3 ⟨rfl, hb3⟩; have hb3' : Below wo.heap.size wo w3 := ⟨hb3.os, hb3.tape, hb3.output, hb3.size, hb3.block⟩; have q3 := HK5.out w3 hb3'; have HB3 := hide hb3'; clear hb3 hb3')
            | (go_at_call 15; refine (HF4.out _ (below_drewN (Below.refl _ _) 1)).mono ?_; rintro e w3 ⟨rfl, hb3⟩; have hb3' : Below wo.heap.size wo w3 := ⟨hb3.os, hb3.tape, hb3.output, hb3.size, hb3.block⟩; have q3 := HK5.out w3 hb3'; have HB3 := hide hb3'; clear hb3 hb3'))
        all_goals
          go_wp2
          go_roundw
          case rel => exact ⟨k + 1, by omega, by go_num, HBW.out.trans (HB4.out.mono hszo)⟩
          case measure => simp [intOf]; omega
    · go_wp2_with fail
      go_region_held3 (fun w' => w'.cell? ⟨w.heap.size, 0, none⟩ = some (.slice A lp c)) (first | go_keep | (exact q4) | (exact q3))
        (first
          | (go_at_call 16; refine (HCK'.out w3 HB3.out).mono ?_; rintro e w4 ⟨rfl, hb4⟩; have q4 := ((HX3.out.below hb4).cell 0 (v := .slice A lp c) rfl).1; have HB4 := hide (HB3.out.trans (hb4.mono HB3.out.size)); clear hb4)
          | (go_at_call 17; refine (HC4'.out w3 HB3.out).mono ?_; rintro e w4 ⟨rfl, hb4⟩; have q4 := ((HX3.out.below hb4).cell 0 (v := .slice A lp c) rfl).1; have HB4 := hide (HB3.out.trans (hb4.mono HB3.out.size)); clear hb4)
          | (go_at_call 16; refine (HCK'.out _ (below_drewN HBEL.out 1)).mono ?_; rintro e w3 ⟨rfl, hb3⟩; have hb3' : Below wo.heap.size wo w3 := ⟨hb3.os, hb3.tape, hb3.output, hb3.size, hb3.block⟩; have HX3 := hide (HXO.out.below hb3'); have q3 := (HX3.out.cell 0 (v := .slice A lp c) rfl).1; have HB3 := hide (HBEL.out.trans (hb3'.mono HBEL.out.size)); clear hb3 hb3')
          | (go_at_call 17; refine (HC4'.out _ (below_drewN HBEL.out 1)).mono ?_; rintro e w3 ⟨rfl, hb3⟩; have hb3' : Below wo.heap.size wo w3 := ⟨hb3.os, hb3.tape, hb3.output, hb3.size, hb3.block⟩; have HX3 := hide (HXO.out.below hb3'); have q3 := (HX3.out.cell 0 (v := .slice A lp c) rfl).1; have HB3 := hide (HBEL.out.trans (hb3'.mono HBEL.out.size)); clear hb3 hb3'))
      all_goals
        go_wp2
        go_ret
        exact ⟨by simp, HB4.out⟩
end Go.Proofs.YtpggjolbohffjaaDoor
