/- Layer 8, the statements: what is too great. No condition. -/
import Derived.Test.YtckpaikppgjfnaaGreatDoorKQ
import Derived.Test.YtckpaikppgjfnaaGreatDoorG2
import Derived.Laws.Cover1
set_option linter.unusedSimpArgs false
set_option linter.unusedVariables false
namespace Go.Proofs.YtckpaikppgjfnaaGreatDoor
open Go.RowKit

set_option maxHeartbeats 4000000 in
set_option maxRecDepth 100000 in
theorem great8_any (vp : Value) (p : List FunV) (w : World) (B : Nat) (hB : B ≤ w.heap.size) (hp : FunsV w (· < B) vp p) (hsz : progSize p) :
    Calls Tryz.prog 5 #[.agg #[vp]] w fun e w' => ∃ b : Bool, e = .returned (.bool b) ∧ (b = false → ∀ f ∈ p, smallF f) ∧ Below w.heap.size w w' := by
  have HG := hide (fun (W : World) (hW : Below w.heap.size w W) => great2_any vp p W B (by have := hW.size; omega) (hp.keep (up hW hB) (fun _ h => h)) hsz)
  have HPK := hide (fun (W : World) (hW : Below w.heap.size w W) => hp.keep (up hW hB) (fun _ h => h))
  obtain ⟨Ap, cp, rfl, hcp, hmp⟩ := hp.open'
  obtain ⟨lp, hlp⟩ : ∃ lp, p.length = lp := ⟨_, rfl⟩
  have HLP := hide hlp
  rw [hlp] at HPK HG hcp ⊢
  clear hp hsz hlp
  go_enter Tryz.func5, Tryz.ntmps5
  go_upto_region 1 with (fail)
  obtain ⟨w1, hw1⟩ : ∃ w1, w1 = w.alloc (.cells #[.slice Ap lp cp] 24) := ⟨_, rfl⟩
  obtain ⟨h5, hh5⟩ : ∃ h5, w.heap.size = h5 := ⟨_, rfl⟩
  have HX0 := hide (show Box w1 (h5) #[.slice Ap lp cp] 24 by rw [hw1, ← hh5]; have t := Box.new w #[.slice Ap lp cp] 24; (try simp only [World.size_alloc] at t); exact t)
  have HB1 := hide (show Below w.heap.size w w1 by rw [hw1]; exact ((Below.refl _ _).alloc (Nat.le_refl _) _))
  have w1s := HB1.out.size
  have w1z := hide (show w1.heap.size = h5 + 1 by rw [hw1, ← hh5]; simp only [World.size_alloc])
  have HK0 := hide (fun (W : World) (hW : Below w1.heap.size w1 W) => ((HX0.out.below hW).cell 0 (v := .slice Ap lp cp) rfl).1)
  have lHX0 := HX0.out.lt
  have h5g : w.heap.size ≤ h5 := by omega
  rw [← hw1, hh5]
  clear hw1 hh5
  have p0 := HK0.out w1 (Below.refl _ _)
  go_wp2
  go_loopw [3, 4] (fun a i wr => ∃ (n : Int) (k : Nat), k ≤ lp ∧ a = .int .i64 n ∧ i = .int .i64 (k : Int) ∧ Below w1.heap.size w1 wr) (fun _ i _ => lp - (intOf i).toNat)
  case atStart => exact ⟨0, 0, Nat.zero_le _, rfl, rfl, Below.refl _ _⟩
  case round =>
    obtain ⟨n, k, hk, rfl, rfl, hb⟩ := hrel
    obtain ⟨wo, rfl⟩ : ∃ wo, wo = wr := ⟨_, rfl⟩
    have hszo := hb.size
    have HBEL := hide (HB1.out.trans (hb.mono HB1.out.size))
    have HBW := hide hb
    have HXO := hide (HX0.out.below hb)
    have xp := (HXO.out.cell 0 (v := .slice Ap lp cp) rfl).1
    have lxp := HXO.out.lt
    clear hb p0
    by_cases hlt : k < lp
    · by_cases h9 : k < 9
      · obtain ⟨f, hf⟩ : ∃ f, p[k]? = some f := ⟨_, List.getElem?_eq_getElem (by have := HLP.out; omega)⟩
        obtain ⟨bg, og, Ak, ck, Ab, cb, As, cs, hAp, hbgb, ⟨e0, e1, e2, e3, e4⟩, hi⟩ := (HPK.out wo HBEL.out).get hf
        subst hAp
        have hbs : bg < wo.heap.size := by omega
        clear hi hf
        generalize f.kinds.length = lk, f.base.length = lb, f.blocks.length = ls, f.params = fp, f.result = fr at *
        have hki : (0 : Int) ≤ (k : Int) := by omega
        have hkl : (k : Int) < (lp : Int) := by omega
        have hd1 : decide ((k : Int) < (lp : Int)) = true := by simpa using hkl
        have hd9 : decide ((k : Int) < 9) = true := by simp; omega
        go_upto_region 5 with (fail)
        go_region
        go_wp2
        go_roundw
        case rel => exact ⟨_, k + 1, by omega, rfl, by go_num, ⟨HBW.out.os, HBW.out.tape, HBW.out.output, HBW.out.size, HBW.out.block⟩⟩
        case measure => simp [intOf]; omega
      · have hd1 : decide ((k : Int) < (lp : Int)) = true := by simp; omega
        have hd9 : decide ((k : Int) < 9) = false := by simp; omega
        by_cases h14 : n > 14
        · have hd : decide (n > 14) = true := by simpa using h14
          have hd2 : decide (14 < n) = true := by simpa using h14
          go_wp2
          go_ret
          exact ⟨true, rfl, (fun h => by cases h), HBEL.out⟩
        · have hd : decide (n > 14) = false := by simpa using h14
          have hd2 : decide (14 < n) = false := by simpa using h14
          go_wp2_with (go_at_call 9; (with_reducible refine (HG.out wo HBEL.out).mono ?_); rintro e w9 ⟨b9, rfl, hs9, hb9⟩; have HS9 := hide hs9; have HB9 := hide (HBEL.out.trans (hb9.mono HBEL.out.size)); clear hs9 hb9)
          go_ret
          exact ⟨b9, by simp, HS9.out, HB9.out⟩
    · have hd1 : decide ((k : Int) < (lp : Int)) = false := by simp; omega
      by_cases h14 : n > 14
      · have hd : decide (n > 14) = true := by simpa using h14
        have hd2 : decide (14 < n) = true := by simpa using h14
        go_wp2
        go_ret
        exact ⟨true, rfl, (fun h => by cases h), HBEL.out⟩
      · have hd : decide (n > 14) = false := by simpa using h14
        have hd2 : decide (14 < n) = false := by simpa using h14
        go_wp2_with (go_at_call 9; (with_reducible refine (HG.out wo HBEL.out).mono ?_); rintro e w9 ⟨b9, rfl, hs9, hb9⟩; have HS9 := hide hs9; have HB9 := hide (HBEL.out.trans (hb9.mono HBEL.out.size)); clear hs9 hb9)
        go_ret
        exact ⟨b9, by simp, HS9.out, HB9.out⟩
end Go.Proofs.YtckpaikppgjfnaaGreatDoor
