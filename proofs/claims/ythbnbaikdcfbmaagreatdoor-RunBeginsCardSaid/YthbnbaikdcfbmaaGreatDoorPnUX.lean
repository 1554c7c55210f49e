/- Layer 10, the reference: contracts of Begins and of Same, where they answer yes. No condition. -/
import Derived.Test.YthbnbaikdcfbmaaGreatDoorPmUT
import Derived.Test.YthbnbaikdcfbmaaGreatDoorPmCOpenW
set_option linter.unusedSimpArgs false
set_option linter.unusedVariables false
set_option maxHeartbeats 2000000
set_option maxRecDepth 100000
namespace Go.Proofs.YthbnbaikdcfbmaaGreatDoor
open Go.RowKit
theorem IntsV.front {w : World} {S : Nat → Prop} {A : Option Addr} {n c : Nat} {xs t : List Int} (h : IntsV w S (.slice A n c) (xs ++ t)) : IntsV w S (.slice A xs.length c) xs := by
 obtain ⟨A', c', e, h1, h2, h3⟩ := h
 injection e with e1 e2 e3
 subst e1
 subst e3
 refine ⟨A, c, rfl, by rw [List.length_append] at h1; omega, h2, fun hp => ?_⟩
 obtain ⟨b, o, rfl, hS, hr⟩ := h3 (by rw [List.length_append]; omega)
 exact ⟨b, o, rfl, hS, fun j x hj => hr j x (by rw [List.getElem?_append_left (List.getElem?_eq_some_iff.1 hj).1]; exact hj)⟩
theorem rbegins_yes (va vb : Value) (xs t : List Int) (w : World) (B : Nat) (hx : IntsV w (· < B) va xs) (hy : IntsV w (· < B) vb (xs ++ t)) :
  Calls Tryz.prog 16 #[va, vb] w fun e w' => e = .returned (.bool true) ∧ ∃ q, w' = w.drewN q := by
 obtain ⟨A, c, rfl, h1, h2, h3⟩ := id hx
 obtain ⟨A', c', rfl, h1', h2', h3'⟩ := id hy
 have HRI := hide (jqe (.slice A xs.length c) (.slice A' xs.length c') xs xs w B hx hy.front)
 rw [List.length_append] at h1'
 obtain ⟨n, hn⟩ := zl xs.length
 obtain ⟨k, hk⟩ := zl ((xs ++ t).length)
 have hnk : n ≤ k := by rw [← hk, List.length_append]; omega
 have hkc : k ≤ c' := by rw [← hk, List.length_append]; omega
 rw [hn] at HRI h1
 rw [hk]
 rw [hn]
 clear hx hy h3 h3' hn hk h1'
 have c1 : (n : Int) ≤ (k : Int) := by omega
 have c2 : (0 : Int) ≤ (n : Int) := by omega
 have c3 : (n : Int) ≤ (c' : Int) := by omega
 go_enter Tryz.func16, Tryz.ntmps16
 go_wp2_with (go_at_call 19; refine HRI.out.mono ?_; rintro e w1 ⟨rfl, q, hq⟩; have HQ := hide hq; clear hq)
 go_ret
 exact ⟨by simp, _, HQ.out⟩
theorem rsame_yes (va vb : Value) (zs : List Int) (en vl co : Int) (w : World) (hx : IntsV w (· < w.heap.size) va zs) (hy : IntsV w (· < w.heap.size) vb zs) :
  Calls Tryz.prog 11 #[.agg #[va, .int .i64 en, .int .i64 vl, .int .i64 co], .agg #[vb, .int .i64 en, .int .i64 vl, .int .i64 co]] w fun e w' => e = .returned (.bool true) ∧ Below w.heap.size w w' := by
 have HRI := hide (fun (W : World) (hW : Below w.heap.size w W) => jqe va vb zs zs W w.heap.size (IntsV.keep hx (up hW (Nat.le_refl _)) (fun _ h => h)) (IntsV.keep hy (up hW (Nat.le_refl _)) (fun _ h => h)))
 obtain ⟨A, c, rfl, -⟩ := hx
 obtain ⟨A', c', rfl, -⟩ := hy
 generalize zs.length = n at *
 go_enter Tryz.func11, Tryz.ntmps11
 go_upto_region 1 with (fail)
 obtain ⟨w1, hw1⟩ := zr ((w.alloc (.cells #[.slice A n c, .int .i64 en, .int .i64 vl, .int .i64 co] 35)).alloc (.cells #[.slice A' n c', .int .i64 en, .int .i64 vl, .int .i64 co] 35))
 obtain ⟨h5, hh5⟩ := zl w.heap.size
 have HX0 := zy2 hw1 hh5
 have HX1 := zx2 hw1 hh5
 have HB1 := hide (show Below w.heap.size w w1 by rw [hw1]; exact jbm w _ _)
 have HKF := hide (fun (W : World) (hW : Below w1.heap.size w1 W) => And.intro (And.intro ((HX0.out.below hW).cell 1 (v := .int .i64 en) rfl).1 (And.intro ((HX0.out.below hW).cell 2 (v := .int .i64 vl) rfl).1 (And.intro ((HX0.out.below hW).cell 3 (v := .int .i64 co) rfl).1 (HX0.out.below hW).lt))) (And.intro ((HX1.out.below hW).cell 1 (v := .int .i64 en) rfl).1 (And.intro ((HX1.out.below hW).cell 2 (v := .int .i64 vl) rfl).1 (And.intro ((HX1.out.below hW).cell 3 (v := .int .i64 co) rfl).1 (HX1.out.below hW).lt))))
 have x0 := (HX0.out.cell 0 (v := .slice A n c) rfl).1
 have y0 := (HX1.out.cell 0 (v := .slice A' n c') rfl).1
 have lx := HX0.out.lt
 have ly := HX1.out.lt
 rw [← hw1, hh5]
 clear hw1 hh5
 go_wp2_with (go_at_call 19; refine (HRI.out w1 HB1.out).mono ?_; rintro e w2 ⟨rfl, q, hq⟩; have hb : Below w1.heap.size w1 w2 := (by rw [hq]; exact ja0 (Below.refl _ _) q); obtain ⟨⟨x1, x2, x3, lx'⟩, y1, y2, y3, ly'⟩ := HKF.out w2 hb; have HB2 := hide (HB1.out.trans (hb.mono HB1.out.size)); clear hb hq)
 go_ret
 exact ⟨by simp, HB2.out⟩
end Go.Proofs.YthbnbaikdcfbmaaGreatDoor
