/- Layer 16: the fixed fact; the reference: Same of locations and of spans, Slots. Condition: no more than 10^12. -/
import Derived.Test.YtojobajeffipdaaPcQG
set_option linter.unusedSimpArgs false
set_option linter.unusedVariables false
namespace Go.Proofs.Ytojobajeffipdaa
open Go.RowKit

theorem sps_two (w : World) (g : Nat) (a b : SpV) (ha : i64R a.v ∧ i64R a.f ∧ i64R a.t) (hb : i64R b.v ∧ i64R b.f ∧ i64R b.t) (h : Box w g #[.int .i64 a.v, .int .i64 a.f, .int .i64 a.t, .bool a.c, .int .i64 b.v, .int .i64 b.f, .int .i64 b.t, .bool b.c] 35) : SpsV w (· < w.heap.size) (.slice (some ⟨g, 0, none⟩) 2 2) [a, b] := by
  refine ⟨_, _, rfl, Nat.le_refl _, by omega, fun _ => ⟨g, 0, rfl, h.lt, fun j x hj => ?_⟩⟩
  match j, hj with
  | 0, hj =>
    simp at hj
    subst hj
    exact ⟨⟨(h.cell 0 rfl).1, (h.cell 1 rfl).1, (h.cell 2 rfl).1, (h.cell 3 rfl).1⟩, ha⟩
  | 1, hj =>
    simp at hj
    subst hj
    exact ⟨⟨(h.cell 4 rfl).1, (h.cell 5 rfl).1, (h.cell 6 rfl).1, (h.cell 7 rfl).1⟩, hb⟩
  | j + 2, hj => simp at hj
def twoS : List SpV := [⟨0, 0, 9, false⟩, ⟨1, 1, 3, false⟩]
theorem twoS_right : rightB16 twoS = true := by decide +kernel
theorem twoS_scan : scanL twoS 1 2 = [⟨2, 0⟩, ⟨1, 0⟩] := by decide +kernel
theorem twoS_slots : slotsN [⟨2, 0⟩, ⟨1, 0⟩] = 1 := by decide +kernel
set_option maxHeartbeats 1000000 in
set_option maxRecDepth 100000 in
theorem alive16_any (w : World) : Calls Try.prog 8 #[] w fun e w' => e = .returned (.bool true) ∧ Below w.heap.size w w' := by
  have HSC := hide (fun (W : World) (g : Nat) (h : Box W g #[.int .i64 0, .int .i64 0, .int .i64 9, .bool false, .int .i64 1, .int .i64 1, .int .i64 3, .bool false] 35) => (qscan_any (.slice (some ⟨g, 0, none⟩) 2 2) twoS 1 W (sps_two W g ⟨0, 0, 9, false⟩ ⟨1, 1, 3, false⟩ ⟨⟨by simp, by simp⟩, ⟨by simp, by simp⟩, ⟨by simp, by simp⟩⟩ ⟨⟨by simp, by simp⟩, ⟨by simp, by simp⟩, ⟨by simp, by simp⟩⟩ h) (by simp [twoS])).mono (R' := fun e w' => ∃ g', e = .returned (.tuple #[.slice (some ⟨g', 0, none⟩) 2 2, .int .i64 0]) ∧ Box w' g' #[.int .i64 2, .int .i64 0, .int .i64 1, .int .i64 0] 37 ∧ Below W.heap.size W w') (fun e w' h => by
    obtain ⟨g', he, hx, -⟩ := h.1.1 ⟨twoS_right, by omega, by omega⟩
    refine ⟨g', he, ?_, h.2⟩
    rw [show twoS.length = 2 from rfl, twoS_scan] at hx
    exact hx))
  have HSL := hide (fun (W : World) (g : Nat) (h : Box W g #[.int .i64 2, .int .i64 0, .int .i64 1, .int .i64 0] 37) => (show Calls Try.prog 15 #[.slice (some ⟨g, 0, none⟩) 2 2] W fun e w' => e = .returned (.int .i64 1) ∧ Below W.heap.size W w' from by
    have t := qslots_any (.slice (some ⟨g, 0, none⟩) 2 2) [⟨2, 0⟩, ⟨1, 0⟩] W (lcs_of_box (ls := [⟨2, 0⟩, ⟨1, 0⟩]) h (fun x hx => by simp at hx; rcases hx with rfl | rfl <;> exact ⟨⟨by simp, by simp⟩, by simp, by simp⟩) rfl (Nat.le_refl _) (by omega)) (by simp)
    rwa [twoS_slots] at t))
  go_enter Try.func8, Try.ntmps8
  go_upto_region 2 with (obtain ⟨w1, hw1⟩ := letr (w.alloc (.cells #[.int .i64 0, .int .i64 0, .int .i64 9, .bool false, .int .i64 1, .int .i64 1, .int .i64 3, .bool false] 35)); obtain ⟨h0, hh0⟩ := letl w.heap.size; have HX0 := lBox hw1 hh0; have HB1 := lBel hw1; rw [← hw1, hh0]; clear hw1 hh0; go_at_call 9; (with_reducible refine (HSC.out w1 h0 HX0.out).mono ?_); rintro e w2 ⟨g', rfl, hx2, hb2⟩; have HX2 := hide hx2; have HB2 := hide (HB1.out.trans (hb2.mono HB1.out.size)); clear hx2 hb2)
  obtain ⟨c0, c1, c2, c3⟩ := And.intro (HX2.out.cell 0 (v := .int .i64 2) rfl).1 (And.intro (HX2.out.cell 1 (v := .int .i64 0) rfl).1 (And.intro (HX2.out.cell 2 (v := .int .i64 1) rfl).1 (HX2.out.cell 3 (v := .int .i64 0) rfl).1))
  have lx := HX2.out.lt
  go_wp2_with (go_at_call 15; (with_reducible refine (HSL.out w2 g' HX2.out).mono ?_); rintro e w3 ⟨rfl, hb3⟩)
  go_ret
  exact ⟨rfl, HB2.out.trans (hb3.mono HB2.out.size)⟩
end Go.Proofs.Ytojobajeffipdaa
