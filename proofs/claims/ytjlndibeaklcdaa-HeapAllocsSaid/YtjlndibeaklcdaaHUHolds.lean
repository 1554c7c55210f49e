/- HeapAllocs: for every heap, two numbers and roots the statement answers true, and its arguments read as they did. No condition. -/
import Derived.Test.YtjlndibeaklcdaaHU
import Derived.Test.YtjlndibeaklcdaaHX
import Derived.Test.YtjlndibeaklcdaaCOpenS
set_option linter.unusedSimpArgs false
set_option linter.unusedVariables false
namespace Go.Proofs.Ytjlndibeaklcdaa
open Go.ChangeShapes Go.WideShapes Go.ChangeAt Go.RowKit

namespace allocs9
set_option maxRecDepth 100000 in
theorem lifted (os : Os) (started : os.Started) (H : Type) (enc : TypeId × Value → H) :
    ReturnsInHanded {} Try.checked os 3 .any (Rows.heapAllocsSpec.pre6 enc Try.prog Try.f3 Rows.heapAllocsRow.domain false) (Rows.heapAllocsSpec.post enc Try.prog Try.f3 false true false false) := by
  rw [show Rows.heapAllocsSpec.pre6 enc Try.prog Try.f3 Rows.heapAllocsRow.domain false = (fun w args => (Rows.heapAllocsSpec.pre enc Try.prog Try.f3 Rows.heapAllocsRow.domain false w args ∧ True) ∧ sizedMet enc Try.prog Try.f3 (OpenSpec.ofChange Rows.heapAllocsSpec) false w args) from by funext w args; simp only [ChangeSpec.pre6, and_true]]
  refine returnsInHanded_of_change_and (C := Try.checked) (X := fun _ _ => True) (fun _ _ _ _ h => h) own started (by kernel_rfl) Try.func3 ?_ ?_
  · obtain ⟨w, t, i, q1, q2, q3, q4, q5, q6⟩ := ChangeSpec.witness6 (enc := enc) (C := Try.checked) (os := os) (s := Rows.heapAllocsSpec) (conds := Rows.heapAllocsRow.domain) (f := 3) (fn := Try.f3) false ⟨#[], #[.agg #[.slice none 0 0], .agg #[.int .i64 0, .int .i64 0], .slice none 0 0], []⟩ 8 (by kernel_rfl) (by kernel_rfl) (by kernel_rfl) (by kernel_rfl)
    exact ⟨w, t, i, q1, q2, q3, q4, ⟨⟨q5.1, trivial⟩, q5.2⟩, q6⟩
  intro W base args ds gs before hval0 hW _ hWt _ _
  have hval : ∀ (j : Nat) t v, Try.f3.params[j]? = some t → args[j]? = some v → Value.okWide Try.prog W .any base t v := hval0
  have hW' := hW
  obtain ⟨p, q, hA0, hV, rfl, _, _⟩ := hW
  have hA : DataW.TrodAll enc Try.prog W 0 (fun _ => true) true Try.f3.params.toList args.toList ds p := hA0
  rw [Try.params3] at hA hval
  obtain ⟨v0, v1, v2, d0, d1, d2, p0, p1, p2, rfl, rfl, rfl, h0, h1, h2⟩ := trodAll_three hA
  obtain ⟨rfl, rfl⟩ := trodVars_none hV
  obtain ⟨a2, len2, cap2, rfl⟩ := okWide_slice Try.underlying26 (hval 2 26 v2 rfl rfl)
  have h2k := h2
  obtain ⟨fuel2, hf2⟩ := h2
  clear hA0 hval0
  simp only [List.append_nil, List.append_assoc] at hW'
  have hlt0 : ∀ x ∈ p0, x.block < W.heap.size := fun x hx => hW'.lt x (by simp [hx])
  have hlt1 : ∀ x ∈ p1, x.block < W.heap.size := fun x hx => hW'.lt x (by simp [hx])
  have hlt2 : ∀ x ∈ p2, x.block < W.heap.size := fun x hx => hW'.lt x (by simp [hx])
  obtain ⟨vh0, G0, rfl, hG0, hsz0⟩ := open_heapW (hval 0 24 v0 rfl rfl) h0 hlt0 (weightsEach_get (i := 0) rfl rfl hWt)
  obtain ⟨xa1, xb1, rfl, hxa1, hxb1⟩ := open_twoI (hval 1 25 v1 rfl rfl) h1
  obtain ⟨zs2, hn2, hlc2, hcm2, hsl2, hwz2⟩ := open_sl Try.underlying26 Try.underlying3 cells_i64 hf2 hlt2
  subst hn2
  refine (allocs_law vh0 G0 xa1 xb1 _ zs2 W hG0 (Sl.vec hsl2 hlc2 (by simpa [maxLen] using hcm2) (fun z hz => int_R (hwz2 z hz))) hsz0.size).mono fun e W' ⟨he, hnx⟩ => ?_
  subst he
  exact ⟨_, rfl, _, _, _, [], p0 ++ (p1 ++ p2), [], hW', trodAll_cons_mk (shut_bool Try.underlying4 _) trodAll_mk0, trodAll_mk3 (Below.trod laidOut (by kernel_rfl) (of_decide_eq_true (by kernel_rfl)) h0 hnx hlt0) (Below.trod laidOut (by kernel_rfl) (of_decide_eq_true (by kernel_rfl)) h1 hnx hlt1) (Below.trod laidOut (by kernel_rfl) (of_decide_eq_true (by kernel_rfl)) h2k hnx hlt2), rfl, hnx.frame _, fun h => by cases h⟩

theorem holds : Rows.HeapAllocsSaid :=
  OpenClaim.holds_of_wide 3 Try.f3 rfl rfl rfl rfl rfl rfl rfl ⟨rfl, rfl, rfl, rfl, rfl⟩ rfl rfl rfl rfl rfl (by kernel_rfl) Try.func3 (by kernel_rfl)
    (of_decide_eq_true (by kernel_rfl)) (by unfold Func.isWrapper; first | (rw [if_pos (by decide +kernel)]; kernel_rfl) | (rw [if_neg (by decide +kernel)]; exact ⟨rfl, rfl⟩))
    (fun os started H enc _ => lifted os started H enc)
end allocs9
end Go.Proofs.Ytjlndibeaklcdaa
