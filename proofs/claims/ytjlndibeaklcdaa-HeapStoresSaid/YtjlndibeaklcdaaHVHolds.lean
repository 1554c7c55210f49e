/- HeapStores: for every heap and three numbers the statement answers true, and its arguments read as they did. No condition. -/
import Derived.Test.YtjlndibeaklcdaaHV
import Derived.Test.YtjlndibeaklcdaaHX
import Derived.Test.YtjlndibeaklcdaaCOpenS
set_option linter.unusedSimpArgs false
set_option linter.unusedVariables false
namespace Go.Proofs.Ytjlndibeaklcdaa
open Go.ChangeShapes Go.WideShapes Go.ChangeAt Go.RowKit

namespace stores9
set_option maxRecDepth 100000 in
theorem lifted (os : Os) (started : os.Started) (H : Type) (enc : TypeId × Value → H) :
    ReturnsInHanded {} Try.checked os 4 .any (Rows.heapStoresSpec.pre6 enc Try.prog Try.f4 Rows.heapStoresRow.domain false) (Rows.heapStoresSpec.post enc Try.prog Try.f4 false true false false) := by
  rw [show Rows.heapStoresSpec.pre6 enc Try.prog Try.f4 Rows.heapStoresRow.domain false = (fun w args => (Rows.heapStoresSpec.pre enc Try.prog Try.f4 Rows.heapStoresRow.domain false w args ∧ True) ∧ sizedMet enc Try.prog Try.f4 (OpenSpec.ofChange Rows.heapStoresSpec) false w args) from by funext w args; simp only [ChangeSpec.pre6, and_true]]
  refine returnsInHanded_of_change_and (C := Try.checked) (X := fun _ _ => True) (fun _ _ _ _ h => h) own started (by kernel_rfl) Try.func4 ?_ ?_
  · obtain ⟨w, t, i, q1, q2, q3, q4, q5, q6⟩ := ChangeSpec.witness6 (enc := enc) (C := Try.checked) (os := os) (s := Rows.heapStoresSpec) (conds := Rows.heapStoresRow.domain) (f := 4) (fn := Try.f4) false ⟨#[], #[.agg #[.slice none 0 0], .int .i64 0, .agg #[.int .i64 0, .int .i64 0]], []⟩ 8 (by kernel_rfl) (by kernel_rfl) (by kernel_rfl) (by kernel_rfl)
    exact ⟨w, t, i, q1, q2, q3, q4, ⟨⟨q5.1, trivial⟩, q5.2⟩, q6⟩
  intro W base args ds gs before hval0 hW _ hWt _ _
  have hval : ∀ (j : Nat) t v, Try.f4.params[j]? = some t → args[j]? = some v → Value.okWide Try.prog W .any base t v := hval0
  have hW' := hW
  obtain ⟨p, q, hA0, hV, rfl, _, _⟩ := hW
  have hA : DataW.TrodAll enc Try.prog W 0 (fun _ => true) true Try.f4.params.toList args.toList ds p := hA0
  rw [Try.params4] at hA hval
  obtain ⟨v0, v1, v2, d0, d1, d2, p0, p1, p2, rfl, rfl, rfl, h0, h1, h2⟩ := trodAll_three hA
  obtain ⟨rfl, rfl⟩ := trodVars_none hV
  obtain ⟨x1, rfl, rfl, rfl, wx1⟩ := open_int Try.underlying3 (hval 1 3 v1 rfl rfl) h1
  clear hA0 hval0
  simp only [List.append_nil, List.append_assoc] at hW'
  have hlt0 : ∀ x ∈ p0, x.block < W.heap.size := fun x hx => hW'.lt x (by simp [hx])
  have hlt2 : ∀ x ∈ p2, x.block < W.heap.size := fun x hx => hW'.lt x (by simp [hx])
  obtain ⟨vh0, G0, rfl, hG0, hsz0⟩ := open_heapW (hval 0 24 v0 rfl rfl) h0 hlt0 (weightsEach_get (i := 0) rfl rfl hWt)
  obtain ⟨xa2, xb2, rfl, hxa2, hxb2⟩ := open_twoI (hval 2 25 v2 rfl rfl) h2
  refine (stores_law vh0 G0 x1 xa2 xb2 hxb2 W hG0 hsz0.size).mono fun e W' ⟨he, hnx⟩ => ?_
  subst he
  exact ⟨_, rfl, _, _, _, [], p0 ++ ([] ++ p2), [], hW', trodAll_cons_mk (shut_bool Try.underlying4 _) trodAll_mk0, trodAll_mk3 (Below.trod laidOut (by kernel_rfl) (of_decide_eq_true (by kernel_rfl)) h0 hnx hlt0) (shut_int Try.underlying3 wx1) (Below.trod laidOut (by kernel_rfl) (of_decide_eq_true (by kernel_rfl)) h2 hnx hlt2), rfl, hnx.frame _, fun h => by cases h⟩

theorem holds : Rows.HeapStoresSaid :=
  OpenClaim.holds_of_wide 4 Try.f4 rfl rfl rfl rfl rfl rfl rfl ⟨rfl, rfl, rfl, rfl, rfl⟩ rfl rfl rfl rfl rfl (by kernel_rfl) Try.func4 (by kernel_rfl)
    (of_decide_eq_true (by kernel_rfl)) (by unfold Func.isWrapper; first | (rw [if_pos (by decide +kernel)]; kernel_rfl) | (rw [if_neg (by decide +kernel)]; exact ⟨rfl, rfl⟩))
    (fun os started H enc _ => lifted os started H enc)
end stores9
end Go.Proofs.Ytjlndibeaklcdaa
