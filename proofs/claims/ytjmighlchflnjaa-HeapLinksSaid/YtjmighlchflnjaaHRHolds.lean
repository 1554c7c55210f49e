/- HeapLinks: for every heap and three numbers the statement answers true, and its arguments read as they did. No condition. -/
import Derived.Test.YtjmighlchflnjaaHR
import Derived.Test.YtjmighlchflnjaaHX
import Derived.Test.YtjmighlchflnjaaCOpenS
set_option linter.unusedSimpArgs false
set_option linter.unusedVariables false
namespace Go.Proofs.Ytjmighlchflnjaa
open Go.ChangeShapes Go.WideShapes Go.ChangeAt Go.RowKit

namespace links9
set_option maxRecDepth 100000 in
theorem lifted (os : Os) (started : os.Started) (H : Type) (enc : TypeId × Value → H) :
    ReturnsInHanded {} Try.checked os 6 .any (Rows.heapLinksSpec.pre6 enc Try.prog Try.f6 Rows.heapLinksRow.domain false) (Rows.heapLinksSpec.post enc Try.prog Try.f6 false true false false) := by
  rw [show Rows.heapLinksSpec.pre6 enc Try.prog Try.f6 Rows.heapLinksRow.domain false = (fun w args => (Rows.heapLinksSpec.pre enc Try.prog Try.f6 Rows.heapLinksRow.domain false w args ∧ True) ∧ sizedMet enc Try.prog Try.f6 (OpenSpec.ofChange Rows.heapLinksSpec) false w args) from by funext w args; simp only [ChangeSpec.pre6, and_true]]
  refine returnsInHanded_of_change_and (C := Try.checked) (X := fun _ _ => True) (fun _ _ _ _ h => h) own started (by kernel_rfl) Try.func6 ?_ ?_
  · obtain ⟨w, t, i, q1, q2, q3, q4, q5, q6⟩ := ChangeSpec.witness6 (enc := enc) (C := Try.checked) (os := os) (s := Rows.heapLinksSpec) (conds := Rows.heapLinksRow.domain) (f := 6) (fn := Try.f6) false ⟨#[], #[.agg #[.slice none 0 0], .agg #[.int .i64 0, .int .i64 0, .int .i64 0]], []⟩ 8 (by kernel_rfl) (by kernel_rfl) (by kernel_rfl) (by kernel_rfl)
    exact ⟨w, t, i, q1, q2, q3, q4, ⟨⟨q5.1, trivial⟩, q5.2⟩, q6⟩
  intro W base args ds gs before hval0 hW _ hWt _ _
  have hval : ∀ (j : Nat) t v, Try.f6.params[j]? = some t → args[j]? = some v → Value.okWide Try.prog W .any base t v := hval0
  have hW' := hW
  obtain ⟨p, q, hA0, hV, rfl, _, _⟩ := hW
  have hA : DataW.TrodAll enc Try.prog W 0 (fun _ => true) true Try.f6.params.toList args.toList ds p := hA0
  rw [Try.params6] at hA hval
  obtain ⟨v0, v1, d0, d1, p0, p1, rfl, rfl, rfl, h0, h1⟩ := trodAll_two hA
  obtain ⟨rfl, rfl⟩ := trodVars_none hV
  clear hA0 hval0
  simp only [List.append_nil] at hW'
  have hlt0 : ∀ x ∈ p0, x.block < W.heap.size := fun x hx => hW'.lt x (by simp [hx])
  have hlt1 : ∀ x ∈ p1, x.block < W.heap.size := fun x hx => hW'.lt x (by simp [hx])
  obtain ⟨vh0, G0, rfl, hG0, hsz0⟩ := open_heapW (hval 0 24 v0 rfl rfl) h0 hlt0 (weightsEach_get (i := 0) rfl rfl hWt)
  obtain ⟨xa1, xb1, xc1, rfl, hxa1, hxb1, hxc1⟩ := open_threeI (hval 1 42 v1 rfl rfl) h1
  refine (links_law vh0 G0 xa1 xb1 xc1 hxa1 hxc1 W hG0 hsz0.size).mono fun e W' ⟨he, hnx⟩ => ?_
  subst he
  exact ⟨_, rfl, _, _, _, [], p0 ++ p1, [], hW', trodAll_cons_mk (shut_bool Try.underlying4 _) trodAll_mk0, trodAll_mk2 (Below.trod laidOut (by kernel_rfl) (of_decide_eq_true (by kernel_rfl)) h0 hnx hlt0) (Below.trod laidOut (by kernel_rfl) (of_decide_eq_true (by kernel_rfl)) h1 hnx hlt1), rfl, hnx.frame _, fun h => by cases h⟩

theorem holds : Rows.HeapLinksSaid :=
  OpenClaim.holds_of_wide 6 Try.f6 rfl rfl rfl rfl rfl rfl rfl ⟨rfl, rfl, rfl, rfl, rfl⟩ rfl rfl rfl rfl rfl (by kernel_rfl) Try.func6 (by kernel_rfl)
    (of_decide_eq_true (by kernel_rfl)) (by unfold Func.isWrapper; first | (rw [if_pos (by decide +kernel)]; kernel_rfl) | (rw [if_neg (by decide +kernel)]; exact ⟨rfl, rfl⟩))
    (fun os started H enc _ => lifted os started H enc)
end links9
end Go.Proofs.Ytjmighlchflnjaa
