/- PointLays: for every program the statement answers true, and its argument reads as it did. No condition. -/
import Derived.Test.YtnoknodijombpaaPgPZ
import Derived.Test.YtnoknodijombpaaPgCOpenW
set_option linter.unusedSimpArgs false
set_option linter.unusedVariables false
namespace Go.Proofs.Ytnoknodijombpaa
open Go.ChangeShapes Go.WideShapes Go.ChangeAt Go.RowKit

namespace laysp14
set_option maxRecDepth 100000 in
theorem lifted (os : Os) (started : os.Started) (H : Type) (enc : TypeId × Value → H) :
    ReturnsInHanded {} Try.checked os 4 .any (Rows.pointLaysSpec.pre6 enc Try.prog Try.f4 Rows.pointLaysRow.domain false) (Rows.pointLaysSpec.post enc Try.prog Try.f4 false true false false) := by
  rw [show Rows.pointLaysSpec.pre6 enc Try.prog Try.f4 Rows.pointLaysRow.domain false = (fun w args => (Rows.pointLaysSpec.pre enc Try.prog Try.f4 Rows.pointLaysRow.domain false w args ∧ True) ∧ sizedMet enc Try.prog Try.f4 (OpenSpec.ofChange Rows.pointLaysSpec) false w args) from by funext w args; simp only [ChangeSpec.pre6, and_true]]
  refine returnsInHanded_of_change_and (C := Try.checked) (X := fun _ _ => True) (fun _ _ _ _ h => h) own started (by kernel_rfl) Try.func4 ?_ ?_
  · obtain ⟨w, t, i, q1, q2, q3, q4, q5, q6⟩ := ChangeSpec.witness6 (enc := enc) (C := Try.checked) (os := os) (s := Rows.pointLaysSpec) (conds := Rows.pointLaysRow.domain) (f := 4) (fn := Try.f4) false ⟨#[], #[.agg #[.slice none 0 0]], []⟩ 8 (by kernel_rfl) (by kernel_rfl) (by kernel_rfl) (by kernel_rfl)
    exact ⟨w, t, i, q1, q2, q3, q4, ⟨⟨q5.1, trivial⟩, q5.2⟩, q6⟩
  intro W base args ds gs before hval0 hW _ hWt _ _
  have hval : ∀ (j : Nat) t v, Try.f4.params[j]? = some t → args[j]? = some v → Value.okWide Try.prog W .any base t v := hval0
  have hW' := hW
  obtain ⟨p, q, hA0, hV, rfl, _, _⟩ := hW
  have hA : DataW.TrodAll enc Try.prog W 0 (fun _ => true) true Try.f4.params.toList args.toList ds p := hA0
  rw [Try.params4] at hA hval
  obtain ⟨v0, d0, rfl, rfl, h0⟩ := trodAll_one hA
  obtain ⟨rfl, rfl⟩ := trodVars_none hV
  clear hA0 hval0
  simp only [List.append_nil] at hW'
  have hlt0 : ∀ x ∈ p, x.block < W.heap.size := fun x hx => hW'.lt x (by simp [hx])
  obtain ⟨vp0, P0, rfl, hP0, hsz0⟩ := open_progW (hval 0 24 v0 rfl rfl) h0 hlt0 (weightsEach_get (i := 0) rfl rfl hWt)
  refine (lays_law vp0 P0 W hP0 hsz0.size).mono fun e W' ⟨he, hnx⟩ => ?_
  subst he
  exact ⟨_, rfl, _, _, _, [], p, [], hW', trodAll_cons_mk (shut_bool Try.underlying4 _) trodAll_mk0, trodAll_mk1 (Below.trod laidOut (by kernel_rfl) (of_decide_eq_true (by kernel_rfl)) h0 hnx hlt0), rfl, hnx.frame _, fun h => by cases h⟩

theorem holds : Rows.PointLaysSaid :=
  OpenClaim.holds_of_wide 4 Try.f4 rfl rfl rfl rfl rfl rfl rfl ⟨rfl, rfl, rfl, rfl, rfl⟩ rfl rfl rfl rfl rfl (by kernel_rfl) Try.func4 (by kernel_rfl)
    (of_decide_eq_true (by kernel_rfl)) (by unfold Func.isWrapper; first | (rw [if_pos (by decide +kernel)]; kernel_rfl) | (rw [if_neg (by decide +kernel)]; exact ⟨rfl, rfl⟩))
    (fun os started H enc _ => lifted os started H enc)
end laysp14
end Go.Proofs.Ytnoknodijombpaa
