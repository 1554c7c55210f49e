/- The statement FlowAsks, walked: it answers true. Condition: no slice of the program is longer than any machine's memory. -/
import Derived.Test.YtkpikgakphdjjaaFK
set_option linter.unusedSimpArgs false
set_option linter.unusedVariables false
namespace Go.Proofs.Ytkpikgakphdjjaa
open Go.RowKit

theorem ints_same5 (va vb : Value) (xs : List Int) (w : World) (B : Nat) (hx : IntsV w (· < B) va xs) (hy : IntsV w (· < B) vb xs) :
    Calls Try.prog 11 #[va, vb] w fun e w' => e = .returned (.bool true) ∧ Below w.heap.size w w' :=
  (rints_any va vb xs xs w B hx hy).mono fun e w' ⟨h1, q, h2⟩ => ⟨by rw [h1]; simp, by rw [h2]; exact below_drewN (Below.refl _ _) q⟩
theorem nxtI_R {f : FunV} (hok : FlowOk f) (z : Int) : ∀ v ∈ nxtI f z, i64R v := by
  unfold nxtI
  split
  · exact nxt_R hok _
  · intro v hv; cases hv
theorem prevN_R {f : FunV} (hok : FlowOk f) (z : Int) : ∀ v ∈ prevN f z, i64R v := by
  intro v hv
  unfold prevN edgesN edgesTo at hv
  simp only [List.mem_map, List.mem_filter, List.mem_flatMap, List.mem_range] at hv
  obtain ⟨p, ⟨⟨i, hi, u, -, rfl⟩, -⟩, rfl⟩ := hv
  have := hok.1
  unfold i64R
  simp only
  omega
end Go.Proofs.Ytkpikgakphdjjaa
