/- The contract of the reference's Great: a program that it does not call great has few arguments everywhere. Condition: no slice of the program is longer than 2^60. -/
import Derived.Test.YtjlndibeaklcdaaMB
import Derived.Test.YtjlndibeaklcdaaSB
import Derived.Test.YtjlndibeaklcdaaProg
set_option linter.unusedSimpArgs false
set_option linter.unusedVariables false
namespace Go.Proofs.Ytjlndibeaklcdaa
open Go.RowKit

def smallB (b : List InsV) : Prop := ∀ x ∈ b, x.args.length ≤ 3000
def smallF (f : FunV) : Prop := ∀ b ∈ f.blocks, smallB b
/-- No slice of the program is longer than any machine's memory. -/
def progSize (p : List FunV) : Prop := ∀ f ∈ p, f.kinds.length ≤ 1152921504606846976 ∧ f.base.length ≤ 1152921504606846976 ∧ f.blocks.length ≤ 1152921504606846976 ∧ ∀ b ∈ f.blocks, b.length ≤ 1152921504606846976 ∧ ∀ x ∈ b, x.args.length ≤ 1152921504606846976
theorem take_all {α : Type} {P : α → Prop} {l : List α} {k : Nat} {y : α} (h : ∀ x ∈ l.take k, P x) (hy : l[k]? = some y) (hp : P y) : ∀ x ∈ l.take (k + 1), P x := by
  intro x hx
  rw [List.take_add_one, hy] at hx
  rcases List.mem_append.1 hx with hx | hx
  · exact h x hx
  · simp at hx; rw [hx]; exact hp
theorem smallF.few {p : List FunV} (h : ∀ f ∈ p, smallF f) : progFew p := fun f hf b hb x hx => by have := h f hf b hb x hx; omega

end Go.Proofs.Ytjlndibeaklcdaa
