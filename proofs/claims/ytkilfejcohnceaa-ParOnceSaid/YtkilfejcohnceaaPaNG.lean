/- The contract of the reference's Func of layer 4. No condition. -/
import Derived.Test.YtkilfejcohnceaaPaSB
import Derived.Test.YtkilfejcohnceaaPaNA
import Derived.BigQuiet
set_option linter.unusedSimpArgs false
set_option linter.unusedVariables false
namespace Go.Proofs.Ytkilfejcohnceaa
open Go.RowKit

def varOk (f : FunV) (k b : Int) (i : Nat) : Bool := baseB4 f.kinds k b && (!decide ((i : Int) < f.params) || valB k)
def varsTo (f : FunV) (n : Nat) : Prop := ∀ (i : Nat) k b, i < n → f.kinds[i]? = some k → f.base[i]? = some b → varOk f k b i = true
theorem varsTo.next {f : FunV} {n : Nat} (h : varsTo f n) {k b : Int} (hk : f.kinds[n]? = some k) (hb : f.base[n]? = some b) (ho : varOk f k b n = true) : varsTo f (n + 1) := by
  intro i k' b' hi h1 h2
  by_cases he : i = n
  · subst he
    rw [hk] at h1; rw [hb] at h2
    cases h1; cases h2; exact ho
  · exact h i k' b' (by omega) h1 h2
def blksTo (f : FunV) (n : Nat) : Prop := ∀ (i : Nat) b, i < n → f.blocks[i]? = some b → blockB4 b = true
theorem blksTo.next {f : FunV} {n : Nat} (h : blksTo f n) {b : List InsV} (hb : f.blocks[n]? = some b) (ho : blockB4 b = true) : blksTo f (n + 1) := by
  intro i b' hi h1
  by_cases he : i = n
  · subst he
    rw [hb] at h1; cases h1; exact ho
  · exact h i b' (by omega) h1
def endsTo (l : List InsV) (n : Nat) : Prop := ∀ (i : Nat) x, i < n → l[i]? = some x → lastB x.op = decide (i = l.length - 1)
theorem endsTo.next {l : List InsV} {n : Nat} (h : endsTo l n) {x : InsV} (hx : l[n]? = some x) (ho : lastB x.op = decide (n = l.length - 1)) : endsTo l (n + 1) := by
  intro i x' hi h1
  by_cases he : i = n
  · subst he
    rw [hx] at h1; cases h1; exact ho
  · exact h i x' (by omega) h1
end Go.Proofs.Ytkilfejcohnceaa
namespace Go.Proofs.Ytkilfejcohnceaa
open Go.RowKit

end Go.Proofs.Ytkilfejcohnceaa
namespace Go.Proofs.Ytkilfejcohnceaa
open Go.RowKit

end Go.Proofs.Ytkilfejcohnceaa
