/- Texts of several names, of which only what the statement needs is kept. -/
import Derived.Test.YtkilfejcohnceaaPaKG
import Derived.Test.YtkilfejcohnceaaPaKA
import Derived.Test.YtkilfejcohnceaaPaMB
import Derived.Test.YtkilfejcohnceaaPaSB
import Derived.Test.YtkilfejcohnceaaPaNA
import Derived.Test.YtkilfejcohnceaaProg
import Derived.Deep.LoopGhost
import Derived.Deep.AppendLies
/- Layer 8, the program: contracts of come, Contains, begins, Set, Fresh. Condition: the table of parts reads as listed; the function is one of a program that may be. -/
set_option linter.unusedSimpArgs false
set_option linter.unusedVariables false
namespace Go.Proofs.Ytkilfejcohnceaa
open Go.RowKit Go.Maps

section
variable {w w' : World} {M M' : Nat → Prop} {b : Nat} {f : FunV} {L : Nat → Option KSt}
end
theorem But.of_grown {b : Nat} {w w1 : World} (h : w.grownBy w1 (some b)) : But b w w1 := ⟨h.os, h.tape, h.output, h.size, fun k hk hne => h.block k hk (fun e => hne (by injection e))⟩
end Go.Proofs.Ytkilfejcohnceaa

/- Layer 8, the program: contracts of Set, Fresh, and a law of ranging over a map of states. Condition: the table of parts reads as listed; the function is one of a program that may be. -/
set_option linter.unusedSimpArgs false
set_option linter.unusedVariables false
namespace Go.Proofs.Ytkilfejcohnceaa
open Go.RowKit Go.Maps

/-- What holds at the beginning of a block, whichever number it has. -/
def KAtZ (f : FunV) (z : Int) (s : KSt) : Prop := (∃ b : Nat, z = b ∧ KAt f b s) ∨ (z < 0 ∧ s = ([], []))
theorem KAtZ.one {f : FunV} {z : Int} {s t : KSt} (h : KAtZ f z s) (h' : KAtZ f z t) : s = t := by
  rcases h with ⟨b, rfl, h⟩ | ⟨h1, h2⟩ <;> rcases h' with ⟨c, e, h'⟩ | ⟨h1', h2'⟩
  · obtain rfl : b = c := by omega
    exact h.one h'
  · omega
  · omega
  · rw [h2, h2']
theorem KAtZ.good {f : FunV} {z : Int} {s : KSt} (h : KAtZ f z s) : GoodK f s := by
  rcases h with ⟨b, rfl, h⟩ | ⟨h1, h2⟩
  · exact h.good
  · rw [h2]; exact GoodK.nil f
theorem SetV.nil (w : World) : SetV w (.slice none 0 0) [] := ⟨none, 0, rfl, Nat.le_refl _, by omega, Sl.nil _ _ _ _⟩
end Go.Proofs.Ytkilfejcohnceaa

/- Layer 8: own lists of instructions; the statement's tiny programs in memory. No condition. -/
set_option linter.unusedSimpArgs false
set_option linter.unusedVariables false
namespace Go.Proofs.Ytkilfejcohnceaa
open Go.RowKit

def inC (x : InsV) : List Value := [.int .i64 x.op, .int .i64 x.d, .int .i64 x.a, .int .i64 x.b, .int .i64 x.n, .int .i64 x.m, .slice none 0 0]
end Go.Proofs.Ytkilfejcohnceaa

/- Layer 8, the statements: the fixed fact. Condition: the tables read as listed. -/
set_option linter.unusedSimpArgs false
set_option linter.unusedVariables false
namespace Go.Proofs.Ytkilfejcohnceaa
open Go.RowKit

def CodeAt (w : World) (g o : Nat) (l : List InsV) : Prop := g < w.heap.size ∧ ∀ (j : Nat) (y : InsV) (i : Nat) (u : Value), l[j]? = some y → (inC y)[i]? = some u → w.cell? ⟨g, o + j * 7 + i, none⟩ = some u
theorem CodeAt.below {w w' : World} {g o : Nat} {l : List InsV} (h : CodeAt w g o l) (hb : Below w.heap.size w w') : CodeAt w' g o l :=
  ⟨by have := hb.size; have := h.1; omega, fun j y i u hy hu => (hb.cell (p := ⟨g, o + j * 7 + i, none⟩) h.1).trans (h.2 j y i u hy hu)⟩
end Go.Proofs.Ytkilfejcohnceaa
