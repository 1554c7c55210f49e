/- Texts of several names, of which only what the statement needs is kept. -/
import Derived.Test.YthbnbaikdcfbmaaGreatDoorPmKSX
import Derived.RangeFuncNested
import Derived.RangeFuncBound
import Derived.WalkSmall
set_option linter.unusedSimpArgs false
set_option linter.unusedVariables false
namespace Go.Proofs.YthbnbaikdcfbmaaGreatDoor
open Go.RowKit Go.Shelf
attribute [local go_sem] Oper.semAt_some
attribute [local go_sem] Oper.semAt_some
def jaj (f : FunV) (b : Nat) : List InsV := (f.blocks[b]?).getD []
section
variable {w w' w4 w5 : World} {base : Nat} {v v5 u : Value} {us : List Value} {τ : List (List Nat)} {s : List Nat}
end
section
variable {w w' w4 w5 : World} {g base n b : Nat} {vs : Nat -> Value} {zs : Nat -> List Int}
end
section
variable {f : FunV} {σ : Nat -> List Nat} {due : List Nat} {b k p : Nat}
end
section
variable {w w' : World} {g n : Nat} {us : Nat -> Value} {σ : Nat -> List Nat} {M M' : Nat -> Prop}
end
section
variable {w4 wi w7 w8 w10 : World} {gl ls m2 cd g10 cap10 p : Nat} {Ad : Option Addr} {us : Nat -> Value} {σ : Nat -> List Nat} {u8 : Value} {t dl2 : List Nat} {ob : Obj}
end
end Go.Proofs.YthbnbaikdcfbmaaGreatDoor
