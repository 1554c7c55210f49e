/- Plain mathematics: which programs have bytes, and which. No condition. -/
import Derived.Test.YtpggjolbohffjaaDoorCPart
set_option linter.unusedSimpArgs false
set_option linter.unusedVariables false
namespace Go.Proofs.YtpggjolbohffjaaDoor
open Go.RowKit

def fieldOf (c : Nat) (x : InsV) : Int := if c = 68 then x.d else if c = 65 then x.a else if c = 66 then x.b else if c = 77 then x.m else x.n
def setF (c : Nat) (v : Int) (x : InsV) : InsV := if c = 68 then { x with d := v } else if c = 65 then { x with a := v } else if c = 66 then { x with b := v } else if c = 77 then { x with m := v } else { x with n := v }
def bare (op : Int) : InsV := ⟨op, 0, 0, 0, 0, 0, []⟩
/-- What is left to be asked of an instruction: its parts from here on, and what it has without those before. -/
def mayL (x : InsV) : List Nat → InsV → Bool
  | [], r => decide (r = bare x.op)
  | c :: cs, r => if c = 110 then mayL x cs { r with n := 0 } else if c = 76 then x.args.all (fun z => decide (0 ≤ z)) && mayL x cs { r with args := [] } else decide (0 ≤ fieldOf c r) && mayL x cs (setF c 0 r)
def insMayB (x : InsV) : Bool := !(partsN x.op).isEmpty && mayL x (partsN x.op) x
def varMayB (kb : Int × Int) : Bool := kindB kb.1 && baseB kb.1 kb.2
def funMayB (f : FunV) : Bool := (decide (f.base.length = f.kinds.length) && (decide (0 ≤ f.params) && decide (0 ≤ f.result))) && ((f.kinds.zip f.base).all varMayB && f.blocks.all (fun b => b.all insMayB))

theorem mayL_n {x : InsV} {cs : List Nat} {r : InsV} : mayL x (110 :: cs) r = mayL x cs { r with n := 0 } := rfl
theorem mayL_l {x : InsV} {cs : List Nat} {r : InsV} : mayL x (76 :: cs) r = (x.args.all (fun z => decide (0 ≤ z)) && mayL x cs { r with args := [] }) := rfl
theorem drop_cons {α : Type} {l : List α} {k : Nat} {c : α} (h : l[k]? = some c) : l.drop k = c :: l.drop (k + 1) := by
  obtain ⟨hk, rfl⟩ := List.getElem?_eq_some_iff.1 h
  exact List.drop_eq_getElem_cons hk
theorem drop_end {α : Type} {l : List α} {k : Nat} (h : l.length ≤ k) : l.drop k = [] := List.drop_of_length_le h
end Go.Proofs.YtpggjolbohffjaaDoor
