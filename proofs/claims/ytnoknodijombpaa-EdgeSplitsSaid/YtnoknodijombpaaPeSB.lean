/- The contracts of shape's Sets, Uses, Next, onlyParts. Condition: the table of parts reads as listed. -/
import Derived.Test.YtnoknodijombpaaPeSA
import Derived.Test.YtnoknodijombpaaPeMV
import Derived.Test.YtnoknodijombpaaPeMC
import Derived.Deep.RegionHeld3
set_option linter.unusedSimpArgs false
set_option linter.unusedVariables false
namespace Go.Proofs.Ytnoknodijombpaa
open Go.RowKit

def hasB4 (op : Int) (c : Nat) : Bool := decide (c ∈ partsN op)
def nextL (x : InsV) : List Int := if x.op = 21 ∨ (x.op = 22 ∧ x.n = x.m) then [x.n] else if x.op = 22 then [min x.n x.m, max x.n x.m] else []
def usesL (x : InsV) : List Int := (if hasB4 x.op 65 = true then [x.a] else []) ++ (if hasB4 x.op 66 = true then [x.b] else []) ++ (if hasB4 x.op 76 = true then x.args else [])
end Go.Proofs.Ytnoknodijombpaa
namespace Go.Proofs.Ytnoknodijombpaa
open Go.RowKit

def checksL (x : InsV) : List (Bool × Bool × ByteArray) := [(x.d != 0, hasB4 x.op 68, ⟨#[68]⟩), (x.a != 0, hasB4 x.op 65, ⟨#[65]⟩), (x.b != 0, hasB4 x.op 66, ⟨#[66]⟩), (x.n != 0, hasP x.op [78, 110], ⟨#[78, 110]⟩), (x.m != 0, hasB4 x.op 77, ⟨#[77]⟩), (decide (0 < x.args.length), hasB4 x.op 76, ⟨#[76]⟩)]
def onlyB4 (x : InsV) : Bool := (checksL x).all (fun t => !t.1 || t.2.1)
end Go.Proofs.Ytnoknodijombpaa
namespace Go.Proofs.Ytnoknodijombpaa
open Go.RowKit

theorem Ow.intsV {w : World} {base : Nat} {v : Value} {zs : List Int} (h : Ow w base 3 .i64 v zs) (hr : ∀ z ∈ zs, i64R z) : IntsV w (· < w.heap.size) v zs := by
  obtain ⟨A, c, e, h1, h2, h3⟩ := h.sl
  refine ⟨A, c, e, h1, by simp only [maxLen] at h2; omega, fun hp => ?_⟩
  obtain ⟨b, o, e2, hb, hc⟩ := h3 hp
  refine ⟨b, o, e2, hb, fun j x hj => ⟨?_, hr x (List.mem_of_getElem? hj)⟩⟩
  have := hc j (List.getElem?_eq_some_iff.1 hj).1
  rw [Nat.mul_one, this]
  simp [List.getD, hj]
theorem SBoxR.of {w : World} {h : Nat} {o d a b n m : Int} {v : Value} {T : TypeId} (hb : Box w h #[.int .i64 o, .int .i64 d, .int .i64 a, .int .i64 b, .int .i64 n, .int .i64 m, v] T) :
    w.cell? ⟨h, 0, none⟩ = some (.int .i64 o) ∧ w.cell? ⟨h, 1, none⟩ = some (.int .i64 d) ∧ w.cell? ⟨h, 2, none⟩ = some (.int .i64 a) ∧ w.cell? ⟨h, 3, none⟩ = some (.int .i64 b) ∧ w.cell? ⟨h, 4, none⟩ = some (.int .i64 n) ∧ w.cell? ⟨h, 5, none⟩ = some (.int .i64 m) ∧ w.cell? ⟨h, 6, none⟩ = some v :=
  ⟨(hb.cell 0 (v := .int .i64 o) rfl).1, (hb.cell 1 (v := .int .i64 d) rfl).1, (hb.cell 2 (v := .int .i64 a) rfl).1, (hb.cell 3 (v := .int .i64 b) rfl).1, (hb.cell 4 (v := .int .i64 n) rfl).1, (hb.cell 5 (v := .int .i64 m) rfl).1, (hb.cell 6 (v := v) rfl).1⟩
theorem usesL_R {x : InsV} (h : InsR x) (ha : ∀ z ∈ x.args, i64R z) : ∀ z ∈ usesL x, i64R z := by
  obtain ⟨-, -, h1, h2, -, -⟩ := h
  intro z hz
  unfold usesL at hz
  rw [List.mem_append, List.mem_append] at hz
  rcases hz with (hz | hz) | hz
  · split at hz <;> simp at hz; rw [hz]; exact h1
  · split at hz <;> simp at hz; rw [hz]; exact h2
  · split at hz
    · exact ha z hz
    · simp at hz
def varsInB (f : FunV) (x : InsV) : Bool := (!hasB4 x.op 68 || inVar f x.d) && (usesL x).all (inVar f)
end Go.Proofs.Ytnoknodijombpaa
namespace Go.Proofs.Ytnoknodijombpaa
open Go.RowKit

def numsB (p : List FunV) (f : FunV) (x : InsV) : Bool :=
  if x.op = 1 then inB (-2147483648) 2147483648 x.n else if x.op = 16 then inB (-8) 8 x.n else if x.op = 10 then inB 0 8 x.n && inB 0 8 x.m
  else if x.op = 11 ∨ x.op = 12 ∨ x.op = 13 ∨ x.op = 14 ∨ x.op = 15 then inB 0 7 x.n else if x.op = 19 then calleeB p x.n x.args.length else if x.op = 21 then inBlk f x.n else if x.op = 22 then inBlk f x.n && inBlk f x.m else true
theorem SScp.of {w : World} {h : Nat} {v1 v2 v3 : Value} {T : TypeId} (hb : Box w h #[v1, v2, v3] T) : w.cell? ⟨h, 0, none⟩ = some v1 ∧ w.cell? ⟨h, 1, none⟩ = some v2 ∧ w.cell? ⟨h, 2, none⟩ = some v3 :=
  ⟨(hb.cell 0 (v := v1) rfl).1, (hb.cell 1 (v := v2) rfl).1, (hb.cell 2 (v := v3) rfl).1⟩
def mayB4 (p : List FunV) (f : FunV) (x : InsV) : Bool := !(partsN x.op).isEmpty && (onlyB4 x && (varsInB f x && numsB p f x))
end Go.Proofs.Ytnoknodijombpaa
namespace Go.Proofs.Ytnoknodijombpaa
open Go.RowKit

def argsFew (bs : List (List InsV)) : Prop := ∀ b ∈ bs, ∀ x ∈ b, x.args.length ≤ 1099511627000
end Go.Proofs.Ytnoknodijombpaa
namespace Go.Proofs.Ytnoknodijombpaa
open Go.RowKit

def beginB (f : FunV) : Bool := f.params == 0 && f.result == 0
def funOkB (p : List FunV) (f : FunV) : Bool := funB4 f && f.blocks.all (fun b => b.all (mayB4 p f))
def beginOk (p : List FunV) : Bool := match p[0]? with
  | some f => beginB f
  | none => false
def progB4 (p : List FunV) : Bool := inB 1 8 (p.length : Int) && (beginOk p && p.all (funOkB p))
def progFew (p : List FunV) : Prop := ∀ f ∈ p, argsFew f.blocks
def chkN4 (p : List FunV) : Nat := if progB4 p = true then 0 else 5
end Go.Proofs.Ytnoknodijombpaa
