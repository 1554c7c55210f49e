/- Texts of several names, of which only what the statement needs is kept. -/
import Derived.Test.YtkilfejcohnceaaPaMB
/- Layer 16, the mathematics: spans and locations as plain data; the scan, span by span; what holds along it. No condition. -/
set_option linter.unusedSimpArgs false
set_option linter.unusedVariables false
namespace Go.Proofs.Ytkilfejcohnceaa
open Go.RowKit

structure LcV where
  k : Int
  n : Int
instance : DecidableEq LcV := fun x y => decidable_of_iff (x.k = y.k ∧ x.n = y.n) (by cases x; cases y; simp only [LcV.mk.injEq])

def lcAt (ls : List LcV) (i : Nat) : LcV := ls.getD i ⟨0, 0⟩
theorem lcAt_of {ls : List LcV} {i : Nat} {s : LcV} (h : ls[i]? = some s) : lcAt ls i = s := by unfold lcAt; rw [List.getD, h]; rfl
theorem lcAt_some {ls : List LcV} {i : Nat} (h : i < ls.length) : ls[i]? = some (lcAt ls i) := by
  rw [List.getElem?_eq_getElem h, lcAt_of (List.getElem?_eq_getElem h)]
theorem lcAt_out {ls : List LcV} {j : Nat} (h : ls.length ≤ j) : lcAt ls j = ⟨0, 0⟩ := by unfold lcAt; rw [List.getD, List.getElem?_eq_none h]; rfl
end Go.Proofs.Ytkilfejcohnceaa

/- Layer 16, the mathematics: slots are numbered without gaps; where there is room each has a register; moved spans; how many slots are needed. No condition. -/
set_option linter.unusedSimpArgs false
set_option linter.unusedVariables false
namespace Go.Proofs.Ytkilfejcohnceaa
open Go.RowKit

theorem set_self {ls : List LcV} {m : Nat} (h : m < ls.length) : ls.set m (lcAt ls m) = ls := by
  refine List.ext_getElem? fun j => ?_
  rw [List.getElem?_set]
  by_cases e : m = j
  · subst e; rw [if_pos rfl, if_pos h, lcAt_some h]
  · rw [if_neg e]
end Go.Proofs.Ytkilfejcohnceaa

/- Layer 16: spans and locations in memory; span.Meet, ends, cmp. No condition. -/
set_option linter.unusedSimpArgs false
set_option linter.unusedVariables false
namespace Go.Proofs.Ytkilfejcohnceaa
open Go.RowKit

def LcC (w : World) (b o : Nat) (x : LcV) : Prop := (w.cell? ⟨b, o, none⟩ = some (.int .i64 x.k) ∧ w.cell? ⟨b, o + 1, none⟩ = some (.int .i64 x.n)) ∧ i64R x.k ∧ i64R x.n
def LcsV (w : World) (S : Nat → Prop) (v : Value) (ls : List LcV) : Prop := Vec 2 (LcC w) S v ls
def lcA (x : LcV) : Value := .agg #[.int .i64 x.k, .int .i64 x.n]
section
variable {w w' : World} {S S' : Nat → Prop} {v : Value}
theorem LcsV.keep {ls : List LcV} (h : LcsV w S v ls) (hk : Same' S w w') (hS : ∀ b, S b → S' b) : LcsV w' S' v ls :=
  Vec.mono h hS fun b o _ hb _ ⟨⟨h0, h1⟩, hr⟩ => ⟨⟨(hk b _ hb).trans h0, (hk b _ hb).trans h1⟩, hr⟩
theorem LcsV.open' {ls : List LcV} (h : LcsV w S v ls) : ∃ A c, v = .slice A ls.length c ∧ ls.length ≤ c ∧ c ≤ 9223372036854775807 := by
  obtain ⟨A, c, e, h1, h2, -⟩ := h
  exact ⟨A, c, e, h1, h2⟩
theorem LcsV.get {A : Option Addr} {n c k : Nat} {ls : List LcV} {y : LcV} (h : LcsV w S (.slice A n c) ls) (hy : ls[k]? = some y) : ∃ b o, A = some ⟨b, o, none⟩ ∧ S b ∧ LcC w b (o + k * 2) y := by
  obtain ⟨A', c', e, -, -, h3⟩ := h
  injection e with eA _ _
  subst eA
  obtain ⟨b, o, rfl, hb, hc⟩ := h3 (by have := (List.getElem?_eq_some_iff.1 hy).1; omega)
  exact ⟨b, o, rfl, hb, hc k y hy⟩
end

end Go.Proofs.Ytkilfejcohnceaa
