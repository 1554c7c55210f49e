/- Layer 16: spans and locations in memory; span.Meet, ends, cmp. No condition. -/
import Derived.Test.YteoopilmdlhkhaaDoorPaWA
set_option linter.unusedSimpArgs false
set_option linter.unusedVariables false
namespace Go.Proofs.YteoopilmdlhkhaaDoor
open Go.RowKit

def SpC (w : World) (b o : Nat) (x : SpV) : Prop := (w.cell? ⟨b, o, none⟩ = some (.int .i64 x.v) ∧ w.cell? ⟨b, o + 1, none⟩ = some (.int .i64 x.f) ∧ w.cell? ⟨b, o + 2, none⟩ = some (.int .i64 x.t) ∧ w.cell? ⟨b, o + 3, none⟩ = some (.bool x.c)) ∧ i64R x.v ∧ i64R x.f ∧ i64R x.t
def LcC (w : World) (b o : Nat) (x : LcV) : Prop := (w.cell? ⟨b, o, none⟩ = some (.int .i64 x.k) ∧ w.cell? ⟨b, o + 1, none⟩ = some (.int .i64 x.n)) ∧ i64R x.k ∧ i64R x.n
def SpsV (w : World) (S : Nat → Prop) (v : Value) (ss : List SpV) : Prop := Vec 4 (SpC w) S v ss
def LcsV (w : World) (S : Nat → Prop) (v : Value) (ls : List LcV) : Prop := Vec 2 (LcC w) S v ls
def spA (x : SpV) : Value := .agg #[.int .i64 x.v, .int .i64 x.f, .int .i64 x.t, .bool x.c]
section
variable {w w' : World} {S S' : Nat → Prop} {v : Value}
theorem SpsV.keep {ss : List SpV} (h : SpsV w S v ss) (hk : Same' S w w') (hS : ∀ b, S b → S' b) : SpsV w' S' v ss :=
  Vec.mono h hS fun b o _ hb _ ⟨⟨h0, h1, h2, h3⟩, hr⟩ => ⟨⟨(hk b _ hb).trans h0, (hk b _ hb).trans h1, (hk b _ hb).trans h2, (hk b _ hb).trans h3⟩, hr⟩
theorem LcsV.keep {ls : List LcV} (h : LcsV w S v ls) (hk : Same' S w w') (hS : ∀ b, S b → S' b) : LcsV w' S' v ls :=
  Vec.mono h hS fun b o _ hb _ ⟨⟨h0, h1⟩, hr⟩ => ⟨⟨(hk b _ hb).trans h0, (hk b _ hb).trans h1⟩, hr⟩
theorem SpsV.open' {ss : List SpV} (h : SpsV w S v ss) : ∃ A c, v = .slice A ss.length c ∧ ss.length ≤ c ∧ c ≤ 9223372036854775807 := by
  obtain ⟨A, c, e, h1, h2, -⟩ := h
  exact ⟨A, c, e, h1, h2⟩
theorem LcsV.open' {ls : List LcV} (h : LcsV w S v ls) : ∃ A c, v = .slice A ls.length c ∧ ls.length ≤ c ∧ c ≤ 9223372036854775807 := by
  obtain ⟨A, c, e, h1, h2, -⟩ := h
  exact ⟨A, c, e, h1, h2⟩
theorem SpsV.get {A : Option Addr} {n c k : Nat} {ss : List SpV} {y : SpV} (h : SpsV w S (.slice A n c) ss) (hy : ss[k]? = some y) : ∃ b o, A = some ⟨b, o, none⟩ ∧ S b ∧ SpC w b (o + k * 4) y := by
  obtain ⟨A', c', e, -, -, h3⟩ := h
  injection e with eA _ _
  subst eA
  obtain ⟨b, o, rfl, hb, hc⟩ := h3 (by have := (List.getElem?_eq_some_iff.1 hy).1; omega)
  exact ⟨b, o, rfl, hb, hc k y hy⟩
theorem LcsV.get {A : Option Addr} {n c k : Nat} {ls : List LcV} {y : LcV} (h : LcsV w S (.slice A n c) ls) (hy : ls[k]? = some y) : ∃ b o, A = some ⟨b, o, none⟩ ∧ S b ∧ LcC w b (o + k * 2) y := by
  obtain ⟨A', c', e, -, -, h3⟩ := h
  injection e with eA _ _
  subst eA
  obtain ⟨b, o, rfl, hb, hc⟩ := h3 (by have := (List.getElem?_eq_some_iff.1 hy).1; omega)
  exact ⟨b, o, rfl, hb, hc k y hy⟩
end

set_option maxRecDepth 100000 in
theorem qmeet_any (a b : SpV) (w : World) : Calls Tryd.prog 5 #[spA a, spA b] w fun e w' => e = .returned (.bool (meetB a b)) ∧ Below w.heap.size w w' := by
  obtain ⟨av, af, at', ac⟩ := a
  obtain ⟨bv, bf, bt, bc⟩ := b
  unfold spA meetB
  go_enter Tryd.func5, Tryd.ntmps5
  go_wp2
  all_goals
    go_ret
    refine ⟨ret_bool ?_, alloc2 w _ _⟩
    refine Bool.eq_iff_iff.2 ?_
    first | (simp; done) | (simp; omega)
set_option maxRecDepth 100000 in
theorem rmeet_any16 (a b : SpV) (w : World) : Calls Tryd.prog 6 #[spA a, spA b] w fun e w' => e = .returned (.bool (meetB a b)) ∧ Below w.heap.size w w' := by
  obtain ⟨av, af, at', ac⟩ := a
  obtain ⟨bv, bf, bt, bc⟩ := b
  unfold spA meetB
  go_enter Tryd.func6, Tryd.ntmps6
  go_wp2
  all_goals
    go_ret
    refine ⟨ret_bool ?_, alloc2 w _ _⟩
    refine Bool.eq_iff_iff.2 ?_
    first | (simp; done) | (simp; omega)
def cmpI (a b : Int) : Int := if a < b then -1 else if b < a then 1 else 0
set_option maxRecDepth 100000 in
theorem qnan_any (a : Int) (w : World) : Calls Tryd.prog 18 #[.int .i64 a] w fun e w' => e = .returned (.bool false) ∧ w = w' := by
  go_enter Tryd.func18, Tryd.ntmps18
  go_wp2
  go_ret
  exact ⟨by simp, rfl⟩
set_option maxRecDepth 100000 in
theorem qcmp_any (a b : Int) (w : World) : Calls Tryd.prog 12 #[.int .i64 a, .int .i64 b] w fun e w' => e = .returned (.int .i64 (cmpI a b)) ∧ w = w' := by
  unfold cmpI
  go_enter Tryd.func12, Tryd.ntmps12
  go_wp2_with (go_at_call 18; refine (qnan_any _ _).mono ?_; rintro e w1 ⟨rfl, rfl⟩)
  all_goals
    go_ret
    exact ⟨by first | rfl | simp [*], rfl⟩
end Go.Proofs.YteoopilmdlhkhaaDoor
