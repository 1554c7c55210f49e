/- Programs as plain data, and what they read as in memory: instructions, blocks, functions, whole programs. No condition. -/
import Derived.Test.YtkimocfofihjbaaDoorMA
import Derived.Test.YtkimocfofihjbaaDoorProg
import Derived.BigQuiet
import Derived.Deep.QuietTactic
import Derived.Deep.RegionWith
import Derived.Laws.EntriesVeiled
import Derived.Deep.RegionHeld3
import Derived.Lib.OthersKept
set_option linter.unusedSimpArgs false
set_option linter.unusedVariables false
namespace Go.Proofs.YtkimocfofihjbaaDoor
open Go.RowKit

structure InsV where
  op : Int
  d : Int
  a : Int
  b : Int
  n : Int
  m : Int
  args : List Int
instance : DecidableEq InsV := fun x y =>
  decidable_of_iff (x.op = y.op ∧ x.d = y.d ∧ x.a = y.a ∧ x.b = y.b ∧ x.n = y.n ∧ x.m = y.m ∧ x.args = y.args) (by
    cases x; cases y
    simp only [InsV.mk.injEq])
structure FunV where
  kinds : List Int
  base : List Int
  params : Int
  result : Int
  blocks : List (List InsV)
instance : DecidableEq FunV := fun x y =>
  decidable_of_iff (x.kinds = y.kinds ∧ x.base = y.base ∧ x.params = y.params ∧ x.result = y.result ∧ x.blocks = y.blocks) (by
    cases x; cases y
    simp only [FunV.mk.injEq])

def i64R (z : Int) : Prop := -9223372036854775808 ≤ z ∧ z ≤ 9223372036854775807

/-- The slice value v has the things xs, each of s cells, in a block of S. -/
def Vec {α : Type} (s : Nat) (P : Nat → Nat → α → Prop) (S : Nat → Prop) (v : Value) (xs : List α) : Prop :=
  ∃ A c, v = .slice A xs.length c ∧ xs.length ≤ c ∧ c ≤ 9223372036854775807 ∧ (0 < xs.length → ∃ b o, A = some ⟨b, o, none⟩ ∧ S b ∧ ∀ (j : Nat) (x : α), xs[j]? = some x → P b (o + j * s) x)
theorem Vec.mono {α : Type} {s : Nat} {P P' : Nat → Nat → α → Prop} {S S' : Nat → Prop} {v : Value} {xs : List α} (h : Vec s P S v xs) (hS : ∀ b, S b → S' b) (hP : ∀ b o x, S b → x ∈ xs → P b o x → P' b o x) : Vec s P' S' v xs := by
  obtain ⟨A, c, e, h1, h2, h3⟩ := h
  refine ⟨A, c, e, h1, h2, fun hp => ?_⟩
  obtain ⟨b, o, e2, hb, hc⟩ := h3 hp
  exact ⟨b, o, e2, hS b hb, fun j x hj => hP _ _ _ hb (List.mem_of_getElem? hj) (hc j x hj)⟩
theorem Vec.nil {α : Type} (s : Nat) (P : Nat → Nat → α → Prop) (S : Nat → Prop) : Vec s P S (.slice none 0 0) ([] : List α) := ⟨none, 0, rfl, Nat.le_refl _, by omega, fun h => absurd h (by simp)⟩

/-- Blocks of S are as they were. -/
def Same' (S : Nat → Prop) (w w' : World) : Prop := ∀ b o, S b → w'.cell? ⟨b, o, none⟩ = w.cell? ⟨b, o, none⟩
theorem Same'.of_below {B : Nat} {w w' : World} (h : Below B w w') : Same' (· < B) w w' := fun b o hb => h.cell (p := ⟨b, o, none⟩) hb

def IntC (w : World) (b o : Nat) (z : Int) : Prop := w.cell? ⟨b, o, none⟩ = some (.int .i64 z) ∧ i64R z
def IntsV (w : World) (S : Nat → Prop) (v : Value) (zs : List Int) : Prop := Vec 1 (IntC w) S v zs
def InsR (x : InsV) : Prop := i64R x.op ∧ i64R x.d ∧ i64R x.a ∧ i64R x.b ∧ i64R x.n ∧ i64R x.m
def InsI (w : World) (S : Nat → Prop) (va : Value) (x : InsV) : Prop := IntsV w S va x.args ∧ InsR x
def insCells (x : InsV) (va : Value) : Array Value := #[.int .i64 x.op, .int .i64 x.d, .int .i64 x.a, .int .i64 x.b, .int .i64 x.n, .int .i64 x.m, va]
def InsC (w : World) (S : Nat → Prop) (b o : Nat) (x : InsV) : Prop :=
  ∃ va, (w.cell? ⟨b, o, none⟩ = some (.int .i64 x.op) ∧ w.cell? ⟨b, o + 1, none⟩ = some (.int .i64 x.d) ∧ w.cell? ⟨b, o + 2, none⟩ = some (.int .i64 x.a) ∧ w.cell? ⟨b, o + 3, none⟩ = some (.int .i64 x.b) ∧
    w.cell? ⟨b, o + 4, none⟩ = some (.int .i64 x.n) ∧ w.cell? ⟨b, o + 5, none⟩ = some (.int .i64 x.m) ∧ w.cell? ⟨b, o + 6, none⟩ = some va) ∧ InsI w S va x
def InssV (w : World) (S : Nat → Prop) (v : Value) (xs : List InsV) : Prop := Vec 7 (InsC w S) S v xs
def BlkC (w : World) (S : Nat → Prop) (b o : Nat) (x : List InsV) : Prop := ∃ v, w.cell? ⟨b, o, none⟩ = some v ∧ InssV w S v x
def BlksV (w : World) (S : Nat → Prop) (v : Value) (xs : List (List InsV)) : Prop := Vec 1 (BlkC w S) S v xs
def FunI (w : World) (S : Nat → Prop) (vk vb vs : Value) (f : FunV) : Prop := IntsV w S vk f.kinds ∧ IntsV w S vb f.base ∧ BlksV w S vs f.blocks ∧ i64R f.params ∧ i64R f.result
def FunC (w : World) (S : Nat → Prop) (b o : Nat) (f : FunV) : Prop :=
  ∃ vk vb vs, (w.cell? ⟨b, o, none⟩ = some vk ∧ w.cell? ⟨b, o + 1, none⟩ = some vb ∧ w.cell? ⟨b, o + 2, none⟩ = some (.int .i64 f.params) ∧ w.cell? ⟨b, o + 3, none⟩ = some (.int .i64 f.result) ∧ w.cell? ⟨b, o + 4, none⟩ = some vs) ∧ FunI w S vk vb vs f
def FunsV (w : World) (S : Nat → Prop) (v : Value) (p : List FunV) : Prop := Vec 5 (FunC w S) S v p

section
variable {w w' : World} {S S' : Nat → Prop}
theorem IntsV.keep {v : Value} {zs : List Int} (h : IntsV w S v zs) (hk : Same' S w w') (hS : ∀ b, S b → S' b) : IntsV w' S' v zs :=
  Vec.mono h hS fun b o _ hb _ hc => ⟨(hk b o hb).trans hc.1, hc.2⟩
theorem InsI.keep {v : Value} {x : InsV} (h : InsI w S v x) (hk : Same' S w w') (hS : ∀ b, S b → S' b) : InsI w' S' v x := ⟨IntsV.keep h.1 hk hS, h.2⟩
theorem InssV.keep {v : Value} {xs : List InsV} (h : InssV w S v xs) (hk : Same' S w w') (hS : ∀ b, S b → S' b) : InssV w' S' v xs :=
  Vec.mono h hS fun b o x hb _ ⟨va, ⟨h0, h1, h2, h3, h4, h5, h6⟩, hi⟩ => ⟨va, ⟨(hk b _ hb).trans h0, (hk b _ hb).trans h1, (hk b _ hb).trans h2, (hk b _ hb).trans h3, (hk b _ hb).trans h4, (hk b _ hb).trans h5, (hk b _ hb).trans h6⟩, InsI.keep hi hk hS⟩
theorem BlksV.keep {v : Value} {xs : List (List InsV)} (h : BlksV w S v xs) (hk : Same' S w w') (hS : ∀ b, S b → S' b) : BlksV w' S' v xs :=
  Vec.mono h hS fun b o x hb _ ⟨va, h0, hi⟩ => ⟨va, (hk b _ hb).trans h0, InssV.keep hi hk hS⟩
theorem FunI.keep {vk vb vs : Value} {f : FunV} (h : FunI w S vk vb vs f) (hk : Same' S w w') (hS : ∀ b, S b → S' b) : FunI w' S' vk vb vs f :=
  ⟨IntsV.keep h.1 hk hS, IntsV.keep h.2.1 hk hS, BlksV.keep h.2.2.1 hk hS, h.2.2.2⟩
theorem FunsV.keep {v : Value} {p : List FunV} (h : FunsV w S v p) (hk : Same' S w w') (hS : ∀ b, S b → S' b) : FunsV w' S' v p :=
  Vec.mono h hS fun b o x hb _ ⟨vk, vb, vs, ⟨h0, h1, h2, h3, h4⟩, hi⟩ => ⟨vk, vb, vs, ⟨(hk b _ hb).trans h0, (hk b _ hb).trans h1, (hk b _ hb).trans h2, (hk b _ hb).trans h3, (hk b _ hb).trans h4⟩, FunI.keep hi hk hS⟩
end

/-- Slices of ints, in the elder words. -/
theorem IntsV.sl {w : World} {B : Nat} {v : Value} {zs : List Int} (h : IntsV w (· < B) v zs) : ∃ A c, v = .slice A zs.length c ∧ zs.length ≤ c ∧ c ≤ 9223372036854775807 ∧ Sl w B .i64 A zs ∧ ∀ z ∈ zs, i64R z := by
  obtain ⟨A, c, e, h1, h2, h3⟩ := h
  refine ⟨A, c, e, h1, h2, fun hp => ?_, fun z hz => ?_⟩
  · obtain ⟨b, o, e2, hb, hc⟩ := h3 hp
    refine ⟨b, o, e2, hb, fun j hj => ?_⟩
    have := (hc j (zs.getD j 0) (by simp [List.getD, hj])).1
    rwa [Nat.mul_one] at this
  · obtain ⟨j, hj⟩ := List.getElem?_of_mem hz
    obtain ⟨b, o, _, _, hc⟩ := h3 (by have := (List.getElem?_eq_some_iff.1 hj).1; omega)
    exact (hc j z hj).2

/-- A closure that says whether a count may be. -/
def LimC (w : World) (S : Nat → Prop) (v : Value) (lo hi : Int) : Prop :=
  ∃ b1 b2, v = .func (.func 21) #[] #[.pointer (some ⟨b1, 0, none⟩), .pointer (some ⟨b2, 0, none⟩)] ∧ S b1 ∧ S b2 ∧ w.cell? ⟨b1, 0, none⟩ = some (.int .i64 lo) ∧ w.cell? ⟨b2, 0, none⟩ = some (.int .i64 hi)
def LimsC (w : World) (S : Nat → Prop) (l0 l1 l2 l3 l4 : Value) : Prop := LimC w S l0 1 8 ∧ LimC w S l1 0 48 ∧ LimC w S l2 0 40 ∧ LimC w S l3 0 40 ∧ LimC w S l4 0 4
theorem LimC.keep {w w' : World} {S S' : Nat → Prop} {v : Value} {lo hi : Int} (h : LimC w S v lo hi) (hk : Same' S w w') (hS : ∀ b, S b → S' b) : LimC w' S' v lo hi := by
  obtain ⟨b1, b2, e, h1, h2, h3, h4⟩ := h
  exact ⟨b1, b2, e, hS _ h1, hS _ h2, (hk _ _ h1).trans h3, (hk _ _ h2).trans h4⟩
theorem LimsC.keep {w w' : World} {S S' : Nat → Prop} {l0 l1 l2 l3 l4 : Value} (h : LimsC w S l0 l1 l2 l3 l4) (hk : Same' S w w') (hS : ∀ b, S b → S' b) : LimsC w' S' l0 l1 l2 l3 l4 :=
  ⟨h.1.keep hk hS, h.2.1.keep hk hS, h.2.2.1.keep hk hS, h.2.2.2.1.keep hk hS, h.2.2.2.2.keep hk hS⟩
section
variable {w w' : World} {S : Nat → Prop} {B : Nat}
theorem InsI.open' {va : Value} {x : InsV} (h : InsI w S va x) : ∃ A c, va = .slice A x.args.length c := by
  obtain ⟨⟨A, c, e, -⟩, -⟩ := h
  exact ⟨A, c, e⟩
theorem InssV.get {A : Option Addr} {n c k : Nat} {xs : List InsV} {y : InsV} (h : InssV w S (.slice A n c) xs) (hy : xs[k]? = some y) :
    ∃ b o A1 c1, A = some ⟨b, o, none⟩ ∧ S b ∧ (w.cell? ⟨b, o + k * 7, none⟩ = some (.int .i64 y.op) ∧ w.cell? ⟨b, o + k * 7 + 1, none⟩ = some (.int .i64 y.d) ∧ w.cell? ⟨b, o + k * 7 + 2, none⟩ = some (.int .i64 y.a) ∧ w.cell? ⟨b, o + k * 7 + 3, none⟩ = some (.int .i64 y.b) ∧
      w.cell? ⟨b, o + k * 7 + 4, none⟩ = some (.int .i64 y.n) ∧ w.cell? ⟨b, o + k * 7 + 5, none⟩ = some (.int .i64 y.m) ∧ w.cell? ⟨b, o + k * 7 + 6, none⟩ = some (.slice A1 y.args.length c1)) ∧ InsI w S (.slice A1 y.args.length c1) y := by
  obtain ⟨A', c', e, -, -, h3⟩ := h
  injection e with eA _ _
  subst eA
  obtain ⟨b, o, rfl, hb, hc⟩ := h3 (by have := (List.getElem?_eq_some_iff.1 hy).1; omega)
  obtain ⟨va, h7, hi⟩ := hc k y hy
  obtain ⟨A1, c1, rfl⟩ := hi.open'
  exact ⟨b, o, A1, c1, rfl, hb, h7, hi⟩
theorem InssV.open' {v : Value} {xs : List InsV} (h : InssV w S v xs) : ∃ A c, v = .slice A xs.length c ∧ xs.length ≤ c ∧ c ≤ 9223372036854775807 := by
  obtain ⟨A, c, e, h1, h2, -⟩ := h
  exact ⟨A, c, e, h1, h2⟩
theorem BlksV.open' {v : Value} {xs : List (List InsV)} (h : BlksV w S v xs) : ∃ A c, v = .slice A xs.length c ∧ xs.length ≤ c ∧ c ≤ 9223372036854775807 := by
  obtain ⟨A, c, e, h1, h2, -⟩ := h
  exact ⟨A, c, e, h1, h2⟩
theorem IntsV.open' {v : Value} {xs : List Int} (h : IntsV w S v xs) : ∃ A c, v = .slice A xs.length c ∧ xs.length ≤ c ∧ c ≤ 9223372036854775807 := by
  obtain ⟨A, c, e, h1, h2, -⟩ := h
  exact ⟨A, c, e, h1, h2⟩
theorem FunsV.open' {v : Value} {xs : List FunV} (h : FunsV w S v xs) : ∃ A c, v = .slice A xs.length c ∧ xs.length ≤ c ∧ c ≤ 9223372036854775807 := by
  obtain ⟨A, c, e, h1, h2, -⟩ := h
  exact ⟨A, c, e, h1, h2⟩
theorem IntsV.get {A : Option Addr} {n c k : Nat} {xs : List Int} {y : Int} (h : IntsV w S (.slice A n c) xs) (hy : xs[k]? = some y) :
    ∃ b o, A = some ⟨b, o, none⟩ ∧ S b ∧ w.cell? ⟨b, o + k, none⟩ = some (.int .i64 y) ∧ i64R y := by
  obtain ⟨A', c', e, -, -, h3⟩ := h
  injection e with eA _ _
  subst eA
  obtain ⟨b, o, rfl, hb, hc⟩ := h3 (by have := (List.getElem?_eq_some_iff.1 hy).1; omega)
  have := hc k y hy
  rw [Nat.mul_one] at this
  exact ⟨b, o, rfl, hb, this⟩
theorem BlksV.get {A : Option Addr} {n c k : Nat} {xs : List (List InsV)} {y : List InsV} (h : BlksV w S (.slice A n c) xs) (hy : xs[k]? = some y) :
    ∃ b o A1 c1, A = some ⟨b, o, none⟩ ∧ S b ∧ w.cell? ⟨b, o + k, none⟩ = some (.slice A1 y.length c1) ∧ InssV w S (.slice A1 y.length c1) y := by
  obtain ⟨A', c', e, -, -, h3⟩ := h
  injection e with eA _ _
  subst eA
  obtain ⟨b, o, rfl, hb, hc⟩ := h3 (by have := (List.getElem?_eq_some_iff.1 hy).1; omega)
  obtain ⟨v, h1, hi⟩ := hc k y hy
  rw [Nat.mul_one] at h1
  obtain ⟨A1, c1, rfl, -, -⟩ := hi.open'
  exact ⟨b, o, A1, c1, rfl, hb, h1, hi⟩
theorem FunsV.get {A : Option Addr} {n c k : Nat} {xs : List FunV} {y : FunV} (h : FunsV w S (.slice A n c) xs) (hy : xs[k]? = some y) :
    ∃ b o Ak ck Ab cb As cs, A = some ⟨b, o, none⟩ ∧ S b ∧ (w.cell? ⟨b, o + k * 5, none⟩ = some (.slice Ak y.kinds.length ck) ∧ w.cell? ⟨b, o + k * 5 + 1, none⟩ = some (.slice Ab y.base.length cb) ∧ w.cell? ⟨b, o + k * 5 + 2, none⟩ = some (.int .i64 y.params) ∧
      w.cell? ⟨b, o + k * 5 + 3, none⟩ = some (.int .i64 y.result) ∧ w.cell? ⟨b, o + k * 5 + 4, none⟩ = some (.slice As y.blocks.length cs)) ∧ FunI w S (.slice Ak y.kinds.length ck) (.slice Ab y.base.length cb) (.slice As y.blocks.length cs) y := by
  obtain ⟨A', c', e, -, -, h3⟩ := h
  injection e with eA _ _
  subst eA
  obtain ⟨b, o, rfl, hb, hc⟩ := h3 (by have := (List.getElem?_eq_some_iff.1 hy).1; omega)
  obtain ⟨vk, vb, vs, h5, hi⟩ := hc k y hy
  obtain ⟨Ak, ck, rfl, -, -⟩ := hi.1.open'
  obtain ⟨Ab, cb, rfl, -, -⟩ := hi.2.1.open'
  obtain ⟨As, cs, rfl, -, -⟩ := hi.2.2.1.open'
  exact ⟨b, o, Ak, ck, Ab, cb, As, cs, rfl, hb, h5, hi⟩
theorem up (h : Below w.heap.size w w') (hB : B ≤ w.heap.size) : Same' (· < B) w w' := fun b o hb => h.cell (p := ⟨b, o, none⟩) (Nat.lt_of_lt_of_le hb hB)
end
end Go.Proofs.YtkimocfofihjbaaDoor
namespace Go.Proofs.YtkimocfofihjbaaDoor
open Go.RowKit

theorem from_any (n lo hi : Int) (b1 b2 : Nat) (w : World) (h1 : w.cell? ⟨b1, 0, none⟩ = some (.int .i64 lo)) (h2 : w.cell? ⟨b2, 0, none⟩ = some (.int .i64 hi)) :
    Calls Tryd.prog 21 #[.int .i64 n, .pointer (some ⟨b1, 0, none⟩), .pointer (some ⟨b2, 0, none⟩)] w fun e w' => e = .returned (.bool (decide (lo ≤ n) && decide (n ≤ hi))) ∧ w = w' := by
  go_enter Tryd.func21, Tryd.ntmps21
  go_wp2
  all_goals
    go_ret
    exact ⟨by simp [*] <;> omega, rfl⟩

theorem from_yes (n lo hi : Int) (b1 b2 : Nat) (w : World) (h1 : w.cell? ⟨b1, 0, none⟩ = some (.int .i64 lo)) (h2 : w.cell? ⟨b2, 0, none⟩ = some (.int .i64 hi)) (hl : lo ≤ n) (hh : n ≤ hi) :
    Calls Tryd.prog 21 #[.int .i64 n, .pointer (some ⟨b1, 0, none⟩), .pointer (some ⟨b2, 0, none⟩)] w fun e w' => e = .returned (.bool true) ∧ w = w' :=
  (from_any n lo hi b1 b2 w h1 h2).mono fun e w' ⟨he, hw⟩ => ⟨by rw [he]; simp [hl, hh], hw⟩
theorem from_no (n lo hi : Int) (b1 b2 : Nat) (w : World) (h1 : w.cell? ⟨b1, 0, none⟩ = some (.int .i64 lo)) (h2 : w.cell? ⟨b2, 0, none⟩ = some (.int .i64 hi)) (hh : n < lo ∨ hi < n) :
    Calls Tryd.prog 21 #[.int .i64 n, .pointer (some ⟨b1, 0, none⟩), .pointer (some ⟨b2, 0, none⟩)] w fun e w' => e = .returned (.bool false) ∧ w = w' :=
  (from_any n lo hi b1 b2 w h1 h2).mono fun e w' ⟨he, hw⟩ => ⟨by rw [he]; simp; omega, hw⟩
theorem alloc2 (w : World) (o1 o2 : Obj) : Below w.heap.size w ((w.alloc o1).alloc o2) := ((Below.refl _ _).alloc (Nat.le_refl _) _).alloc (by simp) _
theorem allB_take {α : Type} {p : α → Bool} {l : List α} {k : Nat} {y : α} (h : (l.take k).all p = true) (hy : l[k]? = some y) (hp : p y = true) : (l.take (k + 1)).all p = true := by
  rw [List.take_add_one, List.all_append, h, hy]; simp [hp]
theorem allB_not {α : Type} {p : α → Bool} {l : List α} {k : Nat} {y : α} (hy : l[k]? = some y) (hp : p y = false) : l.all p = false := by
  rw [List.all_eq_false]; exact ⟨y, List.mem_of_getElem? hy, by simp [hp]⟩
theorem allB_end {α : Type} {p : α → Bool} {l : List α} {k n : Nat} (h : (l.take k).all p = true) (hn : l.length = n) (hk : n ≤ k) : l.all p = true := by
  rwa [List.take_of_length_le (by omega)] at h

/-- May the counts of a block be? Of a function? Of a program? -/
def insCnt (x : InsV) : Bool := !(x.op == 19) || decide (x.args.length ≤ 4)
def blkCnt (x : List InsV) : Bool := decide (x.length ≤ 40) && x.all insCnt
def funCnt (f : FunV) : Bool := decide (f.kinds.length ≤ 48) && (decide (f.blocks.length ≤ 40) && f.blocks.all blkCnt)
def cntB (p : List FunV) : Bool := decide (1 ≤ p.length) && (decide (p.length ≤ 8) && p.all funCnt)

set_option maxRecDepth 100000 in
theorem block_any (l0 l1 l2 l3 l4 vc : Value) (x : List InsV) (w : World) (B : Nat) (hB : B ≤ w.heap.size) (hL : LimsC w (· < B) l0 l1 l2 l3 l4) (hx : InssV w (· < B) vc x) :
    Calls Tryd.prog 40 #[.agg #[l0, l1, l2, l3, l4], .agg #[vc]] w fun e w' => e = .returned (.bool (blkCnt x)) ∧ Below w.heap.size w w' := by
  obtain ⟨-, -, -, ⟨b1, b2, rfl, hb1, hb2, hc1, hc2⟩, ⟨b3, b4, rfl, hb3, hb4, hc3, hc4⟩⟩ := hL
  obtain ⟨A, c, rfl, hc, hm⟩ := hx.open'
  obtain ⟨n, hn⟩ : ∃ n, x.length = n := ⟨_, rfl⟩
  have HP := hide (show blkCnt x = (decide (n ≤ 40) && x.all insCnt) by unfold blkCnt; rw [hn])
  rw [hn] at hx hc ⊢
  have HN := hide hn
  have HX := hide hx
  have k1 : ∀ w', Below w.heap.size w w' → w'.cell? ⟨b1, 0, none⟩ = some (.int .i64 0) := fun w' h => (h.cell (p := ⟨b1, 0, none⟩) (Nat.lt_of_lt_of_le hb1 hB)).trans hc1
  have k2 : ∀ w', Below w.heap.size w w' → w'.cell? ⟨b2, 0, none⟩ = some (.int .i64 40) := fun w' h => (h.cell (p := ⟨b2, 0, none⟩) (Nat.lt_of_lt_of_le hb2 hB)).trans hc2
  have k3 : ∀ w', Below w.heap.size w w' → w'.cell? ⟨b3, 0, none⟩ = some (.int .i64 0) := fun w' h => (h.cell (p := ⟨b3, 0, none⟩) (Nat.lt_of_lt_of_le hb3 hB)).trans hc3
  have k4 : ∀ w', Below w.heap.size w w' → w'.cell? ⟨b4, 0, none⟩ = some (.int .i64 4) := fun w' h => (h.cell (p := ⟨b4, 0, none⟩) (Nat.lt_of_lt_of_le hb4 hB)).trans hc4
  have K1 := hide k1; have K2 := hide k2; have K3 := hide k3; have K4 := hide k4
  clear hn hx k1 k2 k3 k4 hc1 hc2 hc3 hc4
  by_cases h40 : n ≤ 40
  · go_enter Tryd.func40, Tryd.ntmps40
    go_wp2_with (go_at_call 21; refine (from_yes _ 0 40 b1 b2 _ (K1.out _ (alloc2 w _ _)) (K2.out _ (alloc2 w _ _)) (by omega) (by omega)).mono ?_; rintro e w' ⟨rfl, rfl⟩)
    go_loopw [17] (fun i wr => ∃ k : Nat, k ≤ n ∧ i = .int .i64 k ∧ Below w.heap.size w wr ∧ w.heap.size + 2 ≤ wr.heap.size ∧ wr.cell? ⟨w.heap.size, 4, none⟩ = some (.func (.func 21) #[] #[.pointer (some ⟨b3, 0, none⟩), .pointer (some ⟨b4, 0, none⟩)]) ∧ Hid ((x.take k).all insCnt = true)) (fun i _ => n - (intOf i).toNat)
    case atStart => exact ⟨0, Nat.zero_le _, rfl, alloc2 w _ _, by simp, by simp, hide (by simp)⟩
    case round =>
      obtain ⟨k, hk, rfl, hb, hsz, e7, hall⟩ := hrel
      by_cases hlt : k < n
      · obtain ⟨y, hy⟩ : ∃ y, x[k]? = some y := ⟨_, List.getElem?_eq_getElem (by have := HN.out; omega)⟩
        obtain ⟨b, o, A1, c1, rfl, hbb, ⟨e0, e1, e2, e3, e4, e5, e6⟩, -⟩ := (HX.out.keep (up hb hB) (fun _ h => h)).get hy
        have hbs : b < wr.heap.size := by omega
        have hs1 : w.heap.size < wr.heap.size := by omega
        have HY := hide hy
        clear hy
        by_cases hop : y.op = 19
        · have hq : (y.op == 19) = true := by simpa using hop
          obtain ⟨m, hm'⟩ : ∃ m, y.args.length = m := ⟨_, rfl⟩
          have HM := hide hm'
          rw [hm'] at e6
          clear hm'
          by_cases h4 : m ≤ 4
          · have hp := hide (show insCnt y = true by unfold insCnt; rw [HM.out]; simp [h4])
            clear hop
            go_wp2_with (go_at_call 21; refine (from_yes _ 0 4 b3 b4 _ (K3.out _ (hb.alloc (by omega) _)) (K4.out _ (hb.alloc (by omega) _)) (by omega) (by omega)).mono ?_; rintro e w' ⟨rfl, rfl⟩)
            go_roundw
            case rel => exact ⟨k + 1, by omega, by go_num, hb.alloc (by omega) _, by simp; omega, (World.cell?_alloc_lt _ _ _ hs1).trans e7, hide (allB_take hall.out HY.out hp.out)⟩
            case measure => simp [intOf]; omega
          · have hp := hide (show insCnt y = false by unfold insCnt; rw [HM.out]; simp [hop, h4])
            clear hop
            go_wp2_with (go_at_call 21; refine (from_no _ 0 4 b3 b4 _ (K3.out _ (hb.alloc (by omega) _)) (K4.out _ (hb.alloc (by omega) _)) (by omega)).mono ?_; rintro e w' ⟨rfl, rfl⟩)
            go_ret
            exact ⟨by rw [HP.out, allB_not HY.out hp.out]; simp, hb.alloc (by omega) _⟩
        · have hq : (y.op == 19) = false := by simpa using hop
          have hp := hide (show insCnt y = true by unfold insCnt; simp [hop])
          clear hop
          go_wp2
          go_roundw
          case rel => exact ⟨k + 1, by omega, by go_num, hb.alloc (by omega) _, by simp; omega, (World.cell?_alloc_lt _ _ _ hs1).trans e7, hide (allB_take hall.out HY.out hp.out)⟩
          case measure => simp [intOf]; omega
      · go_wp2
        go_ret
        exact ⟨by rw [HP.out, allB_end hall.out HN.out (by omega)]; simp [h40], hb⟩
  · go_enter Tryd.func40, Tryd.ntmps40
    go_wp2_with (go_at_call 21; refine (from_no _ 0 40 b1 b2 _ (K1.out _ (alloc2 w _ _)) (K2.out _ (alloc2 w _ _)) (by omega)).mono ?_; rintro e w' ⟨rfl, rfl⟩)
    go_ret
    exact ⟨by rw [HP.out]; simp [h40], alloc2 w _ _⟩
end Go.Proofs.YtkimocfofihjbaaDoor
namespace Go.Proofs.YtkimocfofihjbaaDoor
open Go.RowKit

/-- The five closures, boxed. -/
def LBox (w : World) (g : Nat) (l0 l1 l2 l3 l4 : Value) : Prop :=
  w.cell? ⟨g, 0, none⟩ = some l0 ∧ w.cell? ⟨g, 1, none⟩ = some l1 ∧ w.cell? ⟨g, 2, none⟩ = some l2 ∧ w.cell? ⟨g, 3, none⟩ = some l3 ∧ w.cell? ⟨g, 4, none⟩ = some l4
theorem LBox.keep {w w' : World} {g : Nat} {l0 l1 l2 l3 l4 : Value} (h : LBox w g l0 l1 l2 l3 l4) (hb : Below w.heap.size w w') (hg : g < w.heap.size) : LBox w' g l0 l1 l2 l3 l4 :=
  ⟨(hb.cell (p := ⟨g, 0, none⟩) hg).trans h.1, (hb.cell (p := ⟨g, 1, none⟩) hg).trans h.2.1, (hb.cell (p := ⟨g, 2, none⟩) hg).trans h.2.2.1, (hb.cell (p := ⟨g, 3, none⟩) hg).trans h.2.2.2.1, (hb.cell (p := ⟨g, 4, none⟩) hg).trans h.2.2.2.2⟩
theorem LimsC.open' {w : World} {S : Nat → Prop} {l0 l1 l2 l3 l4 : Value} (h : LimsC w S l0 l1 l2 l3 l4) : ∃ a0 a1 a2 a3 a4 c0 c1 c2 c3 c4, l0 = .func (.func 21) #[] #[.pointer (some ⟨a0, 0, none⟩), .pointer (some ⟨c0, 0, none⟩)] ∧ l1 = .func (.func 21) #[] #[.pointer (some ⟨a1, 0, none⟩), .pointer (some ⟨c1, 0, none⟩)] ∧
    l2 = .func (.func 21) #[] #[.pointer (some ⟨a2, 0, none⟩), .pointer (some ⟨c2, 0, none⟩)] ∧ l3 = .func (.func 21) #[] #[.pointer (some ⟨a3, 0, none⟩), .pointer (some ⟨c3, 0, none⟩)] ∧ l4 = .func (.func 21) #[] #[.pointer (some ⟨a4, 0, none⟩), .pointer (some ⟨c4, 0, none⟩)] := by
  obtain ⟨⟨a0, c0, rfl, -⟩, ⟨a1, c1, rfl, -⟩, ⟨a2, c2, rfl, -⟩, ⟨a3, c3, rfl, -⟩, ⟨a4, c4, rfl, -⟩⟩ := h
  exact ⟨a0, a1, a2, a3, a4, c0, c1, c2, c3, c4, rfl, rfl, rfl, rfl, rfl⟩
/-- What a closure says, in any later world. -/
theorem LimC.say {w : World} {B : Nat} {a c : Nat} {lo hi : Int} (h : LimC w (· < B) (.func (.func 21) #[] #[.pointer (some ⟨a, 0, none⟩), .pointer (some ⟨c, 0, none⟩)]) lo hi) (hB : B ≤ w.heap.size) :
    ∀ w', Below w.heap.size w w' → w'.cell? ⟨a, 0, none⟩ = some (.int .i64 lo) ∧ w'.cell? ⟨c, 0, none⟩ = some (.int .i64 hi) := fun w' hb => by
  obtain ⟨b1, b2, e, h1, h2, h3, h4⟩ := h
  injection e with _ _ e
  simp at e
  obtain ⟨rfl, rfl⟩ := e
  exact ⟨(hb.cell (p := ⟨a, 0, none⟩) (Nat.lt_of_lt_of_le h1 hB)).trans h3, (hb.cell (p := ⟨c, 0, none⟩) (Nat.lt_of_lt_of_le h2 hB)).trans h4⟩

set_option maxRecDepth 100000 in
theorem function_any (l0 l1 l2 l3 l4 vk vb vs : Value) (f : FunV) (w : World) (B : Nat) (hB : B ≤ w.heap.size) (hL : LimsC w (· < B) l0 l1 l2 l3 l4) (hf : FunI w (· < B) vk vb vs f) :
    Calls Tryd.prog 28 #[.agg #[l0, l1, l2, l3, l4], .agg #[vk, vb, .int .i64 f.params, .int .i64 f.result, vs]] w fun e w' => e = .returned (.bool (funCnt f)) ∧ Below w.heap.size w w' := by
  have HL := hide hL
  obtain ⟨-, a1, a2, -, -, -, c1, c2, -, -, -, rfl, rfl, -, -⟩ := hL.open'
  have K1 := hide (hL.2.1.say hB)
  have K2 := hide (hL.2.2.1.say hB)
  obtain ⟨hk, hbs, hx, -, -⟩ := hf
  obtain ⟨Ak, ck, rfl, -, -⟩ := hk.open'
  obtain ⟨Ab, cb, rfl, -, -⟩ := hbs.open'
  obtain ⟨A, c, rfl, hc, hm⟩ := hx.open'
  obtain ⟨n, hn⟩ : ∃ n, f.blocks.length = n := ⟨_, rfl⟩
  obtain ⟨m, hm'⟩ : ∃ m, f.kinds.length = m := ⟨_, rfl⟩
  have HP := hide (show funCnt f = (decide (m ≤ 48) && (decide (n ≤ 40) && f.blocks.all blkCnt)) by unfold funCnt; rw [hn, hm'])
  have hml : m ≤ 9223372036854775807 := by
    obtain ⟨A', c', e, h1, h2, -⟩ := hk
    rw [← hm']; omega
  rw [hn] at hx hc ⊢
  rw [hm']
  have HN := hide hn
  have HX := hide hx
  clear hn hx hk hbs hm' hL
  by_cases h48 : m ≤ 48
  · by_cases h40 : n ≤ 40
    · go_enter Tryd.func28, Tryd.ntmps28
      go_wp2_with (first
        | (go_at_call_of 21 a1; refine (from_yes _ 0 48 a1 c1 _ (K1.out _ (alloc2 w _ _)).1 (K1.out _ (alloc2 w _ _)).2 (by omega) (by omega)).mono ?_; rintro e w' ⟨rfl, rfl⟩)
        | (go_at_call_of 21 a2; refine (from_yes _ 0 40 a2 c2 _ (K2.out _ (alloc2 w _ _)).1 (K2.out _ (alloc2 w _ _)).2 (by omega) (by omega)).mono ?_; rintro e w' ⟨rfl, rfl⟩))
      go_loopw [26] (fun i wr => ∃ k : Nat, k ≤ n ∧ i = .int .i64 k ∧ Below w.heap.size w wr ∧ w.heap.size + 2 ≤ wr.heap.size ∧ LBox wr w.heap.size l0 (.func (.func 21) #[] #[.pointer (some ⟨a1, 0, none⟩), .pointer (some ⟨c1, 0, none⟩)]) (.func (.func 21) #[] #[.pointer (some ⟨a2, 0, none⟩), .pointer (some ⟨c2, 0, none⟩)]) l3 l4 ∧ Hid ((f.blocks.take k).all blkCnt = true)) (fun i _ => n - (intOf i).toNat)
      case atStart => exact ⟨0, Nat.zero_le _, rfl, alloc2 w _ _, by simp, by simp [LBox], hide (by simp)⟩
      case round =>
        obtain ⟨k, hk, rfl, hb, hsz, hbox, hall⟩ := hrel
        have HBX := hide hbox
        obtain ⟨x0, x1, x2, x3, x4⟩ := hbox
        have hs1 : w.heap.size < wr.heap.size := by omega
        by_cases hlt : k < n
        · obtain ⟨y, hy⟩ : ∃ y, f.blocks[k]? = some y := ⟨_, List.getElem?_eq_getElem (by have := HN.out; omega)⟩
          obtain ⟨b, o, A1, c1', rfl, hbb, e0, hi⟩ := (HX.out.keep (up hb hB) (fun _ h => h)).get hy
          have hbs : b < wr.heap.size := by omega
          have HI := hide hi
          have HY := hide hy
          clear hy hi
          by_cases hp0 : blkCnt y = true
          · have hp := hide hp0
            have HC := hide (fun (W : World) (hW : Below wr.heap.size wr W) => (block_any _ _ _ _ _ (.slice A1 y.length c1') y W B (by have := hW.size; omega) (HL.out.keep (up (hb.trans (hW.mono (by omega))) hB) (fun _ h => h)) (HI.out.keep (up hW (by omega)) (fun _ h => h))))
            rw [hp0] at HC
            clear hp0
            go_wp2_with (go_at_call 40; refine (HC.out _ ((Below.refl _ _).alloc (Nat.le_refl _) _)).mono ?_; rintro e w1 ⟨rfl, hb1⟩)
            have hb2 := ((Below.refl wr.heap.size wr).alloc (Nat.le_refl _) (.cells #[.slice A1 y.length c1'] 43)).trans (hb1.mono (by simp))
            go_roundw
            case rel => exact ⟨k + 1, by omega, by go_num, hb.trans (hb2.mono (by omega)), by have := hb2.size; omega, HBX.out.keep hb2 hs1, hide (allB_take hall.out HY.out hp.out)⟩
            case measure => simp [intOf]; omega
          · have hp := hide (Bool.eq_false_iff.2 hp0)
            have HC := hide (fun (W : World) (hW : Below wr.heap.size wr W) => (block_any _ _ _ _ _ (.slice A1 y.length c1') y W B (by have := hW.size; omega) (HL.out.keep (up (hb.trans (hW.mono (by omega))) hB) (fun _ h => h)) (HI.out.keep (up hW (by omega)) (fun _ h => h))))
            rw [hp.out] at HC
            clear hp0
            go_wp2_with (go_at_call 40; refine (HC.out _ ((Below.refl _ _).alloc (Nat.le_refl _) _)).mono ?_; rintro e w1 ⟨rfl, hb1⟩)
            have hb2 := ((Below.refl wr.heap.size wr).alloc (Nat.le_refl _) (.cells #[.slice A1 y.length c1'] 43)).trans (hb1.mono (by simp))
            go_ret
            exact ⟨by rw [HP.out, allB_not HY.out hp.out]; simp, hb.trans (hb2.mono (by omega))⟩
        · go_wp2
          go_ret
          exact ⟨by rw [HP.out, allB_end hall.out HN.out (by omega)]; simp [h40, h48], hb⟩
    · go_enter Tryd.func28, Tryd.ntmps28
      go_wp2_with (first
        | (go_at_call_of 21 a1; refine (from_yes _ 0 48 a1 c1 _ (K1.out _ (alloc2 w _ _)).1 (K1.out _ (alloc2 w _ _)).2 (by omega) (by omega)).mono ?_; rintro e w' ⟨rfl, rfl⟩)
        | (go_at_call_of 21 a2; refine (from_no _ 0 40 a2 c2 _ (K2.out _ (alloc2 w _ _)).1 (K2.out _ (alloc2 w _ _)).2 (by omega)).mono ?_; rintro e w' ⟨rfl, rfl⟩))
      go_ret
      exact ⟨by rw [HP.out]; simp [h40], alloc2 w _ _⟩
  · go_enter Tryd.func28, Tryd.ntmps28
    go_wp2_with (go_at_call 21; refine (from_no _ 0 48 a1 c1 _ (K1.out _ (alloc2 w _ _)).1 (K1.out _ (alloc2 w _ _)).2 (by omega)).mono ?_; rintro e w' ⟨rfl, rfl⟩)
    go_ret
    exact ⟨by rw [HP.out]; simp [h48], alloc2 w _ _⟩
end Go.Proofs.YtkimocfofihjbaaDoor
namespace Go.Proofs.YtkimocfofihjbaaDoor
open Go.RowKit

set_option maxRecDepth 100000 in
theorem lprog_any (l0 l1 l2 l3 l4 vp : Value) (p : List FunV) (w : World) (B : Nat) (hB : B ≤ w.heap.size) (hL : LimsC w (· < B) l0 l1 l2 l3 l4) (hp : FunsV w (· < B) vp p) :
    Calls Tryd.prog 17 #[.agg #[l0, l1, l2, l3, l4], .agg #[vp]] w fun e w' => e = .returned (.bool (cntB p)) ∧ Below w.heap.size w w' := by
  have HL := hide hL
  obtain ⟨a1, -, -, -, -, c1, -, -, -, -, rfl, -, -, -, -⟩ := hL.open'
  have K1 := hide (hL.1.say hB)
  obtain ⟨A, c, rfl, hc, hm⟩ := hp.open'
  obtain ⟨n, hn⟩ : ∃ n, p.length = n := ⟨_, rfl⟩
  have HP := hide (show cntB p = (decide (1 ≤ n) && (decide (n ≤ 8) && p.all funCnt)) by unfold cntB; rw [hn])
  rw [hn] at hp hc ⊢
  have HN := hide hn
  have HX := hide hp
  clear hn hp hL
  by_cases h48 : 1 ≤ n ∧ n ≤ 8
  · obtain ⟨hn1, hn8⟩ := h48
    go_enter Tryd.func17, Tryd.ntmps17
    go_wp2_with (go_at_call 21; refine (from_yes _ 1 8 a1 c1 _ (K1.out _ (alloc2 w _ _)).1 (K1.out _ (alloc2 w _ _)).2 (by omega) (by omega)).mono ?_; rintro e w' ⟨rfl, rfl⟩)
    go_loopw [17] (fun i wr => ∃ k : Nat, k ≤ n ∧ i = .int .i64 k ∧ Below w.heap.size w wr ∧ w.heap.size + 2 ≤ wr.heap.size ∧ LBox wr w.heap.size (.func (.func 21) #[] #[.pointer (some ⟨a1, 0, none⟩), .pointer (some ⟨c1, 0, none⟩)]) l1 l2 l3 l4 ∧ Hid ((p.take k).all funCnt = true)) (fun i _ => n - (intOf i).toNat)
    case atStart => exact ⟨0, Nat.zero_le _, rfl, alloc2 w _ _, by simp, by simp [LBox], hide (by simp)⟩
    case round =>
      obtain ⟨k, hk, rfl, hb, hsz, hbox, hall⟩ := hrel
      have HBX := hide hbox
      obtain ⟨x0, x1, x2, x3, x4⟩ := hbox
      have hs1 : w.heap.size < wr.heap.size := by omega
      by_cases hlt : k < n
      · obtain ⟨y, hy⟩ : ∃ y, p[k]? = some y := ⟨_, List.getElem?_eq_getElem (by have := HN.out; omega)⟩
        obtain ⟨b, o, Ak, ck, Ab, cb, As, cs, rfl, hbb, ⟨e0, e1, e2, e3, e4⟩, hi⟩ := (HX.out.keep (up hb hB) (fun _ h => h)).get hy
        have hbs : b < wr.heap.size := by omega
        have HI := hide hi
        have HY := hide hy
        clear hy hi
        have hC := fun (W : World) (hW : Below wr.heap.size wr W) => (function_any _ _ _ _ _ (.slice Ak y.kinds.length ck) (.slice Ab y.base.length cb) (.slice As y.blocks.length cs) y W B (by have := hW.size; omega) (HL.out.keep (up (hb.trans (hW.mono (by omega))) hB) (fun _ h => h)) (HI.out.keep (up hW (by omega)) (fun _ h => h)))
        generalize y.kinds.length = lk at *
        generalize y.base.length = lb at *
        generalize y.blocks.length = ls at *
        by_cases hp0 : funCnt y = true
        · have hp := hide hp0
          rw [hp0] at hC
          have HC := hide hC
          clear hp0 hC
          go_wp2_with (go_at_call 28; refine (HC.out _ ((Below.refl _ _).alloc (Nat.le_refl _) _)).mono ?_; rintro e w1 ⟨rfl, hb1⟩)
          have hb2 := ((Below.refl wr.heap.size wr).alloc (Nat.le_refl _) (.cells #[.slice Ak lk ck, .slice Ab lb cb, .int .i64 y.params, .int .i64 y.result, .slice As ls cs] 38)).trans (hb1.mono (by simp))
          go_roundw
          case rel => exact ⟨k + 1, by omega, by go_num, hb.trans (hb2.mono (by omega)), by have := hb2.size; omega, HBX.out.keep hb2 hs1, hide (allB_take hall.out HY.out hp.out)⟩
          case measure => simp [intOf]; omega
        · have hp := hide (Bool.eq_false_iff.2 hp0)
          rw [hp.out] at hC
          have HC := hide hC
          clear hp0 hC
          go_wp2_with (go_at_call 28; refine (HC.out _ ((Below.refl _ _).alloc (Nat.le_refl _) _)).mono ?_; rintro e w1 ⟨rfl, hb1⟩)
          have hb2 := ((Below.refl wr.heap.size wr).alloc (Nat.le_refl _) (.cells #[.slice Ak lk ck, .slice Ab lb cb, .int .i64 y.params, .int .i64 y.result, .slice As ls cs] 38)).trans (hb1.mono (by simp))
          go_ret
          exact ⟨by rw [HP.out, allB_not HY.out hp.out]; simp, hb.trans (hb2.mono (by omega))⟩
      · go_wp2
        go_ret
        exact ⟨by rw [HP.out, allB_end hall.out HN.out (by omega)]; simp [hn1, hn8], hb⟩
  · go_enter Tryd.func17, Tryd.ntmps17
    go_wp2_with (go_at_call 21; refine (from_no _ 1 8 a1 c1 _ (K1.out _ (alloc2 w _ _)).1 (K1.out _ (alloc2 w _ _)).2 (by omega)).mono ?_; rintro e w' ⟨rfl, rfl⟩)
    go_ret
    exact ⟨by rw [HP.out]; simp; omega, alloc2 w _ _⟩

theorem same_set {S : Nat → Prop} {w : World} {g j : Nat} {v : Value} (h : ∀ b, S b → b ≠ g) : Same' S w (w.setCell ⟨g, j, none⟩ v) := fun b o hb => World.cell?_setCell_far _ _ _ _ (by simpa using (h b hb).symm)
theorem Same'.trans {S : Nat → Prop} {w w1 w2 : World} (h : Same' S w w1) (h2 : Same' S w1 w2) : Same' S w w2 := fun b o hb => (h2 b o hb).trans (h b o hb)
theorem same_set5 {S : Nat → Prop} {w : World} {g j0 j1 j2 j3 j4 : Nat} {v0 v1 v2 v3 v4 : Value} (h : ∀ b, S b → b ≠ g) : Same' S w (((((w.setCell ⟨g, j0, none⟩ v0).setCell ⟨g, j1, none⟩ v1).setCell ⟨g, j2, none⟩ v2).setCell ⟨g, j3, none⟩ v3).setCell ⟨g, j4, none⟩ v4) :=
  ((((same_set h).trans (same_set h)).trans (same_set h)).trans (same_set h)).trans (same_set h)
theorem below_set5 {B : Nat} {a w : World} {g j0 j1 j2 j3 j4 : Nat} {v0 v1 v2 v3 v4 : Value} (h : Below B a w) (hg : B ≤ g) : Below B a (((((w.setCell ⟨g, j0, none⟩ v0).setCell ⟨g, j1, none⟩ v1).setCell ⟨g, j2, none⟩ v2).setCell ⟨g, j3, none⟩ v3).setCell ⟨g, j4, none⟩ v4) :=
  ((((h.setCell hg _).setCell hg _).setCell hg _).setCell hg _).setCell hg _
theorem lim_end {w1 w : World} {s g j0 j1 j2 j3 j4 : Nat} {v0 v1 v2 v3 v4 v : Value} {lo hi : Int} (h : LimC w1 (fun b => s ≤ b ∧ b < w1.heap.size) v lo hi) (hb : Below w1.heap.size w1 w) (hg : g < s) :
    LimC (((((w.setCell ⟨g, j0, none⟩ v0).setCell ⟨g, j1, none⟩ v1).setCell ⟨g, j2, none⟩ v2).setCell ⟨g, j3, none⟩ v3).setCell ⟨g, j4, none⟩ v4) (fun b => b < (((((w.setCell ⟨g, j0, none⟩ v0).setCell ⟨g, j1, none⟩ v1).setCell ⟨g, j2, none⟩ v2).setCell ⟨g, j3, none⟩ v3).setCell ⟨g, j4, none⟩ v4).heap.size) v lo hi := by
  have hs := hb.size
  have h1 : LimC w (fun b => s ≤ b ∧ b < w1.heap.size) v lo hi := h.keep (fun b o h => hb.cell (p := ⟨b, o, none⟩) h.2) (fun _ h => h)
  refine h1.keep (same_set5 fun b h => by omega) (fun b h => ?_)
  simp only [World.size_setCell]
  omega
/-- What a box of the call's own has, in any later world. -/
theorem box_cells {w w' : World} {cs : Array Value} {t : TypeId} (hb : Below (w.heap.size + 1) (w.alloc (.cells cs t)) w') (j : Nat) {v : Value} (hv : cs[j]? = some v) : w'.cell? ⟨w.heap.size, j, none⟩ = some v ∧ w'.frozen? ⟨w.heap.size, j, none⟩ = false := by
  constructor
  · rw [hb.cell (p := ⟨w.heap.size, j, none⟩) (by simp), ← hv]; simp
  · rw [hb.frozen (p := ⟨w.heap.size, j, none⟩) (by simp)]; simp
theorem made_any (lo hi : Int) (w : World) :
    Calls Tryd.prog 20 #[.int .i64 lo, .int .i64 hi] w fun e w' => ∃ v, e = .returned v ∧ LimC w' (fun b => w.heap.size ≤ b ∧ b < w'.heap.size) v lo hi ∧ Below w.heap.size w w' := by
  have hmf : ∀ (fn : Fn) (first cap : Array Value) (w : World), (Instr.makeFunc fn first cap).run Tryd.prog w = .ok (.func fn first cap) w := fun _ _ _ _ => rfl
  go_enter Tryd.func20, Tryd.ntmps20
  go_wp2
  go_ret
  refine ⟨_, rfl, ⟨_, _, rfl, by simp; omega, by simp, by simp, by simp⟩, alloc2 w _ _⟩

set_option maxRecDepth 100000 in
theorem limits_any (w : World) :
    Calls Tryd.prog 11 #[] w fun e w' => ∃ l0 l1 l2 l3 l4, e = .returned (.agg #[l0, l1, l2, l3, l4]) ∧ LimsC w' (fun b => b < w'.heap.size) l0 l1 l2 l3 l4 ∧ Below w.heap.size w w' := by
  go_enter Tryd.func11, Tryd.ntmps11
  go_wp2_with (first
    | (go_at_call 20; (with_reducible refine (made_any 0 4 w4).mono ?_); rintro e w5 ⟨l4, rfl, hl4, hb5⟩; have HL4 := hide hl4; clear hl4; obtain ⟨a4, c4, rfl, -⟩ := HL4.out; have hb := hb1.trans ((hb2.trans ((hb3.trans ((hb4.trans (hb5.mono hb4.size)).mono hb3.size)).mono hb2.size)).mono hb1.size); simp only [World.size_alloc] at hb; obtain ⟨x0, y0⟩ := box_cells hb 0 (v := .nilFunc) rfl; obtain ⟨x1, y1⟩ := box_cells hb 1 (v := .nilFunc) rfl; obtain ⟨x2, y2⟩ := box_cells hb 2 (v := .nilFunc) rfl; obtain ⟨x3, y3⟩ := box_cells hb 3 (v := .nilFunc) rfl; obtain ⟨x4, y4⟩ := box_cells hb 4 (v := .nilFunc) rfl)
    | (go_at_call 20; (with_reducible refine (made_any 0 40 w3).mono ?_); rintro e w4 ⟨l3, rfl, hl3, hb4⟩; have HL3 := hide hl3; clear hl3; obtain ⟨a3, c3, rfl, -⟩ := HL3.out)
    | (go_at_call 20; (with_reducible refine (made_any 0 40 w2).mono ?_); rintro e w3 ⟨l2, rfl, hl2, hb3⟩; have HL2 := hide hl2; clear hl2; obtain ⟨a2, c2, rfl, -⟩ := HL2.out)
    | (go_at_call 20; (with_reducible refine (made_any 0 48 w1).mono ?_); rintro e w2 ⟨l1, rfl, hl1, hb2⟩; have HL1 := hide hl1; clear hl1; obtain ⟨a1, c1, rfl, -⟩ := HL1.out)
    | (go_at_call 20; refine (made_any 1 8 _).mono ?_; rintro e w1 ⟨l0, rfl, hl0, hb1⟩; have HL0 := hide hl0; clear hl0; obtain ⟨a0, c0, rfl, -⟩ := HL0.out))
  have z0 : w.heap.size + 1 ≤ w1.heap.size := by have := hb1.size; simpa using this
  refine bodyPost_ret (v := .agg #[.func (.func 21) #[] #[.pointer (some ⟨a0, 0, none⟩), .pointer (some ⟨c0, 0, none⟩)], .func (.func 21) #[] #[.pointer (some ⟨a1, 0, none⟩), .pointer (some ⟨c1, 0, none⟩)], .func (.func 21) #[] #[.pointer (some ⟨a2, 0, none⟩), .pointer (some ⟨c2, 0, none⟩)], .func (.func 21) #[] #[.pointer (some ⟨a3, 0, none⟩), .pointer (some ⟨c3, 0, none⟩)], .func (.func 21) #[] #[.pointer (some ⟨a4, 0, none⟩), .pointer (some ⟨c4, 0, none⟩)]])
    (by simp [results, Tryd.results11, go_sem, x0, x1, x2, x3, x4]) rfl ⟨_, _, _, _, _, rfl, ⟨?_, ?_, ?_, ?_, ?_⟩, below_set5 ((Below.refl _ _ |>.alloc (Nat.le_refl _) _).trans (hb.mono (by omega))) (Nat.le_refl _)⟩
  · exact lim_end HL0.out (hb2.trans ((hb3.trans ((hb4.trans (hb5.mono hb4.size)).mono hb3.size)).mono hb2.size)) (by simp)
  · exact lim_end HL1.out (hb3.trans ((hb4.trans (hb5.mono hb4.size)).mono hb3.size)) (by omega)
  · exact lim_end HL2.out (hb4.trans (hb5.mono hb4.size)) (by have := hb2.size; omega)
  · exact lim_end HL3.out hb5 (by have := hb2.size; have := hb3.size; omega)
  · exact lim_end HL4.out (Below.refl _ _) (by have := hb2.size; have := hb3.size; have := hb4.size; omega)
end Go.Proofs.YtkimocfofihjbaaDoor
namespace Go.Proofs.YtkimocfofihjbaaDoor
open Go.RowKit

/-- A block of cells, known whole. -/
def Box (w : World) (h : Nat) (cs : Array Value) (T : TypeId) : Prop := w.heap[h]? = some (.cells cs T (0, 0))
section
variable {w w' : World} {h : Nat} {cs : Array Value} {T : TypeId}
theorem Box.new (w : World) (cs : Array Value) (T : TypeId) : Box (w.alloc (.cells cs T)) w.heap.size cs T := heap_alloc_new w _
theorem Box.lt (b : Box w h cs T) : h < w.heap.size := (Array.getElem?_eq_some_iff.1 b).1
theorem Box.alloc (b : Box w h cs T) (o : Obj) : Box (w.alloc o) h cs T := (Below.heap_alloc _ _ _ b.lt).trans b
theorem Box.below (b : Box w h cs T) (hb : Below w.heap.size w w') : Box w' h cs T := (hb.block h b.lt).trans b
theorem Box.belowB {B : Nat} (b : Box w h cs T) (hb : Below B w w') (hB : h < B) : Box w' h cs T := (hb.block h hB).trans b
theorem Box.cell (b : Box w h cs T) (j : Nat) {v : Value} (hv : cs[j]? = some v) : w.cell? ⟨h, j, none⟩ = some v ∧ w.frozen? ⟨h, j, none⟩ = false := by
  constructor
  · rw [cell_of_row w h j cs T (0, 0) b]; exact hv
  · simp [World.frozen?, Box] at *; simp [b]
theorem Box.set (b : Box w h cs T) (j : Nat) (v : Value) : Box (w.setCell ⟨h, j, none⟩ v) h (cs.setIfInBounds j v) T := heap_setCell_same w h j cs T v b
theorem Box.other (b : Box w h cs T) {g j : Nat} {v : Value} (hg : h ≠ g) : Box (w.setCell ⟨g, j, none⟩ v) h cs T := (heap_setCell_other w ⟨g, j, none⟩ h v hg).trans b
theorem Box.iter (b : Box w h cs T) {k : Nat} {s : ByteArray} {p : Nat} (hk : h ≠ k) : Box (w.iterAt k s p) h cs T := (Lib.iterAt_other w k h s p hk).trans b
theorem Box.kept {e : TypeId} {g : Nat} (b : Box w h cs T) (hk : Lib.OthersKept e (some g) w w') (hg : h ≠ g) (hT : T ≠ e) : Box w' h cs T :=
  hk h _ b (fun x => hg (Option.some.inj x)) (fun _ _ x => hT (by injection x))
end

/-- The letters of each operation. -/
def partsT : List (List Nat) := [[], [68, 110], [68, 65], [68, 65, 66], [68, 65, 66], [68, 65, 66], [68, 65, 66], [68], [68, 65], [68, 65, 66], [68, 78, 77], [68, 65, 78], [65, 78, 66], [68, 65, 78], [65, 78, 66], [68, 65, 78], [68, 65, 110], [68, 65], [65, 66], [68, 78, 76], [65], [78], [65, 78, 77], [65]]
def partsN (op : Int) : List Nat := if op < 0 then [] else partsT.getD op.toNat []
def strOf (l : List Nat) : ByteArray := ⟨(l.map UInt8.ofNat).toArray⟩
def TabP (w : World) : Prop := 0 < w.heap.size ∧ ∀ j, j < 24 → w.cell? ⟨0, j, none⟩ = some (.string (strOf (partsT.getD j [])))
theorem TabP.below {w w' : World} {B : Nat} (h : TabP w) (hb : Below B w w') (hB : 0 < B) : TabP w' :=
  ⟨Nat.lt_of_lt_of_le h.1 hb.size, fun j hj => (hb.cell (p := ⟨0, j, none⟩) hB).trans (h.2 j hj)⟩
def isLetter (c : Nat) : Prop := c = 68 ∨ c = 65 ∨ c = 66 ∨ c = 78 ∨ c = 77 ∨ c = 110 ∨ c = 76
theorem partsT_letter : ∀ l ∈ partsT, ∀ c ∈ l, isLetter c := by
  unfold isLetter; decide
theorem partsN_letter (op : Int) : ∀ c ∈ partsN op, isLetter c := by
  unfold partsN
  split
  · simp
  · by_cases h : op.toNat < partsT.length
    · exact partsT_letter _ (by rw [List.getD, List.getElem?_eq_getElem h]; exact List.getElem_mem h)
    · rw [List.getD, List.getElem?_eq_none (by omega)]; simp
theorem partsN_len (op : Int) : (partsN op).length ≤ 3 := by
  unfold partsN
  split
  · simp
  · by_cases h : op.toNat < partsT.length
    · rw [List.getD, List.getElem?_eq_getElem h]
      have : ∀ l ∈ partsT, l.length ≤ 3 := by decide
      exact this _ (List.getElem_mem h)
    · rw [List.getD, List.getElem?_eq_none (by omega)]; simp
theorem strOf_size (l : List Nat) : (strOf l).size = l.length := by simp [strOf, ByteArray.size]
theorem strOf_get {l : List Nat} (hl : ∀ c ∈ l, isLetter c) {k c : Nat} (h : l[k]? = some c) (hk : k < (strOf l).size) : ((strOf l)[k]'hk).toNat = c := by
  have hc := hl c (List.mem_of_getElem? h)
  obtain ⟨hk', rfl⟩ := List.getElem?_eq_some_iff.1 h
  show ((l.map UInt8.ofNat).toArray[k]'(by simpa using hk')).toNat = l[k]
  simp only [List.getElem_toArray, List.getElem_map]
  have : l[k] < 256 := by unfold isLetter at hc; omega
  simp [UInt8.toNat_ofNat']
  omega
theorem next_letter {P : Program} (w : World) (h k c : Nat) (l : List Nat) (ty : TypeId) (hit : w.heap[h]? = some (.stringIter (strOf l) k)) (hl : ∀ c ∈ l, isLetter c) (hc : l[k]? = some c) :
    (Instr.next (.pointer (some ⟨h, 0, none⟩)) true ty).run P w = .ok (.tuple #[.bool true, .int .i64 k, .int .i32 (c : Int)]) (w.iterAt h (strOf l) (k + 1)) := by
  have hk : k < (strOf l).size := by rw [strOf_size]; exact (List.getElem?_eq_some_iff.1 hc).1
  have e := strOf_get hl hc hk
  have hlt : c < 128 := by have := hl c (List.mem_of_getElem? hc); unfold isLetter at this; omega
  rw [Lib.run_next_ascii_at w h _ k ty hit hk (by omega), e]
theorem next_end {P : Program} (w : World) (h k : Nat) (l : List Nat) (ty : TypeId) (hit : w.heap[h]? = some (.stringIter (strOf l) k)) (hk : l.length ≤ k) :
    (Instr.next (.pointer (some ⟨h, 0, none⟩)) true ty).run P w = .ok (.tuple #[.bool false]) w := Lib.run_next_end_at w h _ k ty hit (by rw [strOf_size]; omega)

theorem ret_str {a b : ByteArray} (h : a = b) : Ending.returned (.string a) = .returned (.string b) := by rw [h]
theorem parts_any (op : Int) (w : World) (hT : TabP w) (hop : i64R op) :
    Calls Tryd.prog 8 #[.int .i64 op] w fun e w' => e = .returned (.string (strOf (partsN op))) ∧ w = w' := by
  obtain ⟨h1, h2⟩ := hop
  by_cases h0 : op < 0
  · have he := hide (show strOf (partsN op) = ⟨#[]⟩ by unfold partsN; rw [if_pos h0]; rfl)
    go_enter Tryd.func8, Tryd.ntmps8
    go_wp2
    go_ret
    exact ⟨ret_str he.out.symm, rfl⟩
  · by_cases h24 : 24 ≤ op
    · have he := hide (show strOf (partsN op) = ⟨#[]⟩ by
        unfold partsN; rw [if_neg h0, List.getD, List.getElem?_eq_none (show partsT.length ≤ op.toNat by show 24 ≤ _; omega)]; rfl)
      go_enter Tryd.func8, Tryd.ntmps8
      go_wp2
      go_ret
      exact ⟨ret_str he.out.symm, rfl⟩
    · obtain ⟨j, rfl⟩ : ∃ j : Nat, op = j := ⟨op.toNat, by omega⟩
      have he := hide (show strOf (partsN j) = strOf (partsT.getD j []) by unfold partsN; rw [if_neg h0]; rfl)
      have hc := hT.2 j (by omega)
      have hs := hT.1
      have hj : j < 24 := by omega
      generalize strOf (partsT.getD j []) = s at *
      clear hT
      go_enter Tryd.func8, Tryd.ntmps8
      go_wp2
      go_ret
      exact ⟨ret_str he.out.symm, rfl⟩
theorem strOf_nil {l : List Nat} (h : l ≠ []) : (strOf l).toList ≠ [] := by simpa [strOf] using h
theorem isOp_yes (op : Int) (w : World) (hT : TabP w) (hop : i64R op) (h : partsN op ≠ []) :
    Calls Tryd.prog 41 #[.int .i64 op] w fun e w' => e = .returned (.bool true) ∧ w = w' := by
  have H := hide (parts_any op w hT hop)
  have hn := strOf_nil h
  generalize strOf (partsN op) = s at *
  clear hT h hop
  have hs : (!s.toList.isEmpty) = true := by simpa using hn
  go_enter Tryd.func41, Tryd.ntmps41
  go_wp2_with (go_at_call 8; refine H.out.mono ?_; rintro e w' ⟨rfl, rfl⟩)
  go_ret
  exact ⟨by simp [hn], rfl⟩
theorem isOp_no (op : Int) (w : World) (hT : TabP w) (hop : i64R op) (h : partsN op = []) :
    Calls Tryd.prog 41 #[.int .i64 op] w fun e w' => e = .returned (.bool false) ∧ w = w' := by
  have H := hide (parts_any op w hT hop)
  rw [h] at H
  clear hT h hop
  go_enter Tryd.func41, Tryd.ntmps41
  go_wp2_with (go_at_call 8; refine H.out.mono ?_; rintro e w' ⟨rfl, rfl⟩)
  go_ret
  exact ⟨by simp [strOf], rfl⟩

/-- A field by its letter. -/
def fidx (c : Nat) : Nat := if c = 68 then 1 else if c = 65 then 2 else if c = 66 then 3 else if c = 77 then 5 else 4
theorem field_any (g c : Nat) (w : World) (hc : isLetter c) :
    Calls Tryd.prog 43 #[.pointer (some ⟨g, 0, none⟩), .int .i32 (c : Int)] w fun e w' => e = .returned (.pointer (some ⟨g, fidx c, none⟩)) ∧ w = w' := by
  unfold isLetter at hc
  rcases hc with rfl | rfl | rfl | rfl | rfl | rfl | rfl
  all_goals
    go_enter Tryd.func43, Tryd.ntmps43
    go_wp2
    go_ret
    exact ⟨rfl, rfl⟩

def kindB (k : Int) : Bool := k == 0 || k == 1 || k == 2
theorem isKind_any (k : Int) (w : World) :
    Calls Tryd.prog 29 #[.int .i64 k] w fun e w' => e = .returned (.bool (kindB k)) ∧ w = w' := by
  unfold kindB
  go_enter Tryd.func29, Tryd.ntmps29
  go_wp2
  all_goals
    go_ret
    exact ⟨by simp_all, rfl⟩
def baseB (k b : Int) : Bool := if k = 2 then decide (0 ≤ b) else b == -1
theorem baseMay_any (k b : Int) (w : World) :
    Calls Tryd.prog 30 #[.int .i64 k, .int .i64 b] w fun e w' => e = .returned (.bool (baseB k b)) ∧ w = w' := by
  unfold baseB
  go_enter Tryd.func30, Tryd.ntmps30
  go_wp2
  all_goals
    go_ret
    exact ⟨by simp_all, rfl⟩

set_option maxRecDepth 100000 in
theorem allPut_any (va : Value) (zs : List Int) (w : World) (B : Nat) (hx : IntsV w (· < B) va zs) :
    Calls Tryd.prog 42 #[va] w fun e w' => e = .returned (.bool (zs.all fun z => decide (0 ≤ z))) ∧ w = w' := by
  obtain ⟨A, c, rfl, hc, hm⟩ := hx.open'
  obtain ⟨n, hn⟩ : ∃ n, zs.length = n := ⟨_, rfl⟩
  rw [hn] at hx hc ⊢
  have HN := hide hn
  have HX := hide hx
  clear hn hx
  go_enter Tryd.func42, Tryd.ntmps42
  go_wp2
  go_loop [7] (fun i => ∃ k : Nat, k ≤ n ∧ i = .int .i64 k ∧ Hid ((zs.take k).all (fun z => decide (0 ≤ z)) = true)) (fun i => n - (intOf i).toNat)
  case atStart => exact ⟨0, Nat.zero_le _, rfl, hide (by simp)⟩
  case round =>
    obtain ⟨k, hk, rfl, hall⟩ := hrel
    by_cases hlt : k < n
    · obtain ⟨y, hy⟩ : ∃ y, zs[k]? = some y := ⟨_, List.getElem?_eq_getElem (by have := HN.out; omega)⟩
      obtain ⟨b, o, rfl, hbb, e0, -⟩ := HX.out.get hy
      have HY := hide hy
      clear hy
      by_cases h0 : y < 0
      · go_wp2
        go_ret
        exact ⟨ret_bool (allB_not HY.out (by simp; omega)).symm, rfl⟩
      · go_wp2
        go_round
        case rel => exact ⟨k + 1, by omega, by go_num, hide (allB_take hall.out HY.out (by simp; omega))⟩
        case measure => simp [intOf]; omega
    · go_wp2
      go_ret
      exact ⟨ret_bool (allB_end hall.out HN.out (by omega)).symm, rfl⟩
end Go.Proofs.YtkimocfofihjbaaDoor
namespace Go.Proofs.YtkimocfofihjbaaDoor
open Go.RowKit

theorem len_le {A : Option Addr} {n c : Nat} {w : World} {S : Nat → Prop} {xs : List Int} (h : IntsV w S (.slice A n c) xs) : n ≤ 9223372036854775807 ∧ xs.length = n := by
  obtain ⟨A', c', e, h1, h2, -⟩ := h
  injection e with _ e1 e2
  omega

set_option maxRecDepth 100000 in
theorem equal_any (va vb : Value) (xs ys : List Int) (w : World) (B : Nat) (hx : IntsV w (· < B) va xs) (hy : IntsV w (· < B) vb ys) :
    Calls Tryd.prog 50 #[va, vb] w fun e w' => e = .returned (.bool (decide (xs = ys))) ∧ ∃ q, w' = w.drewN q := by
  obtain ⟨A, c, rfl, -, -⟩ := hx.open'
  obtain ⟨A', c', rfl, -, -⟩ := hy.open'
  obtain ⟨n, hn⟩ : ∃ n, xs.length = n := ⟨_, rfl⟩
  obtain ⟨m, hm⟩ : ∃ m, ys.length = m := ⟨_, rfl⟩
  rw [hn] at hx ⊢
  rw [hm] at hy ⊢
  have hnl := (len_le hx).1
  have hml := (len_le hy).1
  by_cases hne : n = m
  · subst hne
    have HX := hide hx
    have HY := hide hy
    have HN := hide hn
    have HM := hide hm
    clear hx hy hn hm
    go_enter Tryd.func50, Tryd.ntmps50
    go_wp2
    go_loopw [13] (fun i wr => ∃ (k : Nat) (q : Nat), k ≤ n ∧ i = .int .i64 k ∧ Hid (xs.take k = ys.take k) ∧ wr = w.drewN q) (fun i _ => n - (intOf i).toNat)
    case atStart => exact ⟨0, 0, Nat.zero_le _, rfl, hide (by simp), rfl⟩
    case round =>
      obtain ⟨k, q, hk, rfl, he, rfl⟩ := hrel
      by_cases hlt : k < n
      · obtain ⟨x, hxx⟩ : ∃ x, xs[k]? = some x := ⟨_, List.getElem?_eq_getElem (by have := HN.out; omega)⟩
        obtain ⟨y, hyy⟩ : ∃ y, ys[k]? = some y := ⟨_, List.getElem?_eq_getElem (by have := HM.out; omega)⟩
        obtain ⟨b1, o1, rfl, -, g1, -⟩ := HX.out.get hxx
        obtain ⟨b2, o2, rfl, -, g2, -⟩ := HY.out.get hyy
        have H1 := hide hxx
        have H2 := hide hyy
        clear hxx hyy
        by_cases hxy : x = y
        · subst hxy
          have hb : (x != x) = false := by simp
          have ht := hide (take_step he.out H1.out H2.out)
          go_wp2
          go_quiet (fail)
          go_wp2
          go_roundw
          case rel => exact ⟨k + 1, _, by omega, by go_num, ht, rfl⟩
          case measure => simp [intOf]; omega
        · have hb : (x != y) = true := by rw [bne_iff_ne]; exact hxy
          have hd := hide (decide_eq_false (show ¬ xs = ys from fun h => by
            have h1 := H1.out
            rw [h, H2.out] at h1
            exact hxy (Option.some.inj h1).symm))
          clear hxy
          go_wp2
          go_quiet (fail)
          go_wp2
          go_ret
          exact ⟨ret_bool hd.out.symm, _, by rw [World.drewN_drewN]⟩
      · have hd := hide (decide_eq_true (show xs = ys by
          have h := he.out
          rwa [List.take_of_length_le (by have := HN.out; omega), List.take_of_length_le (by have := HM.out; omega)] at h))
        go_wp2
        go_ret
        exact ⟨ret_bool hd.out.symm, q, rfl⟩
  · have hd := hide (decide_eq_false (show ¬ xs = ys from fun h => by rw [h] at hn; omega))
    have hb : (((n : Nat) : Int) != ((m : Nat) : Int)) = true := by simp; omega
    clear hn hm hne hx hy
    go_enter Tryd.func50, Tryd.ntmps50
    go_wp2
    go_ret
    exact ⟨ret_bool hd.out.symm, 0, rfl⟩

def insAgg (x : InsV) (va : Value) : Value := .agg #[.int .i64 x.op, .int .i64 x.d, .int .i64 x.a, .int .i64 x.b, .int .i64 x.n, .int .i64 x.m, va]
theorem below_alloc2_drewN {w : World} (o1 o2 : Obj) (q : Nat) : Below w.heap.size w (((w.alloc o1).alloc o2).drewN q) := below_drewN (alloc2 w o1 o2) q
theorem ins_eq (x y : InsV) : decide (x = y) = (decide (x.op = y.op) && (decide (x.d = y.d) && (decide (x.a = y.a) && (decide (x.b = y.b) && (decide (x.n = y.n) && (decide (x.m = y.m) && decide (x.args = y.args))))))) := by
  obtain ⟨o, d, a, b, n, m, l⟩ := x
  obtain ⟨o', d', a', b', n', m', l'⟩ := y
  simp [Bool.decide_and]

set_option maxRecDepth 100000 in
theorem sameIns_any (va vb : Value) (x y : InsV) (w : World) (B : Nat) (hB : B ≤ w.heap.size) (hx : IntsV w (· < B) va x.args) (hy : IntsV w (· < B) vb y.args) :
    Calls Tryd.prog 44 #[.agg #[.int .i64 x.op, .int .i64 x.d, .int .i64 x.a, .int .i64 x.b, .int .i64 x.n, .int .i64 x.m, va], .agg #[.int .i64 y.op, .int .i64 y.d, .int .i64 y.a, .int .i64 y.b, .int .i64 y.n, .int .i64 y.m, vb]] w fun e w' => e = .returned (.bool (decide (x = y))) ∧ Below w.heap.size w w' := by
  have hE := fun (W : World) (hW : Below w.heap.size w W) => equal_any va vb x.args y.args W B (hx.keep (up hW hB) (fun _ h => h)) (hy.keep (up hW hB) (fun _ h => h))
  obtain ⟨A, c, rfl, -, -⟩ := hx.open'
  obtain ⟨A', c', rfl, -, -⟩ := hy.open'
  rw [ins_eq]
  generalize x.args.length = lx at *
  generalize y.args.length = ly at *
  generalize x.op = p0, x.d = p1, x.a = p2, x.b = p3, x.n = p4, x.m = p5, y.op = q0, y.d = q1, y.a = q2, y.b = q3, y.n = q4, y.m = q5 at *
  generalize decide (x.args = y.args) = be at *
  have HE := hide hE
  clear hE hx hy
  by_cases h0 : p0 = q0
  · subst h0
    by_cases h1 : p1 = q1
    · subst h1
      by_cases h2 : p2 = q2
      · subst h2
        by_cases h3 : p3 = q3
        · subst h3
          by_cases h4 : p4 = q4
          · subst h4
            by_cases h5 : p5 = q5
            · subst h5
              go_enter Tryd.func44, Tryd.ntmps44
              go_wp2_with (go_at_call 50; refine (HE.out _ (alloc2 w _ _)).mono ?_; rintro e w' ⟨rfl, q, rfl⟩)
              go_ret
              exact ⟨by simp, below_alloc2_drewN _ _ _⟩
            · have hb : (p5 == q5) = false := by simpa using h5
              have hd : decide (p5 = q5) = false := by simpa using h5
              clear h5
              go_enter Tryd.func44, Tryd.ntmps44
              go_wp2
              go_ret
              exact ⟨by simp [hd], alloc2 w _ _⟩
          · have hb : (p4 == q4) = false := by simpa using h4
            have hd : decide (p4 = q4) = false := by simpa using h4
            clear h4
            go_enter Tryd.func44, Tryd.ntmps44
            go_wp2
            go_ret
            exact ⟨by simp [hd], alloc2 w _ _⟩
        · have hb : (p3 == q3) = false := by simpa using h3
          have hd : decide (p3 = q3) = false := by simpa using h3
          clear h3
          go_enter Tryd.func44, Tryd.ntmps44
          go_wp2
          go_ret
          exact ⟨by simp [hd], alloc2 w _ _⟩
      · have hb : (p2 == q2) = false := by simpa using h2
        have hd : decide (p2 = q2) = false := by simpa using h2
        clear h2
        go_enter Tryd.func44, Tryd.ntmps44
        go_wp2
        go_ret
        exact ⟨by simp [hd], alloc2 w _ _⟩
    · have hb : (p1 == q1) = false := by simpa using h1
      have hd : decide (p1 = q1) = false := by simpa using h1
      clear h1
      go_enter Tryd.func44, Tryd.ntmps44
      go_wp2
      go_ret
      exact ⟨by simp [hd], alloc2 w _ _⟩
  · have hb : (p0 == q0) = false := by simpa using h0
    have hd : decide (p0 = q0) = false := by simpa using h0
    clear h0
    go_enter Tryd.func44, Tryd.ntmps44
    go_wp2
    go_ret
    exact ⟨by simp [hd], alloc2 w _ _⟩
end Go.Proofs.YtkimocfofihjbaaDoor
namespace Go.Proofs.YtkimocfofihjbaaDoor
open Go.RowKit

theorem list_ne {α : Type} {xs ys : List α} {k : Nat} {x y : α} (h1 : xs[k]? = some x) (h2 : ys[k]? = some y) (hxy : ¬ x = y) : ¬ xs = ys := fun h => by
  rw [h, h2] at h1
  exact hxy (Option.some.inj h1).symm
theorem take_more {α : Type} {xs ys : List α} {k : Nat} {x : α} (h : xs.take k = ys.take k) (h1 : xs[k]? = some x) (h2 : ys[k]? = some x) : xs.take (k + 1) = ys.take (k + 1) := by
  rw [List.take_add_one, List.take_add_one, h, h1, h2]

end Go.Proofs.YtkimocfofihjbaaDoor
namespace Go.Proofs.YtkimocfofihjbaaDoor
open Go.RowKit

theorem fun_eq (x y : FunV) : decide (x = y) = (decide (x.params = y.params) && (decide (x.result = y.result) && (decide (x.kinds = y.kinds) && (decide (x.base = y.base) && decide (x.blocks = y.blocks))))) := by
  obtain ⟨k, b, p, r, l⟩ := x
  obtain ⟨k', b', p', r', l'⟩ := y
  rw [Bool.eq_iff_iff]
  simp
  constructor
  · rintro ⟨h1, h2, h3, h4, h5⟩; exact ⟨h3, h4, h1, h2, h5⟩
  · rintro ⟨h3, h4, h1, h2, h5⟩; exact ⟨h1, h2, h3, h4, h5⟩

end Go.Proofs.YtkimocfofihjbaaDoor
namespace Go.Proofs.YtkimocfofihjbaaDoor
open Go.RowKit

def fieldOf (c : Nat) (x : InsV) : Int := if c = 68 then x.d else if c = 65 then x.a else if c = 66 then x.b else if c = 77 then x.m else x.n
def setF (c : Nat) (v : Int) (x : InsV) : InsV := if c = 68 then { x with d := v } else if c = 65 then { x with a := v } else if c = 66 then { x with b := v } else if c = 77 then { x with m := v } else { x with n := v }
def bare (op : Int) : InsV := ⟨op, 0, 0, 0, 0, 0, []⟩
/-- What is left to be asked of an instruction: its parts from here on, and what it has without those before. -/
def mayL (x : InsV) : List Nat → InsV → Bool
  | [], r => decide (r = bare x.op)
  | c :: cs, r => if c = 110 then mayL x cs { r with n := 0 } else if c = 76 then x.args.all (fun z => decide (0 ≤ z)) && mayL x cs { r with args := [] } else decide (0 ≤ fieldOf c r) && mayL x cs (setF c 0 r)
def insMayB (x : InsV) : Bool := !(partsN x.op).isEmpty && mayL x (partsN x.op) x
def varMayB (kb : Int × Int) : Bool := kindB kb.1 && baseB kb.1 kb.2
def funMayB (f : FunV) : Bool := (decide (f.base.length = f.kinds.length) && (decide (0 ≤ f.params) && decide (0 ≤ f.result))) && ((f.kinds.zip f.base).all varMayB && f.blocks.all (fun b => b.all insMayB))

theorem mayL_n {x : InsV} {cs : List Nat} {r : InsV} : mayL x (110 :: cs) r = mayL x cs { r with n := 0 } := rfl
theorem mayL_l {x : InsV} {cs : List Nat} {r : InsV} : mayL x (76 :: cs) r = (x.args.all (fun z => decide (0 ≤ z)) && mayL x cs { r with args := [] }) := rfl
theorem drop_cons {α : Type} {l : List α} {k : Nat} {c : α} (h : l[k]? = some c) : l.drop k = c :: l.drop (k + 1) := by
  obtain ⟨hk, rfl⟩ := List.getElem?_eq_some_iff.1 h
  exact List.drop_eq_getElem_cons hk
theorem drop_end {α : Type} {l : List α} {k : Nat} (h : l.length ≤ k) : l.drop k = [] := List.drop_of_length_le h
end Go.Proofs.YtkimocfofihjbaaDoor
namespace Go.Proofs.YtkimocfofihjbaaDoor
open Go.RowKit

abbrev insBox (x : InsV) (va : Value) : Array Value := #[.int .i64 x.op, .int .i64 x.d, .int .i64 x.a, .int .i64 x.b, .int .i64 x.n, .int .i64 x.m, va]
/-- The loop over the letters in insMay. -/
def MayRel (x : InsV) (w : World) (B : Nat) (A : Option Addr) (n c : Nat) (wr : World) : Prop :=
  ∃ (k : Nat) (r : InsV) (A' : Option Addr) (n' c' : Nat), k ≤ (partsN x.op).length ∧ wr.heap[w.heap.size + 2]? = some (.stringIter (strOf (partsN x.op)) k) ∧ Box wr w.heap.size (insBox x (.slice A n c)) 40 ∧ Box wr (w.heap.size + 1) (insBox r (.slice A' n' c')) 40 ∧
    IntsV w (· < B) (.slice A' n' c') r.args ∧ r.op = x.op ∧ Below w.heap.size w wr ∧ Hid (mayL x (partsN x.op) x = mayL x ((partsN x.op).drop k) r)

theorem field_at (g c i : Nat) (w : World) (hc : isLetter c) (hi : fidx c = i) :
    Calls Tryd.prog 43 #[.pointer (some ⟨g, 0, none⟩), .int .i32 (c : Int)] w fun e w' => e = .returned (.pointer (some ⟨g, i, none⟩)) ∧ w = w' := hi ▸ field_any g c w hc
theorem iterPos_of {w : World} {h : Nat} {s : ByteArray} {k : Nat} (hit : w.heap[h]? = some (.stringIter s k)) : w.iterPos h = k := by simp [World.iterPos, hit]
theorem iter_set {w : World} {h g j : Nat} {s : ByteArray} {k : Nat} {v : Value} (hit : w.heap[h]? = some (.stringIter s k)) (hg : h ≠ g) : (w.setCell ⟨g, j, none⟩ v).heap[h]? = some (.stringIter s k) := (heap_setCell_other w ⟨g, j, none⟩ h v hg).trans hit
theorem iter_lt {w : World} {h : Nat} {s : ByteArray} {k : Nat} (hit : w.heap[h]? = some (.stringIter s k)) : h < w.heap.size := (Array.getElem?_eq_some_iff.1 hit).1

set_option maxRecDepth 100000 in
theorem insMay_any (va : Value) (x : InsV) (w : World) (B : Nat) (hB : B ≤ w.heap.size) (hT : TabP w) (hx : InsI w (· < B) va x) :
    Calls Tryd.prog 31 #[.agg #[.int .i64 x.op, .int .i64 x.d, .int .i64 x.a, .int .i64 x.b, .int .i64 x.n, .int .i64 x.m, va]] w fun e w' => e = .returned (.bool (insMayB x)) ∧ Below w.heap.size w w' := by
  obtain ⟨hx, ⟨hop, -⟩⟩ := hx
  have hP := fun (W : World) (hW : Below w.heap.size w W) => parts_any x.op W (hT.below hW hT.1) hop
  have hS := fun (y : InsV) (vy : Value) (W : World) (hW : Below w.heap.size w W) (hy : IntsV w (· < B) vy y.args) => sameIns_any vy (.slice none 0 0) y (bare x.op) W B (by have := hW.size; omega) (hy.keep (up hW hB) (fun _ h => h)) (Vec.nil _ _ _)
  have hA := fun (W : World) (hW : Below w.heap.size w W) => allPut_any va x.args W B (hx.keep (up hW hB) (fun _ h => h))
  obtain ⟨A, c, rfl, -, -⟩ := hx.open'
  obtain ⟨n, hn⟩ : ∃ n, x.args.length = n := ⟨_, rfl⟩
  rw [hn] at hx hA ⊢
  have HX := hide hx
  by_cases hpn : partsN x.op = []
  · have H1 := hide (fun (W : World) (hW : Below w.heap.size w W) => isOp_no x.op W (hT.below hW hT.1) hop hpn)
    have hv := hide (show insMayB x = false by unfold insMayB; rw [hpn]; rfl)
    clear hpn hS hA hP hx hn hop hT
    go_enter Tryd.func31, Tryd.ntmps31
    go_wp2_with (go_at_call 41; refine (H1.out _ ((Below.refl _ _).alloc (Nat.le_refl _) _)).mono ?_; rintro e w' ⟨rfl, rfl⟩)
    go_ret
    exact ⟨ret_bool hv.out.symm, (Below.refl _ _).alloc (Nat.le_refl _) _⟩
  · have H1 := hide (fun (W : World) (hW : Below w.heap.size w W) => isOp_yes x.op W (hT.below hW hT.1) hop hpn)
    have hv := hide (show insMayB x = mayL x (partsN x.op) x by unfold insMayB; cases h : partsN x.op with | nil => exact absurd h hpn | cons a b => rfl)
    have HP := hide hP
    have HS := hide hS
    have HA := hide hA
    have HT := hide hT
    have HL := hide (partsN_letter x.op)
    clear hpn hS hA hP hx hn hop hT
    go_enter Tryd.func31, Tryd.ntmps31
    go_wp2_with (first
      | (go_at_call 41; refine (H1.out _ ((Below.refl _ _).alloc (Nat.le_refl _) _)).mono ?_; rintro e w' ⟨rfl, rfl⟩)
      | (go_at_call 8; refine (HP.out _ (alloc2 w _ _)).mono ?_; rintro e w' ⟨rfl, rfl⟩))
    go_loopw [] (fun wr => MayRel x w B A n c wr) (fun wr => (partsN x.op).length - wr.iterPos (w.heap.size + 2))
    case atStart =>
      refine ⟨0, x, A, n, c, Nat.zero_le _, ?_, (((Box.new w _ _).alloc _).alloc _), ?_, HX.out, rfl, (alloc2 w _ _).alloc (by simp; omega) _, hide (by simp)⟩
      · have := World.iter_heap ((w.alloc (.cells (insBox x (.slice A n c)) 40)).alloc (.cells (insBox x (.slice A n c)) 40)) (strOf (partsN x.op)) 0
        simpa using this
      · have := (Box.new (w.alloc (.cells (insBox x (.slice A n c)) 40)) (insBox x (.slice A n c)) 40).alloc (.stringIter (strOf (partsN x.op)) 0)
        rw [World.size_alloc] at this
        exact this
    case round =>
      obtain ⟨k, r, A', n', c', hk, hit, hbx, hbr, hr, hro, hb, hm⟩ := hrel
      have hsz := hb.size
      have hpos0 := iterPos_of hit
      have hlt2 := iter_lt hit
      by_cases hlt : k < (partsN x.op).length
      · obtain ⟨c0, hc0⟩ : ∃ c0, (partsN x.op)[k]? = some c0 := ⟨_, List.getElem?_eq_getElem hlt⟩
        have hlc := HL.out c0 (List.mem_of_getElem? hc0)
        have hnx : ∀ ty, (Instr.next (.pointer (some ⟨w.heap.size + 2, 0, none⟩)) true ty).run Tryd.prog wr = _ := fun ty => next_letter wr (w.heap.size + 2) k c0 _ ty hit HL.out hc0
        have hit2 := Lib.iterAt_heap wr (w.heap.size + 2) (strOf (partsN x.op)) k (k + 1) hit
        have hbx2 := hbx.iter (k := w.heap.size + 2) (s := strOf (partsN x.op)) (p := k + 1) (by omega)
        have hbr2 := hbr.iter (k := w.heap.size + 2) (s := strOf (partsN x.op)) (p := k + 1) (by omega)
        have hbw2 := Lib.below_iterAt hb (k := w.heap.size + 2) (by omega) (strOf (partsN x.op)) (k + 1)
        obtain ⟨W1, hW1⟩ : ∃ W1, W1 = wr.iterAt (w.heap.size + 2) (strOf (partsN x.op)) (k + 1) := ⟨_, rfl⟩
        rw [← hW1] at hnx hit2 hbx2 hbr2 hbw2
        rw [drop_cons hc0] at hm
        have HM := hide hm
        have HBX := hide hbx2
        have HBR := hide hbr2
        have HIT := hide hit2
        have HR := hide hr
        have HRO := hide hro
        have HK := hide hlt
        have HP0 := hide hpos0
        have x6 := (hbx2.cell 6 (v := .slice A n c) rfl).1
        obtain ⟨y1, z1⟩ := hbr2.cell 1 (v := .int .i64 r.d) rfl
        obtain ⟨y2, z2⟩ := hbr2.cell 2 (v := .int .i64 r.a) rfl
        obtain ⟨y3, z3⟩ := hbr2.cell 3 (v := .int .i64 r.b) rfl
        obtain ⟨y4, z4⟩ := hbr2.cell 4 (v := .int .i64 r.n) rfl
        obtain ⟨y5, z5⟩ := hbr2.cell 5 (v := .int .i64 r.m) rfl
        obtain ⟨y6, z6⟩ := hbr2.cell 6 (v := .slice A' n' c') rfl
        have hq1 := hbx2.lt
        have hq2 := hbr2.lt
        clear hW1 hit hbx hbr hb hm hit2 hbx2 hbr2 hr hro hc0 hsz hlt2 hpos0 hlt
        unfold isLetter at hlc
        rcases hlc with rfl | rfl | rfl | rfl | rfl | rfl | rfl
        · by_cases h0 : r.d < 0
          · have hv2 := hide (show insMayB x = false by rw [hv.out, HM.out.out, mayL, if_neg (by omega), if_neg (by omega)]; simp [fieldOf]; omega)
            go_wp2_with (go_at_call 43; refine (field_at _ 68 1 _ (by unfold isLetter; omega) rfl).mono ?_; rintro e w' ⟨rfl, rfl⟩)
            go_ret
            exact ⟨ret_bool hv2.out.symm, hbw2⟩
          have hst := hide (show mayL x (68 :: (partsN x.op).drop (k + 1)) r = mayL x ((partsN x.op).drop (k + 1)) { r with d := 0 } by rw [mayL, if_neg (by omega), if_neg (by omega)]; simp [fieldOf, setF]; omega)
          go_wp2_with (go_at_call 43; refine (field_at _ 68 1 _ (by unfold isLetter; omega) rfl).mono ?_; rintro e w' ⟨rfl, rfl⟩)
          go_roundw
          case rel => exact ⟨k + 1, { r with d := 0 }, A', n', c', HK.out, iter_set HIT.out (by omega), HBX.out.other (by omega), HBR.out.set 1 _, HR.out, HRO.out, hbw2.setCell (by simp) _, hide (by rw [HM.out.out]; exact hst.out)⟩
          case measure => rw [iterPos_of (iter_set HIT.out (by omega)), HP0.out]; have := HK.out; omega
        · by_cases h0 : r.a < 0
          · have hv2 := hide (show insMayB x = false by rw [hv.out, HM.out.out, mayL, if_neg (by omega), if_neg (by omega)]; simp [fieldOf]; omega)
            go_wp2_with (go_at_call 43; refine (field_at _ 65 2 _ (by unfold isLetter; omega) rfl).mono ?_; rintro e w' ⟨rfl, rfl⟩)
            go_ret
            exact ⟨ret_bool hv2.out.symm, hbw2⟩
          have hst := hide (show mayL x (65 :: (partsN x.op).drop (k + 1)) r = mayL x ((partsN x.op).drop (k + 1)) { r with a := 0 } by rw [mayL, if_neg (by omega), if_neg (by omega)]; simp [fieldOf, setF]; omega)
          go_wp2_with (go_at_call 43; refine (field_at _ 65 2 _ (by unfold isLetter; omega) rfl).mono ?_; rintro e w' ⟨rfl, rfl⟩)
          go_roundw
          case rel => exact ⟨k + 1, { r with a := 0 }, A', n', c', HK.out, iter_set HIT.out (by omega), HBX.out.other (by omega), HBR.out.set 2 _, HR.out, HRO.out, hbw2.setCell (by simp) _, hide (by rw [HM.out.out]; exact hst.out)⟩
          case measure => rw [iterPos_of (iter_set HIT.out (by omega)), HP0.out]; have := HK.out; omega
        · by_cases h0 : r.b < 0
          · have hv2 := hide (show insMayB x = false by rw [hv.out, HM.out.out, mayL, if_neg (by omega), if_neg (by omega)]; simp [fieldOf]; omega)
            go_wp2_with (go_at_call 43; refine (field_at _ 66 3 _ (by unfold isLetter; omega) rfl).mono ?_; rintro e w' ⟨rfl, rfl⟩)
            go_ret
            exact ⟨ret_bool hv2.out.symm, hbw2⟩
          have hst := hide (show mayL x (66 :: (partsN x.op).drop (k + 1)) r = mayL x ((partsN x.op).drop (k + 1)) { r with b := 0 } by rw [mayL, if_neg (by omega), if_neg (by omega)]; simp [fieldOf, setF]; omega)
          go_wp2_with (go_at_call 43; refine (field_at _ 66 3 _ (by unfold isLetter; omega) rfl).mono ?_; rintro e w' ⟨rfl, rfl⟩)
          go_roundw
          case rel => exact ⟨k + 1, { r with b := 0 }, A', n', c', HK.out, iter_set HIT.out (by omega), HBX.out.other (by omega), HBR.out.set 3 _, HR.out, HRO.out, hbw2.setCell (by simp) _, hide (by rw [HM.out.out]; exact hst.out)⟩
          case measure => rw [iterPos_of (iter_set HIT.out (by omega)), HP0.out]; have := HK.out; omega
        · by_cases h0 : r.n < 0
          · have hv2 := hide (show insMayB x = false by rw [hv.out, HM.out.out, mayL, if_neg (by omega), if_neg (by omega)]; simp [fieldOf]; omega)
            go_wp2_with (go_at_call 43; refine (field_at _ 78 4 _ (by unfold isLetter; omega) rfl).mono ?_; rintro e w' ⟨rfl, rfl⟩)
            go_ret
            exact ⟨ret_bool hv2.out.symm, hbw2⟩
          have hst := hide (show mayL x (78 :: (partsN x.op).drop (k + 1)) r = mayL x ((partsN x.op).drop (k + 1)) { r with n := 0 } by rw [mayL, if_neg (by omega), if_neg (by omega)]; simp [fieldOf, setF]; omega)
          go_wp2_with (go_at_call 43; refine (field_at _ 78 4 _ (by unfold isLetter; omega) rfl).mono ?_; rintro e w' ⟨rfl, rfl⟩)
          go_roundw
          case rel => exact ⟨k + 1, { r with n := 0 }, A', n', c', HK.out, iter_set HIT.out (by omega), HBX.out.other (by omega), HBR.out.set 4 _, HR.out, HRO.out, hbw2.setCell (by simp) _, hide (by rw [HM.out.out]; exact hst.out)⟩
          case measure => rw [iterPos_of (iter_set HIT.out (by omega)), HP0.out]; have := HK.out; omega
        · by_cases h0 : r.m < 0
          · have hv2 := hide (show insMayB x = false by rw [hv.out, HM.out.out, mayL, if_neg (by omega), if_neg (by omega)]; simp [fieldOf]; omega)
            go_wp2_with (go_at_call 43; refine (field_at _ 77 5 _ (by unfold isLetter; omega) rfl).mono ?_; rintro e w' ⟨rfl, rfl⟩)
            go_ret
            exact ⟨ret_bool hv2.out.symm, hbw2⟩
          have hst := hide (show mayL x (77 :: (partsN x.op).drop (k + 1)) r = mayL x ((partsN x.op).drop (k + 1)) { r with m := 0 } by rw [mayL, if_neg (by omega), if_neg (by omega)]; simp [fieldOf, setF]; omega)
          go_wp2_with (go_at_call 43; refine (field_at _ 77 5 _ (by unfold isLetter; omega) rfl).mono ?_; rintro e w' ⟨rfl, rfl⟩)
          go_roundw
          case rel => exact ⟨k + 1, { r with m := 0 }, A', n', c', HK.out, iter_set HIT.out (by omega), HBX.out.other (by omega), HBR.out.set 5 _, HR.out, HRO.out, hbw2.setCell (by simp) _, hide (by rw [HM.out.out]; exact hst.out)⟩
          case measure => rw [iterPos_of (iter_set HIT.out (by omega)), HP0.out]; have := HK.out; omega
        · go_wp2
          go_roundw
          case rel => exact ⟨k + 1, { r with n := 0 }, A', n', c', HK.out, iter_set HIT.out (by omega), HBX.out.other (by omega), HBR.out.set 4 _, HR.out, HRO.out, hbw2.setCell (by simp) _, hide (by rw [HM.out.out]; exact mayL_n)⟩
          case measure => rw [iterPos_of (iter_set HIT.out (by omega)), HP0.out]; have := HK.out; omega
        · by_cases h0 : (x.args.all fun z => decide (0 ≤ z)) = true
          · have hst := hide (show mayL x (76 :: (partsN x.op).drop (k + 1)) r = mayL x ((partsN x.op).drop (k + 1)) { r with args := [] } by rw [mayL_l, h0]; rfl)
            rw [h0] at HA
            clear h0
            go_wp2_with (go_at_call 42; refine (HA.out _ hbw2).mono ?_; rintro e w' ⟨rfl, rfl⟩)
            go_roundw
            case rel => exact ⟨k + 1, { r with args := [] }, none, 0, 0, HK.out, iter_set HIT.out (by omega), HBX.out.other (by omega), HBR.out.set 6 _, Vec.nil _ _ _, HRO.out, hbw2.setCell (by simp) _, hide (by rw [HM.out.out]; exact hst.out)⟩
            case measure => rw [iterPos_of (iter_set HIT.out (by omega)), HP0.out]; have := HK.out; omega
          · have hv2 := hide (show insMayB x = false by rw [hv.out, HM.out.out, mayL_l, Bool.eq_false_iff.2 h0]; rfl)
            rw [Bool.eq_false_iff.2 h0] at HA
            clear h0
            go_wp2_with (go_at_call 42; refine (HA.out _ hbw2).mono ?_; rintro e w' ⟨rfl, rfl⟩)
            go_ret
            exact ⟨ret_bool hv2.out.symm, hbw2⟩
      · have hnx : ∀ ty, (Instr.next (.pointer (some ⟨w.heap.size + 2, 0, none⟩)) true ty).run Tryd.prog wr = _ := fun ty => next_end wr (w.heap.size + 2) k _ ty hit (by omega)
        have hv2 := hide (show insMayB x = decide (r = bare x.op) by rw [hv.out, hm.out, drop_end (by omega)]; rfl)
        have x0 := (hbx.cell 0 (v := .int .i64 x.op) rfl).1
        have y0 := (hbr.cell 0 (v := .int .i64 x.op) (by rw [← hro]; rfl)).1
        have y1 := (hbr.cell 1 (v := .int .i64 r.d) rfl).1
        have y2 := (hbr.cell 2 (v := .int .i64 r.a) rfl).1
        have y3 := (hbr.cell 3 (v := .int .i64 r.b) rfl).1
        have y4 := (hbr.cell 4 (v := .int .i64 r.n) rfl).1
        have y5 := (hbr.cell 5 (v := .int .i64 r.m) rfl).1
        have y6 := (hbr.cell 6 (v := .slice A' n' c') rfl).1
        have hq1 := hbx.lt
        have hq2 := hbr.lt
        have HC := hide (HS.out r (.slice A' n' c') wr hb hr)
        rw [hro] at HC
        have HB := hide hb
        clear hit hbx hbr hb hm hr hro hpos0 hlt
        go_wp2_with (go_at_call 44; refine HC.out.mono ?_; rintro e w1 ⟨rfl, hb1⟩)
        go_ret
        exact ⟨ret_bool hv2.out.symm, HB.out.trans (hb1.mono HB.out.size)⟩
end Go.Proofs.YtkimocfofihjbaaDoor
namespace Go.Proofs.YtkimocfofihjbaaDoor
open Go.RowKit

theorem zip_get {xs ys : List Int} {k : Nat} {x y : Int} (h1 : xs[k]? = some x) (h2 : ys[k]? = some y) : (xs.zip ys)[k]? = some (x, y) := by
  rw [List.getElem?_zip_eq_some]; exact ⟨h1, h2⟩
theorem alloc1 (w : World) (o : Obj) : Below w.heap.size w (w.alloc o) := (Below.refl _ _).alloc (Nat.le_refl _) _

set_option maxHeartbeats 1000000 in
set_option maxRecDepth 100000 in
theorem funcMay_any (vk vb vs : Value) (f : FunV) (w : World) (B : Nat) (hB : B ≤ w.heap.size) (hT : TabP w) (hf : FunI w (· < B) vk vb vs f) :
    Calls Tryd.prog 18 #[.agg #[vk, vb, .int .i64 f.params, .int .i64 f.result, vs]] w fun e w' => e = .returned (.bool (funMayB f)) ∧ Below w.heap.size w w' := by
  obtain ⟨hk, hb, hs, -, -⟩ := hf
  obtain ⟨Ak, ck, rfl, -, -⟩ := hk.open'
  obtain ⟨Ab, cb, rfl, -, -⟩ := hb.open'
  obtain ⟨As, cs, rfl, hsc, hsm⟩ := hs.open'
  obtain ⟨n, hn⟩ : ∃ n, f.kinds.length = n := ⟨_, rfl⟩
  obtain ⟨m, hm⟩ : ∃ m, f.base.length = m := ⟨_, rfl⟩
  obtain ⟨l, hl⟩ : ∃ l, f.blocks.length = l := ⟨_, rfl⟩
  have HV := hide (show funMayB f = ((decide (m = n) && (decide (0 ≤ f.params) && decide (0 ≤ f.result))) && ((f.kinds.zip f.base).all varMayB && f.blocks.all (fun b => b.all insMayB))) by unfold funMayB; rw [hn, hm])
  rw [hn] at hk ⊢
  rw [hm] at hb ⊢
  rw [hl] at hs hsc ⊢
  have hnl := (len_le hk).1
  have HK := hide hk; have HBs := hide hb; have HS := hide hs; have HN := hide hn; have HM := hide hm; have HL := hide hl; have HT := hide hT
  clear hk hb hs hn hm hl hT
  generalize f.params = fp at *
  generalize f.result = fr at *
  by_cases hmn : m = n
  · subst hmn
    by_cases hp : fp < 0
    · have hv := hide (show funMayB f = false by rw [HV.out]; simp [show ¬ 0 ≤ fp by omega])
      go_enter Tryd.func18, Tryd.ntmps18
      go_wp2
      go_ret
      exact ⟨ret_bool hv.out.symm, alloc1 w _⟩
    · by_cases hr : fr < 0
      · have hv := hide (show funMayB f = false by rw [HV.out]; simp [show ¬ 0 ≤ fr by omega])
        go_enter Tryd.func18, Tryd.ntmps18
        go_wp2
        go_ret
        exact ⟨ret_bool hv.out.symm, alloc1 w _⟩
      · have hv := hide (show funMayB f = ((f.kinds.zip f.base).all varMayB && f.blocks.all (fun b => b.all insMayB)) by rw [HV.out]; simp [show 0 ≤ fr by omega, show 0 ≤ fp by omega])
        go_enter Tryd.func18, Tryd.ntmps18
        go_wp2
        go_loop [29] (fun i => ∃ k : Nat, k ≤ m ∧ i = .int .i64 k ∧ Hid (((f.kinds.zip f.base).take k).all varMayB = true)) (fun i => m - (intOf i).toNat)
        case atStart => exact ⟨0, Nat.zero_le _, rfl, hide (by simp)⟩
        case round =>
          obtain ⟨k, hk, rfl, hall⟩ := hrel
          by_cases hlt : k < m
          · obtain ⟨x, hx⟩ : ∃ x, f.kinds[k]? = some x := ⟨_, List.getElem?_eq_getElem (by have := HN.out; omega)⟩
            obtain ⟨y, hy⟩ : ∃ y, f.base[k]? = some y := ⟨_, List.getElem?_eq_getElem (by have := HM.out; omega)⟩
            obtain ⟨b1, o1, rfl, hb1, e1, -⟩ := HK.out.get hx
            obtain ⟨b2, o2, rfl, hb2, e2, -⟩ := HBs.out.get hy
            have g1 := ((alloc1 w (.cells #[.slice (some ⟨b1, o1, none⟩) m ck, .slice (some ⟨b2, o2, none⟩) m cb, .int .i64 fp, .int .i64 fr, .slice As l cs] 38)).cell (p := ⟨b1, o1 + k, none⟩) (by show b1 < _; omega)).trans e1
            have g2 := ((alloc1 w (.cells #[.slice (some ⟨b1, o1, none⟩) m ck, .slice (some ⟨b2, o2, none⟩) m cb, .int .i64 fp, .int .i64 fr, .slice As l cs] 38)).cell (p := ⟨b2, o2 + k, none⟩) (by show b2 < _; omega)).trans e2
            have HZ := hide (zip_get hx hy)
            clear hx hy e1 e2
            by_cases hkd : kindB x = true
            · by_cases hbs : baseB x y = true
              · have hp' := hide (show varMayB (x, y) = true by unfold varMayB; rw [hkd, hbs]; rfl)
                have C1 := hide (fun W => isKind_any x W)
                have C2 := hide (fun W => baseMay_any x y W)
                rw [hkd] at C1
                rw [hbs] at C2
                clear hkd hbs
                go_wp2_with (first | (go_at_call 29; refine (C1.out _).mono ?_; rintro e w' ⟨rfl, rfl⟩) | (go_at_call 30; refine (C2.out _).mono ?_; rintro e w' ⟨rfl, rfl⟩))
                go_round
                case rel => exact ⟨k + 1, by omega, by go_num, hide (allB_take hall.out HZ.out hp'.out)⟩
                case measure => simp [intOf]; omega
              · have hbf := Bool.eq_false_iff.2 hbs
                have hp' := hide (show varMayB (x, y) = false by unfold varMayB; rw [hkd, hbf]; rfl)
                have hv2 := hide (show funMayB f = false by rw [hv.out, allB_not HZ.out hp'.out]; rfl)
                have C1 := hide (fun W => isKind_any x W)
                have C2 := hide (fun W => baseMay_any x y W)
                rw [hkd] at C1
                rw [hbf] at C2
                clear hkd hbs hbf
                go_wp2_with (first | (go_at_call 29; refine (C1.out _).mono ?_; rintro e w' ⟨rfl, rfl⟩) | (go_at_call 30; refine (C2.out _).mono ?_; rintro e w' ⟨rfl, rfl⟩))
                go_ret
                exact ⟨ret_bool hv2.out.symm, alloc1 w _⟩
            · have hkf := Bool.eq_false_iff.2 hkd
              have hp' := hide (show varMayB (x, y) = false by unfold varMayB; rw [hkf]; rfl)
              have hv2 := hide (show funMayB f = false by rw [hv.out, allB_not HZ.out hp'.out]; rfl)
              have C1 := hide (fun W => isKind_any x W)
              rw [hkf] at C1
              clear hkd hkf
              go_wp2_with (go_at_call 29; refine (C1.out _).mono ?_; rintro e w' ⟨rfl, rfl⟩)
              go_ret
              exact ⟨ret_bool hv2.out.symm, alloc1 w _⟩
          · have hv2 := hide (show funMayB f = f.blocks.all (fun b => b.all insMayB) by
              rw [hv.out, allB_end hall.out (n := m) (by have := HN.out; have := HM.out; simp; omega) (by omega)]; rfl)
            clear hall
            go_wp2
            go_loopw [51] (fun i wr => ∃ k : Nat, k ≤ l ∧ i = .int .i64 k ∧ Hid ((f.blocks.take k).all (fun b => b.all insMayB) = true) ∧ Below w.heap.size w wr) (fun i _ => l - (intOf i).toNat)
            case atStart => exact ⟨0, Nat.zero_le _, rfl, hide (by simp), alloc1 w _⟩
            case round =>
              obtain ⟨i, hi, rfl, hall, hbw⟩ := hrel
              obtain ⟨wo, rfl⟩ : ∃ wo, wo = wr := ⟨_, rfl⟩
              have hsz := hbw.size
              by_cases hlt : i < l
              · obtain ⟨x, hx⟩ : ∃ x, f.blocks[i]? = some x := ⟨_, List.getElem?_eq_getElem (by have := HL.out; omega)⟩
                obtain ⟨b1, o1, A1, c1, rfl, hb1, e1, hx1⟩ := (HS.out.keep (up hbw hB) (fun _ h => h)).get hx
                have hs1 : b1 < wo.heap.size := by omega
                obtain ⟨d1, hd1⟩ : ∃ d, x.length = d := ⟨_, rfl⟩
                rw [hd1] at e1 hx1
                have hdl : d1 ≤ 9223372036854775807 := by
                  obtain ⟨A', c', e, h1, h2, -⟩ := hx1
                  injection e with _ e1 e2
                  omega
                have HX1 := hide hx1
                have HD := hide hd1
                have HX := hide hx
                clear hx hx1 hd1
                go_wp2
                go_loopw [58] (fun j wr => ∃ q : Nat, q ≤ d1 ∧ j = .int .i64 q ∧ Hid ((x.take q).all insMayB = true) ∧ Below wo.heap.size wo wr) (fun j _ => d1 - (intOf j).toNat)
                case atStart => exact ⟨0, Nat.zero_le _, rfl, hide (by simp), alloc1 wo _⟩
                case round =>
                  obtain ⟨q, hq, rfl, hall2, hbq⟩ := hrel
                  have hszq := hbq.size
                  by_cases hlq : q < d1
                  · obtain ⟨y, hy⟩ : ∃ y, x[q]? = some y := ⟨_, List.getElem?_eq_getElem (by have := HD.out; omega)⟩
                    obtain ⟨b2, o2, A2, c2, rfl, hb2, ⟨f0, f1, f2, f3, f4, f5, f6⟩, hy1⟩ := (HX1.out.keep (up hbq (by omega)) (fun _ h => h)).get hy
                    have hs2 : b2 < wr.heap.size := by omega
                    have hC := fun (W : World) (hW : Below wr.heap.size wr W) => insMay_any (.slice A2 y.args.length c2) y W B (by have := hW.size; omega) (((HT.out.below hbw HT.out.1).below hbq (by have := HT.out.1; omega)).below hW (by have := HT.out.1; omega)) (hy1.keep (up hW (by omega)) (fun _ h => h))
                    generalize y.args.length = l2 at *
                    have HY := hide hy
                    clear hy hy1
                    by_cases hp0 : insMayB y = true
                    · rw [hp0] at hC
                      have HC := hide hC
                      have HP := hide hp0
                      clear hC hp0
                      go_wp2_with (go_at_call 31; refine (HC.out _ (alloc1 wr _)).mono ?_; rintro e w1 ⟨rfl, hb1⟩)
                      have hb2 := (alloc1 wr (.cells #[.int .i64 y.op, .int .i64 y.d, .int .i64 y.a, .int .i64 y.b, .int .i64 y.n, .int .i64 y.m, .slice A2 l2 c2] 40)).trans (hb1.mono (by simp))
                      go_roundw
                      case rel => exact ⟨q + 1, by omega, by go_num, hide (allB_take hall2.out HY.out HP.out), hbq.trans (hb2.mono hszq)⟩
                      case measure => simp [intOf]; omega
                    · have hpf := Bool.eq_false_iff.2 hp0
                      rw [hpf] at hC
                      have HC := hide hC
                      have hv3 := hide (show funMayB f = false by rw [hv2.out]; exact allB_not HX.out (allB_not HY.out hpf))
                      clear hC hp0 hpf
                      go_wp2_with (go_at_call 31; refine (HC.out _ (alloc1 wr _)).mono ?_; rintro e w1 ⟨rfl, hb1⟩)
                      have hb2 := (alloc1 wr (.cells #[.int .i64 y.op, .int .i64 y.d, .int .i64 y.a, .int .i64 y.b, .int .i64 y.n, .int .i64 y.m, .slice A2 l2 c2] 40)).trans (hb1.mono (by simp))
                      go_ret
                      exact ⟨ret_bool hv3.out.symm, hbw.trans ((hbq.trans (hb2.mono hszq)).mono hsz)⟩
                  · have hend := hide (allB_end hall2.out HD.out (by omega))
                    go_wp2
                    go_roundw
                    case rel => exact ⟨i + 1, by omega, by go_num, hide (allB_take hall.out HX.out hend.out), hbw.trans (hbq.mono hsz)⟩
                    case measure => simp [intOf]; omega
              · have hv3 := hide (show funMayB f = true by rw [hv2.out]; exact allB_end hall.out HL.out (by omega))
                go_wp2
                go_ret
                exact ⟨ret_bool hv3.out.symm, hbw⟩
  · have hv := hide (show funMayB f = false by rw [HV.out]; simp [hmn])
    have hb' : (((m : Nat) : Int) != ((n : Nat) : Int)) = true := by simp; omega
    clear hmn
    go_enter Tryd.func18, Tryd.ntmps18
    go_wp2
    go_ret
    exact ⟨ret_bool hv.out.symm, alloc1 w _⟩
end Go.Proofs.YtkimocfofihjbaaDoor
