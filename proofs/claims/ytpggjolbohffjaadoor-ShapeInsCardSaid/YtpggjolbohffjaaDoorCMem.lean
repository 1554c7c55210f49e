/- Programs as plain data, and what they read as in memory: instructions, blocks, functions, whole programs. No condition. -/
import Derived.Test.YtpggjolbohffjaaDoorMem
import Derived.Test.YtpggjolbohffjaaDoorPlain
set_option linter.unusedSimpArgs false
set_option linter.unusedVariables false
namespace Go.Proofs.YtpggjolbohffjaaDoor
open Go.RowKit

structure InsV where
  op : Int
  d : Int
  a : Int
  b : Int
  n : Int
  m : Int
  args : List Int
instance : DecidableEq InsV := fun x y =>
  decidable_of_iff (x.op = y.op ∧ x.d = y.d ∧ x.a = y.a ∧ x.b = y.b ∧ x.n = y.n ∧ x.m = y.m ∧ x.args = y.args) (by
    cases x; cases y
    simp only [InsV.mk.injEq])
structure FunV where
  kinds : List Int
  base : List Int
  params : Int
  result : Int
  blocks : List (List InsV)
instance : DecidableEq FunV := fun x y =>
  decidable_of_iff (x.kinds = y.kinds ∧ x.base = y.base ∧ x.params = y.params ∧ x.result = y.result ∧ x.blocks = y.blocks) (by
    cases x; cases y
    simp only [FunV.mk.injEq])

def i64R (z : Int) : Prop := -9223372036854775808 ≤ z ∧ z ≤ 9223372036854775807

/-- The slice value v has the things xs, each of s cells, in a block of S. -/
def Vec {α : Type} (s : Nat) (P : Nat → Nat → α → Prop) (S : Nat → Prop) (v : Value) (xs : List α) : Prop :=
  ∃ A c, v = .slice A xs.length c ∧ xs.length ≤ c ∧ c ≤ 9223372036854775807 ∧ (0 < xs.length → ∃ b o, A = some ⟨b, o, none⟩ ∧ S b ∧ ∀ (j : Nat) (x : α), xs[j]? = some x → P b (o + j * s) x)
theorem Vec.mono {α : Type} {s : Nat} {P P' : Nat → Nat → α → Prop} {S S' : Nat → Prop} {v : Value} {xs : List α} (h : Vec s P S v xs) (hS : ∀ b, S b → S' b) (hP : ∀ b o x, S b → x ∈ xs → P b o x → P' b o x) : Vec s P' S' v xs := by
  obtain ⟨A, c, e, h1, h2, h3⟩ := h
  refine ⟨A, c, e, h1, h2, fun hp => ?_⟩
  obtain ⟨b, o, e2, hb, hc⟩ := h3 hp
  exact ⟨b, o, e2, hS b hb, fun j x hj => hP _ _ _ hb (List.mem_of_getElem? hj) (hc j x hj)⟩
theorem Vec.nil {α : Type} (s : Nat) (P : Nat → Nat → α → Prop) (S : Nat → Prop) : Vec s P S (.slice none 0 0) ([] : List α) := ⟨none, 0, rfl, Nat.le_refl _, by omega, fun h => absurd h (by simp)⟩

/-- Blocks of S are as they were. -/
def Same' (S : Nat → Prop) (w w' : World) : Prop := ∀ b o, S b → w'.cell? ⟨b, o, none⟩ = w.cell? ⟨b, o, none⟩
theorem Same'.of_below {B : Nat} {w w' : World} (h : Below B w w') : Same' (· < B) w w' := fun b o hb => h.cell (p := ⟨b, o, none⟩) hb

def IntC (w : World) (b o : Nat) (z : Int) : Prop := w.cell? ⟨b, o, none⟩ = some (.int .i64 z) ∧ i64R z
def IntsV (w : World) (S : Nat → Prop) (v : Value) (zs : List Int) : Prop := Vec 1 (IntC w) S v zs
def InsR (x : InsV) : Prop := i64R x.op ∧ i64R x.d ∧ i64R x.a ∧ i64R x.b ∧ i64R x.n ∧ i64R x.m
def InsI (w : World) (S : Nat → Prop) (va : Value) (x : InsV) : Prop := IntsV w S va x.args ∧ InsR x
def insCells (x : InsV) (va : Value) : Array Value := #[.int .i64 x.op, .int .i64 x.d, .int .i64 x.a, .int .i64 x.b, .int .i64 x.n, .int .i64 x.m, va]
def InsC (w : World) (S : Nat → Prop) (b o : Nat) (x : InsV) : Prop :=
  ∃ va, (w.cell? ⟨b, o, none⟩ = some (.int .i64 x.op) ∧ w.cell? ⟨b, o + 1, none⟩ = some (.int .i64 x.d) ∧ w.cell? ⟨b, o + 2, none⟩ = some (.int .i64 x.a) ∧ w.cell? ⟨b, o + 3, none⟩ = some (.int .i64 x.b) ∧
    w.cell? ⟨b, o + 4, none⟩ = some (.int .i64 x.n) ∧ w.cell? ⟨b, o + 5, none⟩ = some (.int .i64 x.m) ∧ w.cell? ⟨b, o + 6, none⟩ = some va) ∧ InsI w S va x
def InssV (w : World) (S : Nat → Prop) (v : Value) (xs : List InsV) : Prop := Vec 7 (InsC w S) S v xs
def BlkC (w : World) (S : Nat → Prop) (b o : Nat) (x : List InsV) : Prop := ∃ v, w.cell? ⟨b, o, none⟩ = some v ∧ InssV w S v x
def BlksV (w : World) (S : Nat → Prop) (v : Value) (xs : List (List InsV)) : Prop := Vec 1 (BlkC w S) S v xs
def FunI (w : World) (S : Nat → Prop) (vk vb vs : Value) (f : FunV) : Prop := IntsV w S vk f.kinds ∧ IntsV w S vb f.base ∧ BlksV w S vs f.blocks ∧ i64R f.params ∧ i64R f.result
def FunC (w : World) (S : Nat → Prop) (b o : Nat) (f : FunV) : Prop :=
  ∃ vk vb vs, (w.cell? ⟨b, o, none⟩ = some vk ∧ w.cell? ⟨b, o + 1, none⟩ = some vb ∧ w.cell? ⟨b, o + 2, none⟩ = some (.int .i64 f.params) ∧ w.cell? ⟨b, o + 3, none⟩ = some (.int .i64 f.result) ∧ w.cell? ⟨b, o + 4, none⟩ = some vs) ∧ FunI w S vk vb vs f
def FunsV (w : World) (S : Nat → Prop) (v : Value) (p : List FunV) : Prop := Vec 5 (FunC w S) S v p

section
variable {w w' : World} {S S' : Nat → Prop}
theorem IntsV.keep {v : Value} {zs : List Int} (h : IntsV w S v zs) (hk : Same' S w w') (hS : ∀ b, S b → S' b) : IntsV w' S' v zs :=
  Vec.mono h hS fun b o _ hb _ hc => ⟨(hk b o hb).trans hc.1, hc.2⟩
theorem InsI.keep {v : Value} {x : InsV} (h : InsI w S v x) (hk : Same' S w w') (hS : ∀ b, S b → S' b) : InsI w' S' v x := ⟨IntsV.keep h.1 hk hS, h.2⟩
theorem InssV.keep {v : Value} {xs : List InsV} (h : InssV w S v xs) (hk : Same' S w w') (hS : ∀ b, S b → S' b) : InssV w' S' v xs :=
  Vec.mono h hS fun b o x hb _ ⟨va, ⟨h0, h1, h2, h3, h4, h5, h6⟩, hi⟩ => ⟨va, ⟨(hk b _ hb).trans h0, (hk b _ hb).trans h1, (hk b _ hb).trans h2, (hk b _ hb).trans h3, (hk b _ hb).trans h4, (hk b _ hb).trans h5, (hk b _ hb).trans h6⟩, InsI.keep hi hk hS⟩
theorem BlksV.keep {v : Value} {xs : List (List InsV)} (h : BlksV w S v xs) (hk : Same' S w w') (hS : ∀ b, S b → S' b) : BlksV w' S' v xs :=
  Vec.mono h hS fun b o x hb _ ⟨va, h0, hi⟩ => ⟨va, (hk b _ hb).trans h0, InssV.keep hi hk hS⟩
theorem FunI.keep {vk vb vs : Value} {f : FunV} (h : FunI w S vk vb vs f) (hk : Same' S w w') (hS : ∀ b, S b → S' b) : FunI w' S' vk vb vs f :=
  ⟨IntsV.keep h.1 hk hS, IntsV.keep h.2.1 hk hS, BlksV.keep h.2.2.1 hk hS, h.2.2.2⟩
theorem FunsV.keep {v : Value} {p : List FunV} (h : FunsV w S v p) (hk : Same' S w w') (hS : ∀ b, S b → S' b) : FunsV w' S' v p :=
  Vec.mono h hS fun b o x hb _ ⟨vk, vb, vs, ⟨h0, h1, h2, h3, h4⟩, hi⟩ => ⟨vk, vb, vs, ⟨(hk b _ hb).trans h0, (hk b _ hb).trans h1, (hk b _ hb).trans h2, (hk b _ hb).trans h3, (hk b _ hb).trans h4⟩, FunI.keep hi hk hS⟩
end

/-- Slices of ints, in the elder words. -/
theorem IntsV.sl {w : World} {B : Nat} {v : Value} {zs : List Int} (h : IntsV w (· < B) v zs) : ∃ A c, v = .slice A zs.length c ∧ zs.length ≤ c ∧ c ≤ 9223372036854775807 ∧ Sl w B .i64 A zs ∧ ∀ z ∈ zs, i64R z := by
  obtain ⟨A, c, e, h1, h2, h3⟩ := h
  refine ⟨A, c, e, h1, h2, fun hp => ?_, fun z hz => ?_⟩
  · obtain ⟨b, o, e2, hb, hc⟩ := h3 hp
    refine ⟨b, o, e2, hb, fun j hj => ?_⟩
    have := (hc j (zs.getD j 0) (by simp [List.getD, hj])).1
    rwa [Nat.mul_one] at this
  · obtain ⟨j, hj⟩ := List.getElem?_of_mem hz
    obtain ⟨b, o, _, _, hc⟩ := h3 (by have := (List.getElem?_eq_some_iff.1 hj).1; omega)
    exact (hc j z hj).2

/-- A closure that says whether a count may be. -/
def LimC (w : World) (S : Nat → Prop) (v : Value) (lo hi : Int) : Prop :=
  ∃ b1 b2, v = .func (.func 53) #[] #[.pointer (some ⟨b1, 0, none⟩), .pointer (some ⟨b2, 0, none⟩)] ∧ S b1 ∧ S b2 ∧ w.cell? ⟨b1, 0, none⟩ = some (.int .i64 lo) ∧ w.cell? ⟨b2, 0, none⟩ = some (.int .i64 hi)
def LimsC (w : World) (S : Nat → Prop) (l0 l1 l2 l3 l4 : Value) : Prop := LimC w S l0 1 8 ∧ LimC w S l1 0 48 ∧ LimC w S l2 0 40 ∧ LimC w S l3 0 40 ∧ LimC w S l4 0 4
theorem LimC.keep {w w' : World} {S S' : Nat → Prop} {v : Value} {lo hi : Int} (h : LimC w S v lo hi) (hk : Same' S w w') (hS : ∀ b, S b → S' b) : LimC w' S' v lo hi := by
  obtain ⟨b1, b2, e, h1, h2, h3, h4⟩ := h
  exact ⟨b1, b2, e, hS _ h1, hS _ h2, (hk _ _ h1).trans h3, (hk _ _ h2).trans h4⟩
theorem LimsC.keep {w w' : World} {S S' : Nat → Prop} {l0 l1 l2 l3 l4 : Value} (h : LimsC w S l0 l1 l2 l3 l4) (hk : Same' S w w') (hS : ∀ b, S b → S' b) : LimsC w' S' l0 l1 l2 l3 l4 :=
  ⟨h.1.keep hk hS, h.2.1.keep hk hS, h.2.2.1.keep hk hS, h.2.2.2.1.keep hk hS, h.2.2.2.2.keep hk hS⟩
section
variable {w w' : World} {S : Nat → Prop} {B : Nat}
theorem InsI.open' {va : Value} {x : InsV} (h : InsI w S va x) : ∃ A c, va = .slice A x.args.length c := by
  obtain ⟨⟨A, c, e, -⟩, -⟩ := h
  exact ⟨A, c, e⟩
theorem InssV.get {A : Option Addr} {n c k : Nat} {xs : List InsV} {y : InsV} (h : InssV w S (.slice A n c) xs) (hy : xs[k]? = some y) :
    ∃ b o A1 c1, A = some ⟨b, o, none⟩ ∧ S b ∧ (w.cell? ⟨b, o + k * 7, none⟩ = some (.int .i64 y.op) ∧ w.cell? ⟨b, o + k * 7 + 1, none⟩ = some (.int .i64 y.d) ∧ w.cell? ⟨b, o + k * 7 + 2, none⟩ = some (.int .i64 y.a) ∧ w.cell? ⟨b, o + k * 7 + 3, none⟩ = some (.int .i64 y.b) ∧
      w.cell? ⟨b, o + k * 7 + 4, none⟩ = some (.int .i64 y.n) ∧ w.cell? ⟨b, o + k * 7 + 5, none⟩ = some (.int .i64 y.m) ∧ w.cell? ⟨b, o + k * 7 + 6, none⟩ = some (.slice A1 y.args.length c1)) ∧ InsI w S (.slice A1 y.args.length c1) y := by
  obtain ⟨A', c', e, -, -, h3⟩ := h
  injection e with eA _ _
  subst eA
  obtain ⟨b, o, rfl, hb, hc⟩ := h3 (by have := (List.getElem?_eq_some_iff.1 hy).1; omega)
  obtain ⟨va, h7, hi⟩ := hc k y hy
  obtain ⟨A1, c1, rfl⟩ := hi.open'
  exact ⟨b, o, A1, c1, rfl, hb, h7, hi⟩
theorem InssV.open' {v : Value} {xs : List InsV} (h : InssV w S v xs) : ∃ A c, v = .slice A xs.length c ∧ xs.length ≤ c ∧ c ≤ 9223372036854775807 := by
  obtain ⟨A, c, e, h1, h2, -⟩ := h
  exact ⟨A, c, e, h1, h2⟩
theorem BlksV.open' {v : Value} {xs : List (List InsV)} (h : BlksV w S v xs) : ∃ A c, v = .slice A xs.length c ∧ xs.length ≤ c ∧ c ≤ 9223372036854775807 := by
  obtain ⟨A, c, e, h1, h2, -⟩ := h
  exact ⟨A, c, e, h1, h2⟩
theorem IntsV.open' {v : Value} {xs : List Int} (h : IntsV w S v xs) : ∃ A c, v = .slice A xs.length c ∧ xs.length ≤ c ∧ c ≤ 9223372036854775807 := by
  obtain ⟨A, c, e, h1, h2, -⟩ := h
  exact ⟨A, c, e, h1, h2⟩
theorem FunsV.open' {v : Value} {xs : List FunV} (h : FunsV w S v xs) : ∃ A c, v = .slice A xs.length c ∧ xs.length ≤ c ∧ c ≤ 9223372036854775807 := by
  obtain ⟨A, c, e, h1, h2, -⟩ := h
  exact ⟨A, c, e, h1, h2⟩
theorem IntsV.get {A : Option Addr} {n c k : Nat} {xs : List Int} {y : Int} (h : IntsV w S (.slice A n c) xs) (hy : xs[k]? = some y) :
    ∃ b o, A = some ⟨b, o, none⟩ ∧ S b ∧ w.cell? ⟨b, o + k, none⟩ = some (.int .i64 y) ∧ i64R y := by
  obtain ⟨A', c', e, -, -, h3⟩ := h
  injection e with eA _ _
  subst eA
  obtain ⟨b, o, rfl, hb, hc⟩ := h3 (by have := (List.getElem?_eq_some_iff.1 hy).1; omega)
  have := hc k y hy
  rw [Nat.mul_one] at this
  exact ⟨b, o, rfl, hb, this⟩
theorem BlksV.get {A : Option Addr} {n c k : Nat} {xs : List (List InsV)} {y : List InsV} (h : BlksV w S (.slice A n c) xs) (hy : xs[k]? = some y) :
    ∃ b o A1 c1, A = some ⟨b, o, none⟩ ∧ S b ∧ w.cell? ⟨b, o + k, none⟩ = some (.slice A1 y.length c1) ∧ InssV w S (.slice A1 y.length c1) y := by
  obtain ⟨A', c', e, -, -, h3⟩ := h
  injection e with eA _ _
  subst eA
  obtain ⟨b, o, rfl, hb, hc⟩ := h3 (by have := (List.getElem?_eq_some_iff.1 hy).1; omega)
  obtain ⟨v, h1, hi⟩ := hc k y hy
  rw [Nat.mul_one] at h1
  obtain ⟨A1, c1, rfl, -, -⟩ := hi.open'
  exact ⟨b, o, A1, c1, rfl, hb, h1, hi⟩
theorem FunsV.get {A : Option Addr} {n c k : Nat} {xs : List FunV} {y : FunV} (h : FunsV w S (.slice A n c) xs) (hy : xs[k]? = some y) :
    ∃ b o Ak ck Ab cb As cs, A = some ⟨b, o, none⟩ ∧ S b ∧ (w.cell? ⟨b, o + k * 5, none⟩ = some (.slice Ak y.kinds.length ck) ∧ w.cell? ⟨b, o + k * 5 + 1, none⟩ = some (.slice Ab y.base.length cb) ∧ w.cell? ⟨b, o + k * 5 + 2, none⟩ = some (.int .i64 y.params) ∧
      w.cell? ⟨b, o + k * 5 + 3, none⟩ = some (.int .i64 y.result) ∧ w.cell? ⟨b, o + k * 5 + 4, none⟩ = some (.slice As y.blocks.length cs)) ∧ FunI w S (.slice Ak y.kinds.length ck) (.slice Ab y.base.length cb) (.slice As y.blocks.length cs) y := by
  obtain ⟨A', c', e, -, -, h3⟩ := h
  injection e with eA _ _
  subst eA
  obtain ⟨b, o, rfl, hb, hc⟩ := h3 (by have := (List.getElem?_eq_some_iff.1 hy).1; omega)
  obtain ⟨vk, vb, vs, h5, hi⟩ := hc k y hy
  obtain ⟨Ak, ck, rfl, -, -⟩ := hi.1.open'
  obtain ⟨Ab, cb, rfl, -, -⟩ := hi.2.1.open'
  obtain ⟨As, cs, rfl, -, -⟩ := hi.2.2.1.open'
  exact ⟨b, o, Ak, ck, Ab, cb, As, cs, rfl, hb, h5, hi⟩
theorem up (h : Below w.heap.size w w') (hB : B ≤ w.heap.size) : Same' (· < B) w w' := fun b o hb => h.cell (p := ⟨b, o, none⟩) (Nat.lt_of_lt_of_le hb hB)
end
end Go.Proofs.YtpggjolbohffjaaDoor
