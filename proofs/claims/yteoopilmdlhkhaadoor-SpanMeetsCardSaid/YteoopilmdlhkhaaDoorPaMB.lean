/- Programs as plain data, and what they read as in memory: instructions, blocks, functions, whole programs. No condition. -/
import Derived.Test.YteoopilmdlhkhaaDoorPaMA
import Derived.Test.YteoopilmdlhkhaaDoorProg
import Derived.BigQuiet
import Derived.Deep.QuietTactic
import Derived.Deep.RegionWith
import Derived.Laws.EntriesVeiled
import Derived.Deep.RegionHeld3
import Derived.Lib.OthersKept
set_option linter.unusedSimpArgs false
set_option linter.unusedVariables false
namespace Go.Proofs.YteoopilmdlhkhaaDoor
open Go.RowKit

structure InsV where
  op : Int
  d : Int
  a : Int
  b : Int
  n : Int
  m : Int
  args : List Int
instance : DecidableEq InsV := fun x y =>
  decidable_of_iff (x.op = y.op ∧ x.d = y.d ∧ x.a = y.a ∧ x.b = y.b ∧ x.n = y.n ∧ x.m = y.m ∧ x.args = y.args) (by
    cases x; cases y
    simp only [InsV.mk.injEq])
structure FunV where
  kinds : List Int
  base : List Int
  params : Int
  result : Int
  blocks : List (List InsV)
instance : DecidableEq FunV := fun x y =>
  decidable_of_iff (x.kinds = y.kinds ∧ x.base = y.base ∧ x.params = y.params ∧ x.result = y.result ∧ x.blocks = y.blocks) (by
    cases x; cases y
    simp only [FunV.mk.injEq])

def i64R (z : Int) : Prop := -9223372036854775808 ≤ z ∧ z ≤ 9223372036854775807

/-- The slice value v has the things xs, each of s cells, in a block of S. -/
def Vec {α : Type} (s : Nat) (P : Nat → Nat → α → Prop) (S : Nat → Prop) (v : Value) (xs : List α) : Prop :=
  ∃ A c, v = .slice A xs.length c ∧ xs.length ≤ c ∧ c ≤ 9223372036854775807 ∧ (0 < xs.length → ∃ b o, A = some ⟨b, o, none⟩ ∧ S b ∧ ∀ (j : Nat) (x : α), xs[j]? = some x → P b (o + j * s) x)
theorem Vec.mono {α : Type} {s : Nat} {P P' : Nat → Nat → α → Prop} {S S' : Nat → Prop} {v : Value} {xs : List α} (h : Vec s P S v xs) (hS : ∀ b, S b → S' b) (hP : ∀ b o x, S b → x ∈ xs → P b o x → P' b o x) : Vec s P' S' v xs := by
  obtain ⟨A, c, e, h1, h2, h3⟩ := h
  refine ⟨A, c, e, h1, h2, fun hp => ?_⟩
  obtain ⟨b, o, e2, hb, hc⟩ := h3 hp
  exact ⟨b, o, e2, hS b hb, fun j x hj => hP _ _ _ hb (List.mem_of_getElem? hj) (hc j x hj)⟩
theorem Vec.nil {α : Type} (s : Nat) (P : Nat → Nat → α → Prop) (S : Nat → Prop) : Vec s P S (.slice none 0 0) ([] : List α) := ⟨none, 0, rfl, Nat.le_refl _, by omega, fun h => absurd h (by simp)⟩

/-- Blocks of S are as they were. -/
def Same' (S : Nat → Prop) (w w' : World) : Prop := ∀ b o, S b → w'.cell? ⟨b, o, none⟩ = w.cell? ⟨b, o, none⟩
theorem Same'.of_below {B : Nat} {w w' : World} (h : Below B w w') : Same' (· < B) w w' := fun b o hb => h.cell (p := ⟨b, o, none⟩) hb

def IntC (w : World) (b o : Nat) (z : Int) : Prop := w.cell? ⟨b, o, none⟩ = some (.int .i64 z) ∧ i64R z
def IntsV (w : World) (S : Nat → Prop) (v : Value) (zs : List Int) : Prop := Vec 1 (IntC w) S v zs
def InsR (x : InsV) : Prop := i64R x.op ∧ i64R x.d ∧ i64R x.a ∧ i64R x.b ∧ i64R x.n ∧ i64R x.m
def InsI (w : World) (S : Nat → Prop) (va : Value) (x : InsV) : Prop := IntsV w S va x.args ∧ InsR x
def InsC (w : World) (S : Nat → Prop) (b o : Nat) (x : InsV) : Prop :=
  ∃ va, (w.cell? ⟨b, o, none⟩ = some (.int .i64 x.op) ∧ w.cell? ⟨b, o + 1, none⟩ = some (.int .i64 x.d) ∧ w.cell? ⟨b, o + 2, none⟩ = some (.int .i64 x.a) ∧ w.cell? ⟨b, o + 3, none⟩ = some (.int .i64 x.b) ∧
    w.cell? ⟨b, o + 4, none⟩ = some (.int .i64 x.n) ∧ w.cell? ⟨b, o + 5, none⟩ = some (.int .i64 x.m) ∧ w.cell? ⟨b, o + 6, none⟩ = some va) ∧ InsI w S va x
def InssV (w : World) (S : Nat → Prop) (v : Value) (xs : List InsV) : Prop := Vec 7 (InsC w S) S v xs
def BlkC (w : World) (S : Nat → Prop) (b o : Nat) (x : List InsV) : Prop := ∃ v, w.cell? ⟨b, o, none⟩ = some v ∧ InssV w S v x
def BlksV (w : World) (S : Nat → Prop) (v : Value) (xs : List (List InsV)) : Prop := Vec 1 (BlkC w S) S v xs
def FunI (w : World) (S : Nat → Prop) (vk vb vs : Value) (f : FunV) : Prop := IntsV w S vk f.kinds ∧ IntsV w S vb f.base ∧ BlksV w S vs f.blocks ∧ i64R f.params ∧ i64R f.result
def FunC (w : World) (S : Nat → Prop) (b o : Nat) (f : FunV) : Prop :=
  ∃ vk vb vs, (w.cell? ⟨b, o, none⟩ = some vk ∧ w.cell? ⟨b, o + 1, none⟩ = some vb ∧ w.cell? ⟨b, o + 2, none⟩ = some (.int .i64 f.params) ∧ w.cell? ⟨b, o + 3, none⟩ = some (.int .i64 f.result) ∧ w.cell? ⟨b, o + 4, none⟩ = some vs) ∧ FunI w S vk vb vs f
def FunsV (w : World) (S : Nat → Prop) (v : Value) (p : List FunV) : Prop := Vec 5 (FunC w S) S v p

section
variable {w w' : World} {S S' : Nat → Prop}
theorem IntsV.keep {v : Value} {zs : List Int} (h : IntsV w S v zs) (hk : Same' S w w') (hS : ∀ b, S b → S' b) : IntsV w' S' v zs :=
  Vec.mono h hS fun b o _ hb _ hc => ⟨(hk b o hb).trans hc.1, hc.2⟩
theorem InsI.keep {v : Value} {x : InsV} (h : InsI w S v x) (hk : Same' S w w') (hS : ∀ b, S b → S' b) : InsI w' S' v x := ⟨IntsV.keep h.1 hk hS, h.2⟩
theorem InssV.keep {v : Value} {xs : List InsV} (h : InssV w S v xs) (hk : Same' S w w') (hS : ∀ b, S b → S' b) : InssV w' S' v xs :=
  Vec.mono h hS fun b o x hb _ ⟨va, ⟨h0, h1, h2, h3, h4, h5, h6⟩, hi⟩ => ⟨va, ⟨(hk b _ hb).trans h0, (hk b _ hb).trans h1, (hk b _ hb).trans h2, (hk b _ hb).trans h3, (hk b _ hb).trans h4, (hk b _ hb).trans h5, (hk b _ hb).trans h6⟩, InsI.keep hi hk hS⟩
theorem BlksV.keep {v : Value} {xs : List (List InsV)} (h : BlksV w S v xs) (hk : Same' S w w') (hS : ∀ b, S b → S' b) : BlksV w' S' v xs :=
  Vec.mono h hS fun b o x hb _ ⟨va, h0, hi⟩ => ⟨va, (hk b _ hb).trans h0, InssV.keep hi hk hS⟩
theorem FunI.keep {vk vb vs : Value} {f : FunV} (h : FunI w S vk vb vs f) (hk : Same' S w w') (hS : ∀ b, S b → S' b) : FunI w' S' vk vb vs f :=
  ⟨IntsV.keep h.1 hk hS, IntsV.keep h.2.1 hk hS, BlksV.keep h.2.2.1 hk hS, h.2.2.2⟩
theorem FunsV.keep {v : Value} {p : List FunV} (h : FunsV w S v p) (hk : Same' S w w') (hS : ∀ b, S b → S' b) : FunsV w' S' v p :=
  Vec.mono h hS fun b o x hb _ ⟨vk, vb, vs, ⟨h0, h1, h2, h3, h4⟩, hi⟩ => ⟨vk, vb, vs, ⟨(hk b _ hb).trans h0, (hk b _ hb).trans h1, (hk b _ hb).trans h2, (hk b _ hb).trans h3, (hk b _ hb).trans h4⟩, FunI.keep hi hk hS⟩
end

/-- Slices of ints, in the elder words. -/
theorem IntsV.sl {w : World} {B : Nat} {v : Value} {zs : List Int} (h : IntsV w (· < B) v zs) : ∃ A c, v = .slice A zs.length c ∧ zs.length ≤ c ∧ c ≤ 9223372036854775807 ∧ Sl w B .i64 A zs ∧ ∀ z ∈ zs, i64R z := by
  obtain ⟨A, c, e, h1, h2, h3⟩ := h
  refine ⟨A, c, e, h1, h2, fun hp => ?_, fun z hz => ?_⟩
  · obtain ⟨b, o, e2, hb, hc⟩ := h3 hp
    refine ⟨b, o, e2, hb, fun j hj => ?_⟩
    have := (hc j (zs.getD j 0) (by simp [List.getD, hj])).1
    rwa [Nat.mul_one] at this
  · obtain ⟨j, hj⟩ := List.getElem?_of_mem hz
    obtain ⟨b, o, _, _, hc⟩ := h3 (by have := (List.getElem?_eq_some_iff.1 hj).1; omega)
    exact (hc j z hj).2

section
variable {w w' : World} {S : Nat → Prop} {B : Nat}
theorem InsI.open' {va : Value} {x : InsV} (h : InsI w S va x) : ∃ A c, va = .slice A x.args.length c := by
  obtain ⟨⟨A, c, e, -⟩, -⟩ := h
  exact ⟨A, c, e⟩
theorem InssV.get {A : Option Addr} {n c k : Nat} {xs : List InsV} {y : InsV} (h : InssV w S (.slice A n c) xs) (hy : xs[k]? = some y) :
    ∃ b o A1 c1, A = some ⟨b, o, none⟩ ∧ S b ∧ (w.cell? ⟨b, o + k * 7, none⟩ = some (.int .i64 y.op) ∧ w.cell? ⟨b, o + k * 7 + 1, none⟩ = some (.int .i64 y.d) ∧ w.cell? ⟨b, o + k * 7 + 2, none⟩ = some (.int .i64 y.a) ∧ w.cell? ⟨b, o + k * 7 + 3, none⟩ = some (.int .i64 y.b) ∧
      w.cell? ⟨b, o + k * 7 + 4, none⟩ = some (.int .i64 y.n) ∧ w.cell? ⟨b, o + k * 7 + 5, none⟩ = some (.int .i64 y.m) ∧ w.cell? ⟨b, o + k * 7 + 6, none⟩ = some (.slice A1 y.args.length c1)) ∧ InsI w S (.slice A1 y.args.length c1) y := by
  obtain ⟨A', c', e, -, -, h3⟩ := h
  injection e with eA _ _
  subst eA
  obtain ⟨b, o, rfl, hb, hc⟩ := h3 (by have := (List.getElem?_eq_some_iff.1 hy).1; omega)
  obtain ⟨va, h7, hi⟩ := hc k y hy
  obtain ⟨A1, c1, rfl⟩ := hi.open'
  exact ⟨b, o, A1, c1, rfl, hb, h7, hi⟩
theorem InssV.open' {v : Value} {xs : List InsV} (h : InssV w S v xs) : ∃ A c, v = .slice A xs.length c ∧ xs.length ≤ c ∧ c ≤ 9223372036854775807 := by
  obtain ⟨A, c, e, h1, h2, -⟩ := h
  exact ⟨A, c, e, h1, h2⟩
theorem BlksV.open' {v : Value} {xs : List (List InsV)} (h : BlksV w S v xs) : ∃ A c, v = .slice A xs.length c ∧ xs.length ≤ c ∧ c ≤ 9223372036854775807 := by
  obtain ⟨A, c, e, h1, h2, -⟩ := h
  exact ⟨A, c, e, h1, h2⟩
theorem IntsV.open' {v : Value} {xs : List Int} (h : IntsV w S v xs) : ∃ A c, v = .slice A xs.length c ∧ xs.length ≤ c ∧ c ≤ 9223372036854775807 := by
  obtain ⟨A, c, e, h1, h2, -⟩ := h
  exact ⟨A, c, e, h1, h2⟩
theorem FunsV.open' {v : Value} {xs : List FunV} (h : FunsV w S v xs) : ∃ A c, v = .slice A xs.length c ∧ xs.length ≤ c ∧ c ≤ 9223372036854775807 := by
  obtain ⟨A, c, e, h1, h2, -⟩ := h
  exact ⟨A, c, e, h1, h2⟩
theorem IntsV.get {A : Option Addr} {n c k : Nat} {xs : List Int} {y : Int} (h : IntsV w S (.slice A n c) xs) (hy : xs[k]? = some y) :
    ∃ b o, A = some ⟨b, o, none⟩ ∧ S b ∧ w.cell? ⟨b, o + k, none⟩ = some (.int .i64 y) ∧ i64R y := by
  obtain ⟨A', c', e, -, -, h3⟩ := h
  injection e with eA _ _
  subst eA
  obtain ⟨b, o, rfl, hb, hc⟩ := h3 (by have := (List.getElem?_eq_some_iff.1 hy).1; omega)
  have := hc k y hy
  rw [Nat.mul_one] at this
  exact ⟨b, o, rfl, hb, this⟩
theorem BlksV.get {A : Option Addr} {n c k : Nat} {xs : List (List InsV)} {y : List InsV} (h : BlksV w S (.slice A n c) xs) (hy : xs[k]? = some y) :
    ∃ b o A1 c1, A = some ⟨b, o, none⟩ ∧ S b ∧ w.cell? ⟨b, o + k, none⟩ = some (.slice A1 y.length c1) ∧ InssV w S (.slice A1 y.length c1) y := by
  obtain ⟨A', c', e, -, -, h3⟩ := h
  injection e with eA _ _
  subst eA
  obtain ⟨b, o, rfl, hb, hc⟩ := h3 (by have := (List.getElem?_eq_some_iff.1 hy).1; omega)
  obtain ⟨v, h1, hi⟩ := hc k y hy
  rw [Nat.mul_one] at h1
  obtain ⟨A1, c1, rfl, -, -⟩ := hi.open'
  exact ⟨b, o, A1, c1, rfl, hb, h1, hi⟩
theorem FunsV.get {A : Option Addr} {n c k : Nat} {xs : List FunV} {y : FunV} (h : FunsV w S (.slice A n c) xs) (hy : xs[k]? = some y) :
    ∃ b o Ak ck Ab cb As cs, A = some ⟨b, o, none⟩ ∧ S b ∧ (w.cell? ⟨b, o + k * 5, none⟩ = some (.slice Ak y.kinds.length ck) ∧ w.cell? ⟨b, o + k * 5 + 1, none⟩ = some (.slice Ab y.base.length cb) ∧ w.cell? ⟨b, o + k * 5 + 2, none⟩ = some (.int .i64 y.params) ∧
      w.cell? ⟨b, o + k * 5 + 3, none⟩ = some (.int .i64 y.result) ∧ w.cell? ⟨b, o + k * 5 + 4, none⟩ = some (.slice As y.blocks.length cs)) ∧ FunI w S (.slice Ak y.kinds.length ck) (.slice Ab y.base.length cb) (.slice As y.blocks.length cs) y := by
  obtain ⟨A', c', e, -, -, h3⟩ := h
  injection e with eA _ _
  subst eA
  obtain ⟨b, o, rfl, hb, hc⟩ := h3 (by have := (List.getElem?_eq_some_iff.1 hy).1; omega)
  obtain ⟨vk, vb, vs, h5, hi⟩ := hc k y hy
  obtain ⟨Ak, ck, rfl, -, -⟩ := hi.1.open'
  obtain ⟨Ab, cb, rfl, -, -⟩ := hi.2.1.open'
  obtain ⟨As, cs, rfl, -, -⟩ := hi.2.2.1.open'
  exact ⟨b, o, Ak, ck, Ab, cb, As, cs, rfl, hb, h5, hi⟩
theorem up (h : Below w.heap.size w w') (hB : B ≤ w.heap.size) : Same' (· < B) w w' := fun b o hb => h.cell (p := ⟨b, o, none⟩) (Nat.lt_of_lt_of_le hb hB)
end
end Go.Proofs.YteoopilmdlhkhaaDoor
namespace Go.Proofs.YteoopilmdlhkhaaDoor
open Go.RowKit

theorem alloc2 (w : World) (o1 o2 : Obj) : Below w.heap.size w ((w.alloc o1).alloc o2) := ((Below.refl _ _).alloc (Nat.le_refl _) _).alloc (by simp) _
/-- May the counts of a block be? Of a function? Of a program? -/
def insCnt (x : InsV) : Bool := !(x.op == 19) || decide (x.args.length ≤ 4)
def blkCnt (x : List InsV) : Bool := decide (x.length ≤ 40) && x.all insCnt
def funCnt (f : FunV) : Bool := decide (f.kinds.length ≤ 48) && (decide (f.blocks.length ≤ 40) && f.blocks.all blkCnt)
def cntB (p : List FunV) : Bool := decide (1 ≤ p.length) && (decide (p.length ≤ 8) && p.all funCnt)

end Go.Proofs.YteoopilmdlhkhaaDoor
namespace Go.Proofs.YteoopilmdlhkhaaDoor
open Go.RowKit

/-- The five closures, boxed. -/
def LBox (w : World) (g : Nat) (l0 l1 l2 l3 l4 : Value) : Prop :=
  w.cell? ⟨g, 0, none⟩ = some l0 ∧ w.cell? ⟨g, 1, none⟩ = some l1 ∧ w.cell? ⟨g, 2, none⟩ = some l2 ∧ w.cell? ⟨g, 3, none⟩ = some l3 ∧ w.cell? ⟨g, 4, none⟩ = some l4
theorem LBox.keep {w w' : World} {g : Nat} {l0 l1 l2 l3 l4 : Value} (h : LBox w g l0 l1 l2 l3 l4) (hb : Below w.heap.size w w') (hg : g < w.heap.size) : LBox w' g l0 l1 l2 l3 l4 :=
  ⟨(hb.cell (p := ⟨g, 0, none⟩) hg).trans h.1, (hb.cell (p := ⟨g, 1, none⟩) hg).trans h.2.1, (hb.cell (p := ⟨g, 2, none⟩) hg).trans h.2.2.1, (hb.cell (p := ⟨g, 3, none⟩) hg).trans h.2.2.2.1, (hb.cell (p := ⟨g, 4, none⟩) hg).trans h.2.2.2.2⟩
end Go.Proofs.YteoopilmdlhkhaaDoor
namespace Go.Proofs.YteoopilmdlhkhaaDoor
open Go.RowKit

theorem Same'.trans {S : Nat → Prop} {w w1 w2 : World} (h : Same' S w w1) (h2 : Same' S w1 w2) : Same' S w w2 := fun b o hb => (h2 b o hb).trans (h b o hb)
end Go.Proofs.YteoopilmdlhkhaaDoor
namespace Go.Proofs.YteoopilmdlhkhaaDoor
open Go.RowKit

/-- A block of cells, known whole. -/
def Box (w : World) (h : Nat) (cs : Array Value) (T : TypeId) : Prop := w.heap[h]? = some (.cells cs T (0, 0))
section
variable {w w' : World} {h : Nat} {cs : Array Value} {T : TypeId}
theorem Box.new (w : World) (cs : Array Value) (T : TypeId) : Box (w.alloc (.cells cs T)) w.heap.size cs T := heap_alloc_new w _
theorem Box.lt (b : Box w h cs T) : h < w.heap.size := (Array.getElem?_eq_some_iff.1 b).1
theorem Box.alloc (b : Box w h cs T) (o : Obj) : Box (w.alloc o) h cs T := (Below.heap_alloc _ _ _ b.lt).trans b
theorem Box.below (b : Box w h cs T) (hb : Below w.heap.size w w') : Box w' h cs T := (hb.block h b.lt).trans b
theorem Box.belowB {B : Nat} (b : Box w h cs T) (hb : Below B w w') (hB : h < B) : Box w' h cs T := (hb.block h hB).trans b
theorem Box.cell (b : Box w h cs T) (j : Nat) {v : Value} (hv : cs[j]? = some v) : w.cell? ⟨h, j, none⟩ = some v ∧ w.frozen? ⟨h, j, none⟩ = false := by
  constructor
  · rw [cell_of_row w h j cs T (0, 0) b]; exact hv
  · simp [World.frozen?, Box] at *; simp [b]
theorem Box.set (b : Box w h cs T) (j : Nat) (v : Value) : Box (w.setCell ⟨h, j, none⟩ v) h (cs.setIfInBounds j v) T := heap_setCell_same w h j cs T v b
theorem Box.other (b : Box w h cs T) {g j : Nat} {v : Value} (hg : h ≠ g) : Box (w.setCell ⟨g, j, none⟩ v) h cs T := (heap_setCell_other w ⟨g, j, none⟩ h v hg).trans b
theorem Box.kept {e : TypeId} {g : Nat} (b : Box w h cs T) (hk : Lib.OthersKept e (some g) w w') (hg : h ≠ g) (hT : T ≠ e) : Box w' h cs T :=
  hk h _ b (fun x => hg (Option.some.inj x)) (fun _ _ x => hT (by injection x))
end

/-- The letters of each operation. -/
def partsT : List (List Nat) := [[], [68, 110], [68, 65], [68, 65, 66], [68, 65, 66], [68, 65, 66], [68, 65, 66], [68], [68, 65], [68, 65, 66], [68, 78, 77], [68, 65, 78], [65, 78, 66], [68, 65, 78], [65, 78, 66], [68, 65, 78], [68, 65, 110], [68, 65], [65, 66], [68, 78, 76], [65], [78], [65, 78, 77], [65]]
def partsN (op : Int) : List Nat := if op < 0 then [] else partsT.getD op.toNat []
def strOf (l : List Nat) : ByteArray := ⟨(l.map UInt8.ofNat).toArray⟩
def TabP (w : World) : Prop := 0 < w.heap.size ∧ ∀ j, j < 24 → w.cell? ⟨0, j, none⟩ = some (.string (strOf (partsT.getD j [])))
theorem TabP.below {w w' : World} {B : Nat} (h : TabP w) (hb : Below B w w') (hB : 0 < B) : TabP w' :=
  ⟨Nat.lt_of_lt_of_le h.1 hb.size, fun j hj => (hb.cell (p := ⟨0, j, none⟩) hB).trans (h.2 j hj)⟩
def isLetter (c : Nat) : Prop := c = 68 ∨ c = 65 ∨ c = 66 ∨ c = 78 ∨ c = 77 ∨ c = 110 ∨ c = 76
theorem partsT_letter : ∀ l ∈ partsT, ∀ c ∈ l, isLetter c := by
  unfold isLetter; decide
theorem partsN_letter (op : Int) : ∀ c ∈ partsN op, isLetter c := by
  unfold partsN
  split
  · simp
  · by_cases h : op.toNat < partsT.length
    · exact partsT_letter _ (by rw [List.getD, List.getElem?_eq_getElem h]; exact List.getElem_mem h)
    · rw [List.getD, List.getElem?_eq_none (by omega)]; simp
theorem strOf_size (l : List Nat) : (strOf l).size = l.length := by simp [strOf, ByteArray.size]
theorem strOf_get {l : List Nat} (hl : ∀ c ∈ l, isLetter c) {k c : Nat} (h : l[k]? = some c) (hk : k < (strOf l).size) : ((strOf l)[k]'hk).toNat = c := by
  have hc := hl c (List.mem_of_getElem? h)
  obtain ⟨hk', rfl⟩ := List.getElem?_eq_some_iff.1 h
  show ((l.map UInt8.ofNat).toArray[k]'(by simpa using hk')).toNat = l[k]
  simp only [List.getElem_toArray, List.getElem_map]
  have : l[k] < 256 := by unfold isLetter at hc; omega
  simp [UInt8.toNat_ofNat']
  omega
theorem ret_str {a b : ByteArray} (h : a = b) : Ending.returned (.string a) = .returned (.string b) := by rw [h]
theorem parts_any (op : Int) (w : World) (hT : TabP w) (hop : i64R op) :
    Calls Tryd.prog 72 #[.int .i64 op] w fun e w' => e = .returned (.string (strOf (partsN op))) ∧ w = w' := by
  obtain ⟨h1, h2⟩ := hop
  by_cases h0 : op < 0
  · have he := hide (show strOf (partsN op) = ⟨#[]⟩ by unfold partsN; rw [if_pos h0]; rfl)
    go_enter Tryd.func72, Tryd.ntmps72
    go_wp2
    go_ret
    exact ⟨ret_str he.out.symm, rfl⟩
  · by_cases h24 : 24 ≤ op
    · have he := hide (show strOf (partsN op) = ⟨#[]⟩ by
        unfold partsN; rw [if_neg h0, List.getD, List.getElem?_eq_none (show partsT.length ≤ op.toNat by show 24 ≤ _; omega)]; rfl)
      go_enter Tryd.func72, Tryd.ntmps72
      go_wp2
      go_ret
      exact ⟨ret_str he.out.symm, rfl⟩
    · obtain ⟨j, rfl⟩ : ∃ j : Nat, op = j := ⟨op.toNat, by omega⟩
      have he := hide (show strOf (partsN j) = strOf (partsT.getD j []) by unfold partsN; rw [if_neg h0]; rfl)
      have hc := hT.2 j (by omega)
      have hs := hT.1
      have hj : j < 24 := by omega
      generalize strOf (partsT.getD j []) = s at *
      clear hT
      go_enter Tryd.func72, Tryd.ntmps72
      go_wp2
      go_ret
      exact ⟨ret_str he.out.symm, rfl⟩
theorem strOf_nil {l : List Nat} (h : l ≠ []) : (strOf l).toList ≠ [] := by simpa [strOf] using h
def kindB (k : Int) : Bool := k == 0 || k == 1 || k == 2
def baseB (k b : Int) : Bool := if k = 2 then decide (0 ≤ b) else b == -1
end Go.Proofs.YteoopilmdlhkhaaDoor
namespace Go.Proofs.YteoopilmdlhkhaaDoor
open Go.RowKit

end Go.Proofs.YteoopilmdlhkhaaDoor
namespace Go.Proofs.YteoopilmdlhkhaaDoor
open Go.RowKit

end Go.Proofs.YteoopilmdlhkhaaDoor
namespace Go.Proofs.YteoopilmdlhkhaaDoor
open Go.RowKit

end Go.Proofs.YteoopilmdlhkhaaDoor
namespace Go.Proofs.YteoopilmdlhkhaaDoor
open Go.RowKit

def fieldOf (c : Nat) (x : InsV) : Int := if c = 68 then x.d else if c = 65 then x.a else if c = 66 then x.b else if c = 77 then x.m else x.n
def setF (c : Nat) (v : Int) (x : InsV) : InsV := if c = 68 then { x with d := v } else if c = 65 then { x with a := v } else if c = 66 then { x with b := v } else if c = 77 then { x with m := v } else { x with n := v }
def bare (op : Int) : InsV := ⟨op, 0, 0, 0, 0, 0, []⟩
/-- What is left to be asked of an instruction: its parts from here on, and what it has without those before. -/
def mayL (x : InsV) : List Nat → InsV → Bool
  | [], r => decide (r = bare x.op)
  | c :: cs, r => if c = 110 then mayL x cs { r with n := 0 } else if c = 76 then x.args.all (fun z => decide (0 ≤ z)) && mayL x cs { r with args := [] } else decide (0 ≤ fieldOf c r) && mayL x cs (setF c 0 r)
def insMayB (x : InsV) : Bool := !(partsN x.op).isEmpty && mayL x (partsN x.op) x
def varMayB (kb : Int × Int) : Bool := kindB kb.1 && baseB kb.1 kb.2
def funMayB (f : FunV) : Bool := (decide (f.base.length = f.kinds.length) && (decide (0 ≤ f.params) && decide (0 ≤ f.result))) && ((f.kinds.zip f.base).all varMayB && f.blocks.all (fun b => b.all insMayB))

end Go.Proofs.YteoopilmdlhkhaaDoor
namespace Go.Proofs.YteoopilmdlhkhaaDoor
open Go.RowKit

end Go.Proofs.YteoopilmdlhkhaaDoor
namespace Go.Proofs.YteoopilmdlhkhaaDoor
open Go.RowKit

theorem alloc1 (w : World) (o : Obj) : Below w.heap.size w (w.alloc o) := (Below.refl _ _).alloc (Nat.le_refl _) _

end Go.Proofs.YteoopilmdlhkhaaDoor
