/- Texts of several names, of which only what the statement needs is kept. -/
import Derived.Test.YthbnbaikdcfbmaaGreatDoorRows
import Derived.WalkKit
import Derived.Deep.AppendLies
import Derived.Laws.AppendOwnNone
import Derived.RowKitTokens
import Derived.BigQuiet
import Derived.Laws.EntriesVeiled
import Derived.Deep.RegionHeld3
import Derived.Lib.OthersKept
set_option linter.unusedSimpArgs false
set_option linter.unusedVariables false
namespace Go.Proofs.YthbnbaikdcfbmaaGreatDoor
open Go.RowKit
theorem jem {k : IntKind} {a b : Int} (h : a = b) : Ending.returned (.int k a) = .returned (.int k b) := by rw [h]
theorem ja1 {a b : Bool} (h : a = b) : Ending.returned (.bool a) = .returned (.bool b) := by rw [h]
theorem hide {p : Prop} (h : p) : Hid p := h
def Sl (w : World) (B : Nat) (k : IntKind) (A : Option Addr) (zs : List Int) : Prop :=
 0 < zs.length -> ∃ b o, A = some ⟨b, o, none⟩ /\ b < B /\ ∀ j : Nat, j < zs.length -> w.cell? ⟨b, o + j, none⟩ = some (.int k (zs.getD j 0))
section
variable {w w' : World} {B B' : Nat} {k : IntKind} {A : Option Addr} {zs : List Int}
theorem Sl.nil (w : World) (B : Nat) (k : IntKind) (A : Option Addr) : Sl w B k A [] := fun h => absurd h (by simp)
theorem Sl.keep (h : Sl w B k A zs) (hk : ∀ p : Addr, p.block < B -> w'.cell? p = w.cell? p) : Sl w' B k A zs := fun hp => by
 obtain ⟨b, o, e, hb, hc⟩ := h hp
 exact ⟨b, o, e, hb, fun j hj => (hk _ hb).trans (hc j hj)⟩
theorem Sl.more (h : Sl w B k A zs) (hB : B <= B') : Sl w B' k A zs := fun hp => by
 obtain ⟨b, o, e, hb, hc⟩ := h hp
 exact ⟨b, o, e, by omega, hc⟩
theorem Sl.below (h : Sl w B k A zs) (hb : Below B w w') : Sl w' B k A zs := h.keep fun _ hp => hb.cell hp
theorem Sl.alloc (h : Sl w B k A zs) (hB : B <= w.heap.size) (o : Obj) : Sl (w.alloc o) B k A zs := h.keep fun p hp => World.cell?_alloc_lt w o p (by omega)
theorem Sl.lit (w : World) (e : TypeId) (k : IntKind) (cs : Array Value) (zs : List Int) (h : cs.toList = zs.map (Value.int k)) : Sl (w.alloc (.cells cs e)) (w.heap.size + 1) k (some ⟨w.heap.size, 0, none⟩) zs := fun _ => by
 refine ⟨w.heap.size, 0, rfl, by omega, fun j hj => ?_⟩
 rw [cell_of_row (w.alloc (.cells cs e)) w.heap.size (0 + j) cs e (0, 0) (heap_alloc_new w _), <- Array.getElem?_toList, h]
 simp [List.getD, hj]
theorem Sl.take (h : Sl w B k A zs) (i : Nat) : Sl w B k A (zs.take i) := fun hp => by
 have hi : 0 < zs.length := by simp at hp; omega
 obtain ⟨b, o, e, hb, hc⟩ := h hi
 refine ⟨b, o, e, hb, fun j hj => ?_⟩
 have hj' : j < i /\ j < zs.length := by rw [List.length_take] at hj; omega
 rw [hc j hj'.2]
 simp [List.getD, List.getElem?_take, hj'.1]
end
theorem ja0 {B : Nat} {a w : World} (h : Below B a w) (n : Nat) : Below B a (w.drewN n) := ⟨h.os, h.tape, h.output, h.size, h.block⟩
def Ow (w : World) (base : Nat) (e : TypeId) (k : IntKind) (v : Value) (zs : List Int) : Prop := w.ownsRow base e 1 v zs.length (zs.map (Value.int k))
section
variable {w w' : World} {base : Nat} {e : TypeId} {k : IntKind} {v : Value} {zs : List Int}
theorem Ow.nil (w : World) (base : Nat) (e : TypeId) (k : IntKind) : Ow w base e k (.slice none 0 0) [] := World.ownsRow_nil _ _ _ _
theorem Ow.alloc (h : Ow w base e k v zs) (o : Obj) : Ow (w.alloc o) base e k v zs := World.ownsRow.alloc h o
theorem Ow.lower (h : Ow w base e k v zs) {b : Nat} (hb : b <= base) : Ow w b e k v zs := by
 refine ⟨h.1, ?_⟩
 rcases h.2 with h2 | ⟨g, cap, cur, hv, hg, r⟩
 ·exact .inl h2
 ·exact .inr ⟨g, cap, cur, hv, by omega, r⟩
theorem Ow.sl (h : Ow w base e k v zs) : ∃ A c, v = .slice A zs.length c /\ zs.length <= c /\ c <= maxLen /\ Sl w w.heap.size k A zs := by
 rcases h.2 with ⟨rfl, h0⟩ | ⟨g, cap, cur, rfl, hg, hh, hnc, hcm, hsz, htake⟩
 ·have hz : zs = [] := List.eq_nil_of_length_eq_zero h0
  subst hz
  exact ⟨none, 0, rfl, Nat.le_refl _, by simp [maxLen], Sl.nil _ _ _ _⟩
 ·refine ⟨_, _, rfl, hnc, hcm, fun hp => ⟨g, 0, rfl, (Array.getElem?_eq_some_iff.1 hh).1, fun j hj => ?_⟩⟩
  rw [Nat.zero_add, World.ownsRow.cellAt h j (by omega)]
  simp [List.getD, List.getElem?_eq_getElem hj]
theorem Ow.below (h : Ow w base e k v zs) (hb : Below w.heap.size w w') : Ow w' base e k v zs := by
 refine ⟨h.1, ?_⟩
 rcases h.2 with h2 | ⟨g, cap, cur, hv, hg, hh, r⟩
 ·exact .inl h2
 ·exact .inr ⟨g, cap, cur, hv, hg, (hb.block g (Array.getElem?_eq_some_iff.1 hh).1).trans hh, r⟩
end
theorem jpw {xs ys : List Int} {k : Nat} {x : Int} (h : xs.take k = ys.take k) (hx : xs[k]? = some x) (hy : ys[k]? = some x) : xs.take (k + 1) = ys.take (k + 1) := by
 rw [List.take_add_one, List.take_add_one, h, hx, hy]
theorem jnh (k : IntKind) (zs : List Int) : ∀ u ∈ zs.map (Value.int k), u.oneCell' = true := ints_oneCell k zs
section
variable {P : Program} (w : World)
theorem jai {ops : Array Oper} {rest : List Oper} {o : Oper} {a : Act} {Q : Exit -> Act -> World -> Prop} (hgd : o.guard = none) (s x : Operand) (t : TypeId)
  (ho : o.op = .call { callee := .builtin .append, args := #[s, x], argTypes := #[t, t] })
  (base : Nat) (e : TypeId) (k : IntKind) (i : TypeInfo) (z : Value) (bytes : Nat) (ht : P.underlying t = some (.slice e)) (hi : P.info? e = some i) (hz : i.zero = some z)
  (hsize : i.size = 1) (hby : i.bytes = bytes) (hzs : z.cells.size = 1) (hb8 : bytes <= 8)
  (v : Value) (zs : List Int) (hs : a.eval s = v) (hown : Ow w base e k v zs)
  (B : Nat) (A : Option Addr) (m c : Nat) (news : List Int) (hx : a.eval x = .slice A m c) (hm : news.length = m) (hr : Sl w B k A news)
  (hroom : zs.length + m <= 1099511627776) (hbase : base <= w.heap.size)
  (h : ∀ v' w', Ow w' base e k v' (zs ++ news) -> Below base w w' -> wpList P ops Q rest (a.put o.dst v') w') : wpList P ops Q (o :: rest) a w := by
 subst hm
 refine wpList_plain hgd fun K hK => ?_
 have key : ∃ v' w', (Builtin.append_ #[t, t] o.type #[v, .slice A news.length c]).run P w = .ok v' w' /\ Ow w' base e k v' (zs ++ news) /\ Below base w w' := by
  by_cases h0 : news = []
  ·subst h0
   refine ⟨v, w, ?_, by simpa using hown, Below.refl _ _⟩
   rcases hown.2 with ⟨rfl, _⟩ | ⟨g, cap, cur, rfl, _, _, hnc, _⟩
   ·cases A <;> simp [Builtin.append_, run_underlying ht, sizeOf, typeInfo, hi, Builtin.lenOf, Builtin.firstCells, loadCells, loadCellsFrom]
   ·cases A <;> simp [Builtin.append_, run_underlying ht, sizeOf, typeInfo, hi, Builtin.lenOf, Builtin.firstCells, hnc, storeCells, loadCells, loadCellsFrom]
    all_goals simp [List.length_map] at hnc
    all_goals first | omega | (simp [storeCells])
  ·obtain ⟨b, off, rfl, _, hc⟩ := hr (List.length_pos_iff.2 h0)
   obtain ⟨v', w', hrun, h2, h3, _⟩ := run_append_own (P := P) w base t o.type e i z 1 bytes ht hi hz hsize hby hzs (by omega) v zs.length (zs.map (Value.int k)) hown ⟨b, off, none⟩ news.length c (news.map (Value.int k)) (by simp)
    (fun j u hu => by
     have hj : j < news.length := by have := (List.getElem?_eq_some_iff.1 hu).1; simpa using this
     rw [Addr.add_lit, hc j hj]
     rw [<- hu]
     simp [List.getD, hj]) (jnh k news) (by simp only [maxLen]; omega)
    (by have : (zs.length + news.length) * bytes <= 1099511627776 * 8 := Nat.mul_le_mul hroom hb8; omega) hbase
   refine ⟨v', w', hrun, by unfold Ow; simpa using h2, (Below.refl _ _).grown h3 hbase fun g hg => (World.ownsRow.lt hown g hg).1⟩
 obtain ⟨v', w', hrun, h2, h3⟩ := key
 unfold Oper.wp execOp
 simp only [ho, resolve, invoke, builtin, Sem.run_bind, Sem.run_pure, Result.andThen_ok, List.map_toArray, List.map_cons, List.map_nil, hs, hx, hrun]
 exact hK _ _ (h v' w' h2 h3)
theorem jak {ops : Array Oper} {rest : List Oper} {o : Oper} {a : Act} {Q : Exit -> Act -> World -> Prop} (hgd : o.guard = none) (s x : Operand) (t : TypeId)
  (ho : o.op = .call { callee := .builtin .append, args := #[s, x], argTypes := #[t, t] })
  (base : Nat) (e : TypeId) (k : IntKind) (i : TypeInfo) (z : Value) (bytes : Nat) (ht : P.underlying t = some (.slice e)) (hi : P.info? e = some i) (hz : i.zero = some z)
  (hsize : i.size = 1) (hby : i.bytes = bytes) (hzs : z.cells.size = 1) (hb8 : bytes <= 8)
  (v : Value) (zs : List Int) (hs : a.eval s = v) (hown : Ow w base e k v zs) (y : Int)
  (hx : a.eval x = .slice (some ⟨w.heap.size, 0, none⟩) 1 1)
  (hroom : zs.length < 1099511627776) (hbase : base <= w.heap.size)
  (h : ∀ v' w', Ow w' base e k v' (zs ++ [y]) -> Below base w w' -> wpList P ops Q rest (a.put o.dst v') w') : wpList P ops Q (o :: rest) a (w.alloc (.cells #[.int k y] e)) :=
 jai (w.alloc (.cells #[.int k y] e)) hgd s x t ho base e k i z bytes ht hi hz hsize hby hzs hb8 v zs hs (hown.alloc _) (w.heap.size + 1) (some ⟨w.heap.size, 0, none⟩) 1 1 [y] hx rfl
  (fun _ => ⟨w.heap.size, 0, rfl, by omega, fun j hj => by
   have : j = 0 := by simpa using hj
   subst this
   simp⟩) (by omega) (by simp; omega) (fun v' w' h1 h2 => h v' w' h1 (((Below.refl _ _).alloc hbase _).trans h2))
end
def enc (u : Nat) : List Int := if u < 128 then [(u : Int)] else ((u % 128 + 128 : Nat) : Int) :: enc (u / 128)
 termination_by u
structure InsV where
 op : Int
 d : Int
 a : Int
 b : Int
 n : Int
 m : Int
 args : List Int
instance : DecidableEq InsV := fun x y =>
 decidable_of_iff (x.op = y.op /\ x.d = y.d /\ x.a = y.a /\ x.b = y.b /\ x.n = y.n /\ x.m = y.m /\ x.args = y.args) (by
  cases x; cases y
  simp only [InsV.mk.injEq])
structure FunV where
 kinds : List Int
 base : List Int
 params : Int
 result : Int
 blocks : List (List InsV)
instance : DecidableEq FunV := fun x y =>
 decidable_of_iff (x.kinds = y.kinds /\ x.base = y.base /\ x.params = y.params /\ x.result = y.result /\ x.blocks = y.blocks) (by
  cases x; cases y
  simp only [FunV.mk.injEq])
def i64R (z : Int) : Prop := -9223372036854775808 <= z /\ z <= 9223372036854775807
def Vec {α : Type} (s : Nat) (P : Nat -> Nat -> α -> Prop) (S : Nat -> Prop) (v : Value) (xs : List α) : Prop :=
 ∃ A c, v = .slice A xs.length c /\ xs.length <= c /\ c <= 9223372036854775807 /\ (0 < xs.length -> ∃ b o, A = some ⟨b, o, none⟩ /\ S b /\ ∀ (j : Nat) (x : α), xs[j]? = some x -> P b (o + j * s) x)
theorem Vec.mono {α : Type} {s : Nat} {P P' : Nat -> Nat -> α -> Prop} {S S' : Nat -> Prop} {v : Value} {xs : List α} (h : Vec s P S v xs) (hS : ∀ b, S b -> S' b) (hP : ∀ b o x, S b -> x ∈ xs -> P b o x -> P' b o x) : Vec s P' S' v xs := by
 obtain ⟨A, c, e, h1, h2, h3⟩ := h
 refine ⟨A, c, e, h1, h2, fun hp => ?_⟩
 obtain ⟨b, o, e2, hb, hc⟩ := h3 hp
 exact ⟨b, o, e2, hS b hb, fun j x hj => hP _ _ _ hb (List.mem_of_getElem? hj) (hc j x hj)⟩
theorem Vec.nil {α : Type} (s : Nat) (P : Nat -> Nat -> α -> Prop) (S : Nat -> Prop) : Vec s P S (.slice none 0 0) ([] : List α) := ⟨none, 0, rfl, Nat.le_refl _, by omega, fun h => absurd h (by simp)⟩
def Same' (S : Nat -> Prop) (w w' : World) : Prop := ∀ b o, S b -> w'.cell? ⟨b, o, none⟩ = w.cell? ⟨b, o, none⟩
theorem Same'.of_below {B : Nat} {w w' : World} (h : Below B w w') : Same' (· < B) w w' := fun b o hb => h.cell (p := ⟨b, o, none⟩) hb
def IntC (w : World) (b o : Nat) (z : Int) : Prop := w.cell? ⟨b, o, none⟩ = some (.int .i64 z) /\ i64R z
def IntsV (w : World) (S : Nat -> Prop) (v : Value) (zs : List Int) : Prop := Vec 1 (IntC w) S v zs
def InsR (x : InsV) : Prop := i64R x.op /\ i64R x.d /\ i64R x.a /\ i64R x.b /\ i64R x.n /\ i64R x.m
def InsI (w : World) (S : Nat -> Prop) (va : Value) (x : InsV) : Prop := IntsV w S va x.args /\ InsR x
def InsC (w : World) (S : Nat -> Prop) (b o : Nat) (x : InsV) : Prop :=
 ∃ va, (w.cell? ⟨b, o, none⟩ = some (.int .i64 x.op) /\ w.cell? ⟨b, o + 1, none⟩ = some (.int .i64 x.d) /\ w.cell? ⟨b, o + 2, none⟩ = some (.int .i64 x.a) /\ w.cell? ⟨b, o + 3, none⟩ = some (.int .i64 x.b) /\
  w.cell? ⟨b, o + 4, none⟩ = some (.int .i64 x.n) /\ w.cell? ⟨b, o + 5, none⟩ = some (.int .i64 x.m) /\ w.cell? ⟨b, o + 6, none⟩ = some va) /\ InsI w S va x
def InssV (w : World) (S : Nat -> Prop) (v : Value) (xs : List InsV) : Prop := Vec 7 (InsC w S) S v xs
def BlkC (w : World) (S : Nat -> Prop) (b o : Nat) (x : List InsV) : Prop := ∃ v, w.cell? ⟨b, o, none⟩ = some v /\ InssV w S v x
def BlksV (w : World) (S : Nat -> Prop) (v : Value) (xs : List (List InsV)) : Prop := Vec 1 (BlkC w S) S v xs
def FunI (w : World) (S : Nat -> Prop) (vk vb vs : Value) (f : FunV) : Prop := IntsV w S vk f.kinds /\ IntsV w S vb f.base /\ BlksV w S vs f.blocks /\ i64R f.params /\ i64R f.result
def FunC (w : World) (S : Nat -> Prop) (b o : Nat) (f : FunV) : Prop :=
 ∃ vk vb vs, (w.cell? ⟨b, o, none⟩ = some vk /\ w.cell? ⟨b, o + 1, none⟩ = some vb /\ w.cell? ⟨b, o + 2, none⟩ = some (.int .i64 f.params) /\ w.cell? ⟨b, o + 3, none⟩ = some (.int .i64 f.result) /\ w.cell? ⟨b, o + 4, none⟩ = some vs) /\ FunI w S vk vb vs f
def FunsV (w : World) (S : Nat -> Prop) (v : Value) (p : List FunV) : Prop := Vec 5 (FunC w S) S v p
section
variable {w w' : World} {S S' : Nat -> Prop}
theorem IntsV.keep {v : Value} {zs : List Int} (h : IntsV w S v zs) (hk : Same' S w w') (hS : ∀ b, S b -> S' b) : IntsV w' S' v zs :=
 Vec.mono h hS fun b o _ hb _ hc => ⟨(hk b o hb).trans hc.1, hc.2⟩
theorem InsI.keep {v : Value} {x : InsV} (h : InsI w S v x) (hk : Same' S w w') (hS : ∀ b, S b -> S' b) : InsI w' S' v x := ⟨IntsV.keep h.1 hk hS, h.2⟩
theorem InssV.keep {v : Value} {xs : List InsV} (h : InssV w S v xs) (hk : Same' S w w') (hS : ∀ b, S b -> S' b) : InssV w' S' v xs :=
 Vec.mono h hS fun b o x hb _ ⟨va, ⟨h0, h1, h2, h3, h4, h5, h6⟩, hi⟩ => ⟨va, ⟨(hk b _ hb).trans h0, (hk b _ hb).trans h1, (hk b _ hb).trans h2, (hk b _ hb).trans h3, (hk b _ hb).trans h4, (hk b _ hb).trans h5, (hk b _ hb).trans h6⟩, InsI.keep hi hk hS⟩
theorem BlksV.keep {v : Value} {xs : List (List InsV)} (h : BlksV w S v xs) (hk : Same' S w w') (hS : ∀ b, S b -> S' b) : BlksV w' S' v xs :=
 Vec.mono h hS fun b o x hb _ ⟨va, h0, hi⟩ => ⟨va, (hk b _ hb).trans h0, InssV.keep hi hk hS⟩
theorem FunI.keep {vk vb vs : Value} {f : FunV} (h : FunI w S vk vb vs f) (hk : Same' S w w') (hS : ∀ b, S b -> S' b) : FunI w' S' vk vb vs f :=
 ⟨IntsV.keep h.1 hk hS, IntsV.keep h.2.1 hk hS, BlksV.keep h.2.2.1 hk hS, h.2.2.2⟩
theorem FunsV.keep {v : Value} {p : List FunV} (h : FunsV w S v p) (hk : Same' S w w') (hS : ∀ b, S b -> S' b) : FunsV w' S' v p :=
 Vec.mono h hS fun b o x hb _ ⟨vk, vb, vs, ⟨h0, h1, h2, h3, h4⟩, hi⟩ => ⟨vk, vb, vs, ⟨(hk b _ hb).trans h0, (hk b _ hb).trans h1, (hk b _ hb).trans h2, (hk b _ hb).trans h3, (hk b _ hb).trans h4⟩, FunI.keep hi hk hS⟩
end
theorem IntsV.sl {w : World} {B : Nat} {v : Value} {zs : List Int} (h : IntsV w (· < B) v zs) : ∃ A c, v = .slice A zs.length c /\ zs.length <= c /\ c <= 9223372036854775807 /\ Sl w B .i64 A zs /\ ∀ z ∈ zs, i64R z := by
 obtain ⟨A, c, e, h1, h2, h3⟩ := h
 refine ⟨A, c, e, h1, h2, fun hp => ?_, fun z hz => ?_⟩
 ·obtain ⟨b, o, e2, hb, hc⟩ := h3 hp
  refine ⟨b, o, e2, hb, fun j hj => ?_⟩
  have := (hc j (zs.getD j 0) (by simp [List.getD, hj])).1
  rwa [Nat.mul_one] at this
 ·obtain ⟨j, hj⟩ := List.getElem?_of_mem hz
  obtain ⟨b, o, _, _, hc⟩ := h3 (by have := (List.getElem?_eq_some_iff.1 hj).1; omega)
  exact (hc j z hj).2
section
variable {w w' : World} {S : Nat -> Prop} {B : Nat}
theorem InsI.open' {va : Value} {x : InsV} (h : InsI w S va x) : ∃ A c, va = .slice A x.args.length c := by
 obtain ⟨⟨A, c, e, -⟩, -⟩ := h
 exact ⟨A, c, e⟩
theorem InssV.get {A : Option Addr} {n c k : Nat} {xs : List InsV} {y : InsV} (h : InssV w S (.slice A n c) xs) (hy : xs[k]? = some y) :
  ∃ b o A1 c1, A = some ⟨b, o, none⟩ /\ S b /\ (w.cell? ⟨b, o + k * 7, none⟩ = some (.int .i64 y.op) /\ w.cell? ⟨b, o + k * 7 + 1, none⟩ = some (.int .i64 y.d) /\ w.cell? ⟨b, o + k * 7 + 2, none⟩ = some (.int .i64 y.a) /\ w.cell? ⟨b, o + k * 7 + 3, none⟩ = some (.int .i64 y.b) /\
   w.cell? ⟨b, o + k * 7 + 4, none⟩ = some (.int .i64 y.n) /\ w.cell? ⟨b, o + k * 7 + 5, none⟩ = some (.int .i64 y.m) /\ w.cell? ⟨b, o + k * 7 + 6, none⟩ = some (.slice A1 y.args.length c1)) /\ InsI w S (.slice A1 y.args.length c1) y := by
 obtain ⟨A', c', e, -, -, h3⟩ := h
 injection e with eA _ _
 subst eA
 obtain ⟨b, o, rfl, hb, hc⟩ := h3 (by have := (List.getElem?_eq_some_iff.1 hy).1; omega)
 obtain ⟨va, h7, hi⟩ := hc k y hy
 obtain ⟨A1, c1, rfl⟩ := hi.open'
 exact ⟨b, o, A1, c1, rfl, hb, h7, hi⟩
theorem InssV.open' {v : Value} {xs : List InsV} (h : InssV w S v xs) : ∃ A c, v = .slice A xs.length c /\ xs.length <= c /\ c <= 9223372036854775807 := by
 obtain ⟨A, c, e, h1, h2, -⟩ := h
 exact ⟨A, c, e, h1, h2⟩
theorem BlksV.open' {v : Value} {xs : List (List InsV)} (h : BlksV w S v xs) : ∃ A c, v = .slice A xs.length c /\ xs.length <= c /\ c <= 9223372036854775807 := by
 obtain ⟨A, c, e, h1, h2, -⟩ := h
 exact ⟨A, c, e, h1, h2⟩
theorem IntsV.open' {v : Value} {xs : List Int} (h : IntsV w S v xs) : ∃ A c, v = .slice A xs.length c /\ xs.length <= c /\ c <= 9223372036854775807 := by
 obtain ⟨A, c, e, h1, h2, -⟩ := h
 exact ⟨A, c, e, h1, h2⟩
theorem FunsV.open' {v : Value} {xs : List FunV} (h : FunsV w S v xs) : ∃ A c, v = .slice A xs.length c /\ xs.length <= c /\ c <= 9223372036854775807 := by
 obtain ⟨A, c, e, h1, h2, -⟩ := h
 exact ⟨A, c, e, h1, h2⟩
theorem IntsV.get {A : Option Addr} {n c k : Nat} {xs : List Int} {y : Int} (h : IntsV w S (.slice A n c) xs) (hy : xs[k]? = some y) :
  ∃ b o, A = some ⟨b, o, none⟩ /\ S b /\ w.cell? ⟨b, o + k, none⟩ = some (.int .i64 y) /\ i64R y := by
 obtain ⟨A', c', e, -, -, h3⟩ := h
 injection e with eA _ _
 subst eA
 obtain ⟨b, o, rfl, hb, hc⟩ := h3 (by have := (List.getElem?_eq_some_iff.1 hy).1; omega)
 have := hc k y hy
 rw [Nat.mul_one] at this
 exact ⟨b, o, rfl, hb, this⟩
theorem BlksV.get {A : Option Addr} {n c k : Nat} {xs : List (List InsV)} {y : List InsV} (h : BlksV w S (.slice A n c) xs) (hy : xs[k]? = some y) :
  ∃ b o A1 c1, A = some ⟨b, o, none⟩ /\ S b /\ w.cell? ⟨b, o + k, none⟩ = some (.slice A1 y.length c1) /\ InssV w S (.slice A1 y.length c1) y := by
 obtain ⟨A', c', e, -, -, h3⟩ := h
 injection e with eA _ _
 subst eA
 obtain ⟨b, o, rfl, hb, hc⟩ := h3 (by have := (List.getElem?_eq_some_iff.1 hy).1; omega)
 obtain ⟨v, h1, hi⟩ := hc k y hy
 rw [Nat.mul_one] at h1
 obtain ⟨A1, c1, rfl, -, -⟩ := hi.open'
 exact ⟨b, o, A1, c1, rfl, hb, h1, hi⟩
theorem FunsV.get {A : Option Addr} {n c k : Nat} {xs : List FunV} {y : FunV} (h : FunsV w S (.slice A n c) xs) (hy : xs[k]? = some y) :
  ∃ b o Ak ck Ab cb As cs, A = some ⟨b, o, none⟩ /\ S b /\ (w.cell? ⟨b, o + k * 5, none⟩ = some (.slice Ak y.kinds.length ck) /\ w.cell? ⟨b, o + k * 5 + 1, none⟩ = some (.slice Ab y.base.length cb) /\ w.cell? ⟨b, o + k * 5 + 2, none⟩ = some (.int .i64 y.params) /\
   w.cell? ⟨b, o + k * 5 + 3, none⟩ = some (.int .i64 y.result) /\ w.cell? ⟨b, o + k * 5 + 4, none⟩ = some (.slice As y.blocks.length cs)) /\ FunI w S (.slice Ak y.kinds.length ck) (.slice Ab y.base.length cb) (.slice As y.blocks.length cs) y := by
 obtain ⟨A', c', e, -, -, h3⟩ := h
 injection e with eA _ _
 subst eA
 obtain ⟨b, o, rfl, hb, hc⟩ := h3 (by have := (List.getElem?_eq_some_iff.1 hy).1; omega)
 obtain ⟨vk, vb, vs, h5, hi⟩ := hc k y hy
 obtain ⟨Ak, ck, rfl, -, -⟩ := hi.1.open'
 obtain ⟨Ab, cb, rfl, -, -⟩ := hi.2.1.open'
 obtain ⟨As, cs, rfl, -, -⟩ := hi.2.2.1.open'
 exact ⟨b, o, Ak, ck, Ab, cb, As, cs, rfl, hb, h5, hi⟩
theorem up (h : Below w.heap.size w w') (hB : B <= w.heap.size) : Same' (· < B) w w' := fun b o hb => h.cell (p := ⟨b, o, none⟩) (Nat.lt_of_lt_of_le hb hB)
end
theorem jbm (w : World) (o1 o2 : Obj) : Below w.heap.size w ((w.alloc o1).alloc o2) := ((Below.refl _ _).alloc (Nat.le_refl _) _).alloc (by simp) _
theorem jay {α : Type} {p : α -> Bool} {l : List α} {k : Nat} {y : α} (h : (l.take k).all p = true) (hy : l[k]? = some y) (hp : p y = true) : (l.take (k + 1)).all p = true := by
 rw [List.take_add_one, List.all_append, h, hy]; simp [hp]
theorem jb1 {α : Type} {p : α -> Bool} {l : List α} {k : Nat} {y : α} (hy : l[k]? = some y) (hp : p y = false) : l.all p = false := by
 rw [List.all_eq_false]; exact ⟨y, List.mem_of_getElem? hy, by simp [hp]⟩
theorem jbx {α : Type} {p : α -> Bool} {l : List α} {k n : Nat} (h : (l.take k).all p = true) (hn : l.length = n) (hk : n <= k) : l.all p = true := by
 rwa [List.take_of_length_le (by omega)] at h
def Box (w : World) (h : Nat) (cs : Array Value) (T : TypeId) : Prop := w.heap[h]? = some (.cells cs T (0, 0))
section
variable {w w' : World} {h : Nat} {cs : Array Value} {T : TypeId}
theorem Box.new (w : World) (cs : Array Value) (T : TypeId) : Box (w.alloc (.cells cs T)) w.heap.size cs T := heap_alloc_new w _
theorem Box.lt (b : Box w h cs T) : h < w.heap.size := (Array.getElem?_eq_some_iff.1 b).1
theorem Box.alloc (b : Box w h cs T) (o : Obj) : Box (w.alloc o) h cs T := (Below.heap_alloc _ _ _ b.lt).trans b
theorem Box.below (b : Box w h cs T) (hb : Below w.heap.size w w') : Box w' h cs T := (hb.block h b.lt).trans b
theorem Box.belowB {B : Nat} (b : Box w h cs T) (hb : Below B w w') (hB : h < B) : Box w' h cs T := (hb.block h hB).trans b
theorem Box.cell (b : Box w h cs T) (j : Nat) {v : Value} (hv : cs[j]? = some v) : w.cell? ⟨h, j, none⟩ = some v /\ w.frozen? ⟨h, j, none⟩ = false := by
 constructor
 ·rw [cell_of_row w h j cs T (0, 0) b]; exact hv
 ·simp [World.frozen?, Box] at *; simp [b]
theorem Box.set (b : Box w h cs T) (j : Nat) (v : Value) : Box (w.setCell ⟨h, j, none⟩ v) h (cs.setIfInBounds j v) T := heap_setCell_same w h j cs T v b
theorem Box.other (b : Box w h cs T) {g j : Nat} {v : Value} (hg : h ≠ g) : Box (w.setCell ⟨g, j, none⟩ v) h cs T := (heap_setCell_other w ⟨g, j, none⟩ h v hg).trans b
end
def partsT : List (List Nat) := [[], [68, 110], [68, 65], [68, 65, 66], [68, 65, 66], [68, 65, 66], [68, 65, 66], [68], [68, 65], [68, 65, 66], [68, 78, 77], [68, 65, 78], [65, 78, 66], [68, 65, 78], [65, 78, 66], [68, 65, 78], [68, 65, 110], [68, 65], [65, 66], [68, 78, 76], [65], [78], [65, 78, 77], [65]]
def jae (op : Int) : List Nat := if op < 0 then [] else partsT.getD op.toNat []
def jaf (l : List Nat) : ByteArray := ⟨(l.map UInt8.ofNat).toArray⟩
def TabP (w : World) : Prop := 1 < w.heap.size /\ ∀ j, j < 24 -> w.cell? ⟨1, j, none⟩ = some (.string (jaf (partsT.getD j [])))
theorem TabP.below {w w' : World} {B : Nat} (h : TabP w) (hb : Below B w w') (hB : 1 < B) : TabP w' :=
 ⟨Nat.lt_of_lt_of_le h.1 hb.size, fun j hj => (hb.cell (p := ⟨1, j, none⟩) hB).trans (h.2 j hj)⟩
def ja5 (c : Nat) : Prop := c = 68 \/ c = 65 \/ c = 66 \/ c = 78 \/ c = 77 \/ c = 110 \/ c = 76
theorem jit : ∀ l ∈ partsT, ∀ c ∈ l, ja5 c := by
 unfold ja5; decide
theorem jdg (op : Int) : ∀ c ∈ jae op, ja5 c := by
 unfold jae
 split
 ·simp
 ·by_cases h : op.toNat < partsT.length
  ·exact jit _ (by rw [List.getD, List.getElem?_eq_getElem h]; exact List.getElem_mem h)
  ·rw [List.getD, List.getElem?_eq_none (by omega)]; simp
theorem ji3 (op : Int) : (jae op).length <= 3 := by
 unfold jae
 split
 ·simp
 ·by_cases h : op.toNat < partsT.length
  ·rw [List.getD, List.getElem?_eq_getElem h]
   have : ∀ l ∈ partsT, l.length <= 3 := by decide
   exact this _ (List.getElem_mem h)
  ·rw [List.getD, List.getElem?_eq_none (by omega)]; simp
theorem jd4 (l : List Nat) : (jaf l).size = l.length := by simp [jaf, ByteArray.size]
theorem jgj {l : List Nat} (hl : ∀ c ∈ l, ja5 c) {k c : Nat} (h : l[k]? = some c) (hk : k < (jaf l).size) : ((jaf l)[k]'hk).toNat = c := by
 have hc := hl c (List.mem_of_getElem? h)
 obtain ⟨hk', rfl⟩ := List.getElem?_eq_some_iff.1 h
 show ((l.map UInt8.ofNat).toArray[k]'(by simpa using hk')).toNat = l[k]
 simp only [List.getElem_toArray, List.getElem_map]
 have : l[k] < 256 := by unfold ja5 at hc; omega
 simp [UInt8.toNat_ofNat']
 omega
theorem jma {P : Program} (w : World) (h k c : Nat) (l : List Nat) (ty : TypeId) (hit : w.heap[h]? = some (.stringIter (jaf l) k)) (hl : ∀ c ∈ l, ja5 c) (hc : l[k]? = some c) :
  (Instr.next (.pointer (some ⟨h, 0, none⟩)) true ty).run P w = .ok (.tuple #[.bool true, .int .i64 k, .int .i32 (c : Int)]) (w.iterAt h (jaf l) (k + 1)) := by
 have hk : k < (jaf l).size := by rw [jd4]; exact (List.getElem?_eq_some_iff.1 hc).1
 have e := jgj hl hc hk
 have hlt : c < 128 := by have := hl c (List.mem_of_getElem? hc); unfold ja5 at this; omega
 rw [Lib.run_next_ascii_at w h _ k ty hit hk (by omega), e]
theorem next_end {P : Program} (w : World) (h k : Nat) (l : List Nat) (ty : TypeId) (hit : w.heap[h]? = some (.stringIter (jaf l) k)) (hk : l.length <= k) :
  (Instr.next (.pointer (some ⟨h, 0, none⟩)) true ty).run P w = .ok (.tuple #[.bool false]) w := Lib.run_next_end_at w h _ k ty hit (by rw [jd4]; omega)
theorem jip {a b : ByteArray} (h : a = b) : Ending.returned (.string a) = .returned (.string b) := by rw [h]
theorem jgr (op : Int) (w : World) (hT : TabP w) (hop : i64R op) :
  Calls Tryz.prog 135 #[.int .i64 op] w fun e w' => e = .returned (.string (jaf (jae op))) /\ w = w' := by
 obtain ⟨h1, h2⟩ := hop
 by_cases h0 : op < 0
 ·have he := hide (show jaf (jae op) = ⟨#[]⟩ by unfold jae; rw [if_pos h0]; rfl)
  go_enter Tryz.func135, Tryz.ntmps135
  go_wp2
  go_ret
  exact ⟨jip he.out.symm, rfl⟩
 ·by_cases h24 : 24 <= op
  ·have he := hide (show jaf (jae op) = ⟨#[]⟩ by
    unfold jae; rw [if_neg h0, List.getD, List.getElem?_eq_none (show partsT.length <= op.toNat by show 24 <= _; omega)]; rfl)
   go_enter Tryz.func135, Tryz.ntmps135
   go_wp2
   go_ret
   exact ⟨jip he.out.symm, rfl⟩
  ·obtain ⟨j, rfl⟩ : ∃ j : Nat, op = j := ⟨op.toNat, by omega⟩
   have he := hide (show jaf (jae j) = jaf (partsT.getD j []) by unfold jae; rw [if_neg h0]; rfl)
   have hc := hT.2 j (by omega)
   have hs := hT.1
   have hj : j < 24 := by omega
   generalize jaf (partsT.getD j []) = s at *
   clear hT
   go_enter Tryz.func135, Tryz.ntmps135
   go_wp2
   go_ret
   exact ⟨jip he.out.symm, rfl⟩
theorem jew {l : List Nat} (h : l ≠ []) : (jaf l).toList ≠ [] := by simpa [jaf] using h
theorem len_le {A : Option Addr} {n c : Nat} {w : World} {S : Nat -> Prop} {xs : List Int} (h : IntsV w S (.slice A n c) xs) : n <= 9223372036854775807 /\ xs.length = n := by
 obtain ⟨A', c', e, h1, h2, -⟩ := h
 injection e with _ e1 e2
 omega
theorem ji8 {w : World} {h : Nat} {s : ByteArray} {k : Nat} (hit : w.heap[h]? = some (.stringIter s k)) : w.iterPos h = k := by simp [World.iterPos, hit]
theorem jrr {w : World} {h : Nat} {s : ByteArray} {k : Nat} (hit : w.heap[h]? = some (.stringIter s k)) : h < w.heap.size := (Array.getElem?_eq_some_iff.1 hit).1
theorem ja4 (w : World) (o : Obj) : Below w.heap.size w (w.alloc o) := (Below.refl _ _).alloc (Nat.le_refl _) _
theorem zl {α : Sort _} (x : α) : ∃ y, x = y := ⟨x, rfl⟩
theorem zr {α : Sort _} (x : α) : ∃ y, y = x := ⟨x, rfl⟩
theorem zb1 {w v : World} {o : Obj} (e : v = w.alloc o) : Hid (Below w.heap.size w v) := by subst e; exact (Below.refl _ _).alloc (Nat.le_refl _) _
theorem zb2 {w v : World} {o p : Obj} (e : v = (w.alloc o).alloc p) : Hid (Below w.heap.size w v) := by subst e; exact ((Below.refl _ _).alloc (Nat.le_refl _) _).alloc (by simp only [World.size_alloc]; omega) _
theorem zb3 {w v : World} {o p q : Obj} (e : v = ((w.alloc o).alloc p).alloc q) : Hid (Below w.heap.size w v) := by subst e; exact (((Below.refl _ _).alloc (Nat.le_refl _) _).alloc (by simp only [World.size_alloc]; omega) _).alloc (by simp only [World.size_alloc]; omega) _
theorem zb4 {w v : World} {o p q r : Obj} (e : v = (((w.alloc o).alloc p).alloc q).alloc r) : Hid (Below w.heap.size w v) := by subst e; exact ((((Below.refl _ _).alloc (Nat.le_refl _) _).alloc (by simp only [World.size_alloc]; omega) _).alloc (by simp only [World.size_alloc]; omega) _).alloc (by simp only [World.size_alloc]; omega) _
theorem zx1 {w v : World} {c : Array Value} {T : TypeId} {h : Nat} (e : v = w.alloc (.cells c T)) (f : w.heap.size = h) : Hid (Box v h c T) := by subst e; subst f; exact Box.new w _ _
theorem zx2 {w v : World} {c : Array Value} {T : TypeId} {h : Nat} {o : Obj} (e : v = (w.alloc o).alloc (.cells c T)) (f : w.heap.size = h) : Hid (Box v (h + 1) c T) := by subst e; subst f; have t := Box.new (w.alloc o) c T; simp only [World.size_alloc] at t; exact t
theorem zx3 {w v : World} {c : Array Value} {T : TypeId} {h : Nat} {o p : Obj} (e : v = ((w.alloc o).alloc p).alloc (.cells c T)) (f : w.heap.size = h) : Hid (Box v (h + 1 + 1) c T) := by subst e; subst f; have t := Box.new ((w.alloc o).alloc p) c T; simp only [World.size_alloc] at t; exact t
theorem zy2 {w v : World} {c : Array Value} {T : TypeId} {h : Nat} {o : Obj} (e : v = (w.alloc (.cells c T)).alloc o) (f : w.heap.size = h) : Hid (Box v h c T) := by subst e; subst f; exact (Box.new w _ _).alloc _
theorem zy3 {w v : World} {c : Array Value} {T : TypeId} {h : Nat} {o p : Obj} (e : v = ((w.alloc (.cells c T)).alloc o).alloc p) (f : w.heap.size = h) : Hid (Box v h c T) := by subst e; subst f; exact ((Box.new w _ _).alloc _).alloc _
theorem zm3 {w v : World} {c : Array Value} {T : TypeId} {h : Nat} {o p : Obj} (e : v = ((w.alloc o).alloc (.cells c T)).alloc p) (f : w.heap.size = h) : Hid (Box v (h + 1) c T) := by subst e; subst f; have t := Box.new (w.alloc o) c T; simp only [World.size_alloc] at t; exact t.alloc _
theorem zs1 {w v : World} {h : Nat} {o : Obj} (e : v = w.alloc o) (f : w.heap.size = h) : Hid (v.heap.size = h + 1) := by subst e; subst f; exact World.size_alloc _ _
theorem zs2 {w v : World} {h : Nat} {o p : Obj} (e : v = (w.alloc o).alloc p) (f : w.heap.size = h) : Hid (v.heap.size = h + 1 + 1) := by subst e; subst f; exact (show _ = _ by simp only [World.size_alloc])
theorem zk1 {w : World} {g : Nat} {T : TypeId} {a0 : Value} (b : Hid (Box w g #[a0] T)) : Hid (∀ (W : World), Below w.heap.size w W -> W.cell? ⟨g, 0, none⟩ = some a0) := fun W h => ((b.out.below h).cell 0 rfl).1
theorem zk2 {w : World} {g : Nat} {T : TypeId} {a0 a1 : Value} (b : Hid (Box w g #[a0, a1] T)) : Hid (∀ (W : World), Below w.heap.size w W -> W.cell? ⟨g, 0, none⟩ = some a0 /\ W.cell? ⟨g, 1, none⟩ = some a1) := fun W h => ⟨((b.out.below h).cell 0 rfl).1, ((b.out.below h).cell 1 rfl).1⟩
theorem zk3 {w : World} {g : Nat} {T : TypeId} {a0 a1 a2 : Value} (b : Hid (Box w g #[a0, a1, a2] T)) : Hid (∀ (W : World), Below w.heap.size w W -> W.cell? ⟨g, 0, none⟩ = some a0 /\ W.cell? ⟨g, 1, none⟩ = some a1 /\ W.cell? ⟨g, 2, none⟩ = some a2) := fun W h => ⟨((b.out.below h).cell 0 rfl).1, ((b.out.below h).cell 1 rfl).1, ((b.out.below h).cell 2 rfl).1⟩
theorem zk5 {w : World} {g : Nat} {T : TypeId} {a0 a1 a2 a3 a4 : Value} (b : Hid (Box w g #[a0, a1, a2, a3, a4] T)) : Hid (∀ (W : World), Below w.heap.size w W -> W.cell? ⟨g, 0, none⟩ = some a0 /\ W.cell? ⟨g, 1, none⟩ = some a1 /\ W.cell? ⟨g, 2, none⟩ = some a2 /\ W.cell? ⟨g, 3, none⟩ = some a3 /\ W.cell? ⟨g, 4, none⟩ = some a4) := fun W h => ⟨((b.out.below h).cell 0 rfl).1, ((b.out.below h).cell 1 rfl).1, ((b.out.below h).cell 2 rfl).1, ((b.out.below h).cell 3 rfl).1, ((b.out.below h).cell 4 rfl).1⟩
theorem zk7 {w : World} {g : Nat} {T : TypeId} {a0 a1 a2 a3 a4 a5 a6 : Value} (b : Hid (Box w g #[a0, a1, a2, a3, a4, a5, a6] T)) : Hid (∀ (W : World), Below w.heap.size w W -> W.cell? ⟨g, 0, none⟩ = some a0 /\ W.cell? ⟨g, 1, none⟩ = some a1 /\ W.cell? ⟨g, 2, none⟩ = some a2 /\ W.cell? ⟨g, 3, none⟩ = some a3 /\ W.cell? ⟨g, 4, none⟩ = some a4 /\ W.cell? ⟨g, 5, none⟩ = some a5 /\ W.cell? ⟨g, 6, none⟩ = some a6) := fun W h => ⟨((b.out.below h).cell 0 rfl).1, ((b.out.below h).cell 1 rfl).1, ((b.out.below h).cell 2 rfl).1, ((b.out.below h).cell 3 rfl).1, ((b.out.below h).cell 4 rfl).1, ((b.out.below h).cell 5 rfl).1, ((b.out.below h).cell 6 rfl).1⟩
end Go.Proofs.YthbnbaikdcfbmaaGreatDoor
