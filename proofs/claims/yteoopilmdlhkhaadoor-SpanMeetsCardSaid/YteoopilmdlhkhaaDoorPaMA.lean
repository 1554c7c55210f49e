/- Words for slices of integers in memory: what a slice value reads as ('Sl'), what the call owns ('Ow'), and append onto it. No condition. -/
import Derived.Test.YteoopilmdlhkhaaDoorRows
import Derived.WalkKit
import Derived.LoopTactic
import Derived.Deep.Draws
import Derived.Deep.AppendLies
import Derived.Laws.AppendOwnNone
import Derived.RowKitTokens
set_option linter.unusedSimpArgs false
set_option linter.unusedVariables false
namespace Go.Proofs.YteoopilmdlhkhaaDoor
open Go.RowKit

theorem ret_int {k : IntKind} {a b : Int} (h : a = b) : Ending.returned (.int k a) = .returned (.int k b) := by rw [h]
theorem ret_bool {a b : Bool} (h : a = b) : Ending.returned (.bool a) = .returned (.bool b) := by rw [h]
theorem hide {p : Prop} (h : p) : Hid p := h

/-- The slice whose address is A holds the numbers zs, in a block below B. -/
def Sl (w : World) (B : Nat) (k : IntKind) (A : Option Addr) (zs : List Int) : Prop :=
  0 < zs.length → ∃ b o, A = some ⟨b, o, none⟩ ∧ b < B ∧ ∀ j : Nat, j < zs.length → w.cell? ⟨b, o + j, none⟩ = some (.int k (zs.getD j 0))

section
variable {w w' : World} {B B' : Nat} {k : IntKind} {A : Option Addr} {zs : List Int}
theorem Sl.nil (w : World) (B : Nat) (k : IntKind) (A : Option Addr) : Sl w B k A [] := fun h => absurd h (by simp)
theorem Sl.keep (h : Sl w B k A zs) (hk : ∀ p : Addr, p.block < B → w'.cell? p = w.cell? p) : Sl w' B k A zs := fun hp => by
  obtain ⟨b, o, e, hb, hc⟩ := h hp
  exact ⟨b, o, e, hb, fun j hj => (hk _ hb).trans (hc j hj)⟩
theorem Sl.more (h : Sl w B k A zs) (hB : B ≤ B') : Sl w B' k A zs := fun hp => by
  obtain ⟨b, o, e, hb, hc⟩ := h hp
  exact ⟨b, o, e, by omega, hc⟩
theorem Sl.below (h : Sl w B k A zs) (hb : Below B w w') : Sl w' B k A zs := h.keep fun _ hp => hb.cell hp
theorem Sl.drewN (h : Sl w B k A zs) (q : Nat) : Sl (w.drewN q) B k A zs := h
theorem Sl.alloc (h : Sl w B k A zs) (hB : B ≤ w.heap.size) (o : Obj) : Sl (w.alloc o) B k A zs := h.keep fun p hp => World.cell?_alloc_lt w o p (by omega)
theorem getD_drop (zs : List Int) (i j : Nat) : (zs.drop i).getD j 0 = zs.getD (i + j) 0 := by simp [List.getD]
/-- A slice that is written out: a new block. -/
theorem Sl.lit (w : World) (e : TypeId) (k : IntKind) (cs : Array Value) (zs : List Int) (h : cs.toList = zs.map (Value.int k)) : Sl (w.alloc (.cells cs e)) (w.heap.size + 1) k (some ⟨w.heap.size, 0, none⟩) zs := fun _ => by
  refine ⟨w.heap.size, 0, rfl, by omega, fun j hj => ?_⟩
  rw [cell_of_row (w.alloc (.cells cs e)) w.heap.size (0 + j) cs e (0, 0) (heap_alloc_new w _), ← Array.getElem?_toList, h]
  simp [List.getD, hj]
/-- What is cut off at the front, in whichever of the two ways Go writes the address. -/
theorem Sl.drop (h : Sl w B k A zs) {i : Nat} {A' : Option Addr} (hA : i < zs.length → ∀ b o, A = some ⟨b, o, none⟩ → A' = some ⟨b, o + i, none⟩) : Sl w B k A' (zs.drop i) := fun hp => by
  have hi : i < zs.length := by simp at hp; omega
  obtain ⟨b, o, e, hb, hc⟩ := h (by omega)
  refine ⟨b, o + i, hA hi b o e, hb, fun j hj => ?_⟩
  rw [List.length_drop] at hj
  rw [getD_drop, Nat.add_assoc]
  exact hc (i + j) (by omega)
theorem Sl.take (h : Sl w B k A zs) (i : Nat) : Sl w B k A (zs.take i) := fun hp => by
  have hi : 0 < zs.length := by simp at hp; omega
  obtain ⟨b, o, e, hb, hc⟩ := h hi
  refine ⟨b, o, e, hb, fun j hj => ?_⟩
  have hj' : j < i ∧ j < zs.length := by rw [List.length_take] at hj; omega
  rw [hc j hj'.2]
  simp [List.getD, List.getElem?_take, hj'.1]
end

theorem below_drewN {B : Nat} {a w : World} (h : Below B a w) (n : Nat) : Below B a (w.drewN n) := ⟨h.os, h.tape, h.output, h.size, h.block⟩
/-- The slice value v is the call's own, from block 'base' on, and holds the numbers zs. -/
def Ow (w : World) (base : Nat) (e : TypeId) (k : IntKind) (v : Value) (zs : List Int) : Prop := w.ownsRow base e 1 v zs.length (zs.map (Value.int k))

section
variable {w w' : World} {base : Nat} {e : TypeId} {k : IntKind} {v : Value} {zs : List Int}
theorem Ow.nil (w : World) (base : Nat) (e : TypeId) (k : IntKind) : Ow w base e k (.slice none 0 0) [] := World.ownsRow_nil _ _ _ _
theorem Ow.alloc (h : Ow w base e k v zs) (o : Obj) : Ow (w.alloc o) base e k v zs := World.ownsRow.alloc h o
theorem Ow.drewN (h : Ow w base e k v zs) (q : Nat) : Ow (w.drewN q) base e k v zs := h
theorem Ow.lower (h : Ow w base e k v zs) {b : Nat} (hb : b ≤ base) : Ow w b e k v zs := by
  refine ⟨h.1, ?_⟩
  rcases h.2 with h2 | ⟨g, cap, cur, hv, hg, r⟩
  · exact .inl h2
  · exact .inr ⟨g, cap, cur, hv, by omega, r⟩
theorem Ow.sl (h : Ow w base e k v zs) : ∃ A c, v = .slice A zs.length c ∧ zs.length ≤ c ∧ c ≤ maxLen ∧ Sl w w.heap.size k A zs := by
  rcases h.2 with ⟨rfl, h0⟩ | ⟨g, cap, cur, rfl, hg, hh, hnc, hcm, hsz, htake⟩
  · have hz : zs = [] := List.eq_nil_of_length_eq_zero h0
    subst hz
    exact ⟨none, 0, rfl, Nat.le_refl _, by simp [maxLen], Sl.nil _ _ _ _⟩
  · refine ⟨_, _, rfl, hnc, hcm, fun hp => ⟨g, 0, rfl, (Array.getElem?_eq_some_iff.1 hh).1, fun j hj => ?_⟩⟩
    rw [Nat.zero_add, World.ownsRow.cellAt h j (by omega)]
    simp [List.getD, List.getElem?_eq_getElem hj]
/-- Kept by whatever turns nothing below the heap's size. -/
theorem Ow.below (h : Ow w base e k v zs) (hb : Below w.heap.size w w') : Ow w' base e k v zs := by
  refine ⟨h.1, ?_⟩
  rcases h.2 with h2 | ⟨g, cap, cur, hv, hg, hh, r⟩
  · exact .inl h2
  · exact .inr ⟨g, cap, cur, hv, hg, (hb.block g (Array.getElem?_eq_some_iff.1 hh).1).trans hh, r⟩
end

theorem ints_one (k : IntKind) (zs : List Int) : ∀ u ∈ zs.map (Value.int k), u.oneCell' = true := ints_oneCell k zs

section
variable {P : Program} (w : World)
/-- append(v, x..), v the call's own, x a slice that reads as 'news', nil or not. -/
theorem wpList_append_sl {ops : Array Oper} {rest : List Oper} {o : Oper} {a : Act} {Q : Exit → Act → World → Prop} (hgd : o.guard = none) (s x : Operand) (t : TypeId)
    (ho : o.op = .call { callee := .builtin .append, args := #[s, x], argTypes := #[t, t] })
    (base : Nat) (e : TypeId) (k : IntKind) (i : TypeInfo) (z : Value) (bytes : Nat) (ht : P.underlying t = some (.slice e)) (hi : P.info? e = some i) (hz : i.zero = some z)
    (hsize : i.size = 1) (hby : i.bytes = bytes) (hzs : z.cells.size = 1) (hb8 : bytes ≤ 8)
    (v : Value) (zs : List Int) (hs : a.eval s = v) (hown : Ow w base e k v zs)
    (B : Nat) (A : Option Addr) (m c : Nat) (news : List Int) (hx : a.eval x = .slice A m c) (hm : news.length = m) (hr : Sl w B k A news)
    (hroom : zs.length + m ≤ 1099511627776) (hbase : base ≤ w.heap.size)
    (h : ∀ v' w', Ow w' base e k v' (zs ++ news) → Below base w w' → wpList P ops Q rest (a.put o.dst v') w') : wpList P ops Q (o :: rest) a w := by
  subst hm
  refine wpList_plain hgd fun K hK => ?_
  have key : ∃ v' w', (Builtin.append_ #[t, t] o.type #[v, .slice A news.length c]).run P w = .ok v' w' ∧ Ow w' base e k v' (zs ++ news) ∧ Below base w w' := by
    by_cases h0 : news = []
    · subst h0
      refine ⟨v, w, ?_, by simpa using hown, Below.refl _ _⟩
      rcases hown.2 with ⟨rfl, _⟩ | ⟨g, cap, cur, rfl, _, _, hnc, _⟩
      · cases A <;> simp [Builtin.append_, run_underlying ht, sizeOf, typeInfo, hi, Builtin.lenOf, Builtin.firstCells, loadCells, loadCellsFrom]
      · cases A <;> simp [Builtin.append_, run_underlying ht, sizeOf, typeInfo, hi, Builtin.lenOf, Builtin.firstCells, hnc, storeCells, loadCells, loadCellsFrom]
        all_goals simp [List.length_map] at hnc
        all_goals first | omega | (simp [storeCells])
    · obtain ⟨b, off, rfl, _, hc⟩ := hr (List.length_pos_iff.2 h0)
      obtain ⟨v', w', hrun, h2, h3, _⟩ := run_append_own (P := P) w base t o.type e i z 1 bytes ht hi hz hsize hby hzs (by omega) v zs.length (zs.map (Value.int k)) hown ⟨b, off, none⟩ news.length c (news.map (Value.int k)) (by simp)
        (fun j u hu => by
          have hj : j < news.length := by have := (List.getElem?_eq_some_iff.1 hu).1; simpa using this
          rw [Addr.add_lit, hc j hj]
          rw [← hu]
          simp [List.getD, hj]) (ints_one k news) (by simp only [maxLen]; omega)
        (by have : (zs.length + news.length) * bytes ≤ 1099511627776 * 8 := Nat.mul_le_mul hroom hb8; omega) hbase
      refine ⟨v', w', hrun, by unfold Ow; simpa using h2, (Below.refl _ _).grown h3 hbase fun g hg => (World.ownsRow.lt hown g hg).1⟩
  obtain ⟨v', w', hrun, h2, h3⟩ := key
  unfold Oper.wp execOp
  simp only [ho, resolve, invoke, builtin, Sem.run_bind, Sem.run_pure, Result.andThen_ok, List.map_toArray, List.map_cons, List.map_nil, hs, hx, hrun]
  exact hK _ _ (h v' w' h2 h3)

/-- append(v, y), v the call's own: y lies in a new block of one cell. -/
theorem wpList_append_one {ops : Array Oper} {rest : List Oper} {o : Oper} {a : Act} {Q : Exit → Act → World → Prop} (hgd : o.guard = none) (s x : Operand) (t : TypeId)
    (ho : o.op = .call { callee := .builtin .append, args := #[s, x], argTypes := #[t, t] })
    (base : Nat) (e : TypeId) (k : IntKind) (i : TypeInfo) (z : Value) (bytes : Nat) (ht : P.underlying t = some (.slice e)) (hi : P.info? e = some i) (hz : i.zero = some z)
    (hsize : i.size = 1) (hby : i.bytes = bytes) (hzs : z.cells.size = 1) (hb8 : bytes ≤ 8)
    (v : Value) (zs : List Int) (hs : a.eval s = v) (hown : Ow w base e k v zs) (y : Int)
    (hx : a.eval x = .slice (some ⟨w.heap.size, 0, none⟩) 1 1)
    (hroom : zs.length < 1099511627776) (hbase : base ≤ w.heap.size)
    (h : ∀ v' w', Ow w' base e k v' (zs ++ [y]) → Below base w w' → wpList P ops Q rest (a.put o.dst v') w') : wpList P ops Q (o :: rest) a (w.alloc (.cells #[.int k y] e)) :=
  wpList_append_sl (w.alloc (.cells #[.int k y] e)) hgd s x t ho base e k i z bytes ht hi hz hsize hby hzs hb8 v zs hs (hown.alloc _) (w.heap.size + 1) (some ⟨w.heap.size, 0, none⟩) 1 1 [y] hx rfl
    (fun _ => ⟨w.heap.size, 0, rfl, by omega, fun j hj => by
      have : j = 0 := by simpa using hj
      subst this
      simp⟩) (by omega) (by simp; omega) (fun v' w' h1 h2 => h v' w' h1 (((Below.refl _ _).alloc hbase _).trans h2))
end
end Go.Proofs.YteoopilmdlhkhaaDoor
namespace Go.Proofs.YteoopilmdlhkhaaDoor

/-- A number's bytes, seven bits each, the lowest first. -/
def enc (u : Nat) : List Int := if u < 128 then [(u : Int)] else ((u % 128 + 128 : Nat) : Int) :: enc (u / 128)
  termination_by u

/-- The number that bytes begin with, once u is read of i bytes: the number, how many bytes, the error. 'most': so many bytes at most. -/
def rd (most : Nat) : Nat → Nat → List Int → Nat × Nat × Nat
  | _, i, [] => if i < most then (0, 0, 2) else (0, 0, 3)
  | u, i, z :: zs =>
    if i < most then
      if 128 ≤ z then rd most (u + (z % 128).toNat * 128 ^ i) (i + 1) zs
      else if i = 9 ∧ 1 < z then (0, 0, 3)
      else if 0 < i ∧ z = 0 then (0, 0, 4)
      else (u + z.toNat * 128 ^ i, i + 1, 0)
    else (0, 0, 3)

/-- A signed number's place, and the number of a place. -/
def zz (n : Int) : Nat := if n < 0 then ((-n - 1) * 2 + 1).toNat else (n * 2).toNat
def unz (u : Nat) : Int := if u % 2 = 1 then -((u / 2 : Nat) : Int) - 1 else ((u / 2 : Nat) : Int)
end Go.Proofs.YteoopilmdlhkhaaDoor
namespace Go.Proofs.YteoopilmdlhkhaaDoor
open Go.RowKit


end Go.Proofs.YteoopilmdlhkhaaDoor
