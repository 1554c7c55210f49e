/- Plain mathematics: what the reader reads, as functions of what is left of the bytes and the first error. No condition. -/
import Derived.Test.YteoopilmdlhkhaaDoorPaMB
import Derived.Test.YteoopilmdlhkhaaDoorPaMC
import Derived.Laws.MakeOwn
import Derived.Deep.RegionHeld3
import Derived.Deep.CutRange
import Derived.RegionTactic
set_option linter.unusedSimpArgs false
set_option linter.unusedVariables false
namespace Go.Proofs.YteoopilmdlhkhaaDoor
open Go.RowKit

/-- What is left of the bytes, and the first error's number. -/
abbrev St := List Int × Nat
def numT (s : St) : Int × St := if s.2 = 0 then (((rd 9 0 0 s.1).1 : Int), (s.1.drop (rd 9 0 0 s.1).2.1, (rd 9 0 0 s.1).2.2)) else (0, s)
def snumT (s : St) : Int × St := if s.2 = 0 then (unz (rd 10 0 0 s.1).1, (s.1.drop (rd 10 0 0 s.1).2.1, (rd 10 0 0 s.1).2.2)) else (0, s)
def onlyT (may : Int → Bool) (er : Nat) (s : St) : Int × St := if (numT s).2.2 = 0 then (if may (numT s).1 = true then numT s else (0, ((numT s).2.1, er))) else (0, (numT s).2)
def limB (lo hi : Int) (n : Int) : Bool := decide (lo ≤ n) && decide (n ≤ hi)
def cntT (lo hi : Int) (s : St) : Int × St := onlyT (limB lo hi) 9 s
def isOpB (n : Int) : Bool := !(partsN n).isEmpty
def varT (s : St) : (Int × Int) × St := if (onlyT kindB 5 s).1 = 2 then ((2, (numT (onlyT kindB 5 s).2).1), (numT (onlyT kindB 5 s).2).2) else (((onlyT kindB 5 s).1, -1), (onlyT kindB 5 s).2)
def manyT {α : Type} (f : St → α × St) : Nat → St → List α × St
  | 0, s => ([], s)
  | n + 1, s => ((manyT f n s).1 ++ [(f (manyT f n s).2).1], (f (manyT f n s).2).2)
def listT (s : St) : List Int × St := manyT numT (cntT 0 4 s).1.toNat (cntT 0 4 s).2
def partT (p : InsV × St) (c : Nat) : InsV × St :=
  if c = 110 then ({ p.1 with n := (snumT p.2).1 }, (snumT p.2).2) else if c = 76 then ({ p.1 with args := (listT p.2).1 }, (listT p.2).2) else (setF c (numT p.2).1 p.1, (numT p.2).2)
def insT (s : St) : InsV × St := (partsN (onlyT isOpB 5 s).1).foldl partT (bare (onlyT isOpB 5 s).1, (onlyT isOpB 5 s).2)
def blkT (s : St) : List InsV × St := manyT insT (cntT 0 40 s).1.toNat (cntT 0 40 s).2
def varsT (s : St) : List (Int × Int) × St := manyT varT (cntT 0 48 s).1.toNat (cntT 0 48 s).2
def blksT (s : St) : List (List InsV) × St := manyT blkT (cntT 0 40 s).1.toNat (cntT 0 40 s).2
def funT (s : St) : FunV × St :=
  (⟨(varsT s).1.map (·.1), (varsT s).1.map (·.2), (numT (varsT s).2).1, (numT (numT (varsT s).2).2).1, (blksT (numT (numT (varsT s).2).2).2).1⟩, (blksT (numT (numT (varsT s).2).2).2).2)
def progT (s : St) : List FunV × St := manyT funT (cntT 1 8 s).1.toNat (cntT 1 8 s).2
/-- The error at the end. -/
def endE (s : St) : Nat := if s.2 = 0 ∧ 0 < s.1.length then 11 else s.2
def decR (zs : List Int) : List FunV × Nat := if endE (progT (zs, 0)).2 = 0 then ((progT (zs, 0)).1, 0) else ([], endE (progT (zs, 0)).2)

theorem manyT_st {α : Type} (f : St → α × St) (n : Nat) (s : St) : (manyT f (n + 1) s).2 = (f (manyT f n s).2).2 := rfl
theorem manyT_ls {α : Type} (f : St → α × St) (n : Nat) (s : St) : (manyT f (n + 1) s).1 = (manyT f n s).1 ++ [(f (manyT f n s).2).1] := rfl

/-- Bytes are bytes. -/
def Byt (s : St) : Prop := ∀ z ∈ s.1, 0 ≤ z ∧ z ≤ 255
theorem Byt.drop {zs : List Int} {e e' k : Nat} (h : Byt (zs, e)) : Byt (zs.drop k, e') := fun z hz => h z (List.mem_of_mem_drop hz)
end Go.Proofs.YteoopilmdlhkhaaDoor
namespace Go.Proofs.YteoopilmdlhkhaaDoor
open Go.RowKit

/-- All blocks but g are as they were. -/
structure Read (g : Nat) (w w' : World) : Prop where
  os : w'.os = w.os
  tape : w'.tape = w.tape
  output : w'.output = w.output
  size : w.heap.size ≤ w'.heap.size
  block : ∀ k, k < w.heap.size → k ≠ g → w'.heap[k]? = w.heap[k]?
section
variable {g : Nat} {w w1 w2 : World}
theorem Read.refl (g : Nat) (w : World) : Read g w w := ⟨rfl, rfl, rfl, Nat.le_refl _, fun _ _ _ => rfl⟩
theorem Read.trans (h : Read g w w1) (h2 : Read g w1 w2) : Read g w w2 :=
  ⟨h2.os.trans h.os, h2.tape.trans h.tape, h2.output.trans h.output, Nat.le_trans h.size h2.size, fun k hk hg => (h2.block k (by have := h.size; omega) hg).trans (h.block k hk hg)⟩
theorem Read.alloc (h : Read g w w1) (o : Obj) : Read g w (w1.alloc o) :=
  h.trans ⟨rfl, rfl, rfl, by simp, fun k hk _ => Below.heap_alloc _ _ _ hk⟩
theorem Read.of_below (h : Below w.heap.size w w1) : Read g w w1 := ⟨h.os, h.tape, h.output, h.size, fun k hk _ => h.block k hk⟩
theorem Read.set (h : Read g w w1) {b j : Nat} {v : Value} (hb : w.heap.size ≤ b ∨ b = g) : Read g w (w1.setCell ⟨b, j, none⟩ v) :=
  ⟨h.os, h.tape, h.output, by rw [World.size_setCell]; exact h.size, fun k hk hg => (heap_setCell_other w1 ⟨b, j, none⟩ k v (by simp; omega)).trans (h.block k hk hg)⟩
theorem Read.drewN (h : Read g w w1) (q : Nat) : Read g w (w1.drewN q) := ⟨h.os, h.tape, h.output, h.size, h.block⟩
theorem Read.below (h : Read g w w1) (hg : g ≤ w.heap.size) : Below g w w1 := ⟨h.os, h.tape, h.output, h.size, fun k hk => h.block k (by omega) (by omega)⟩
theorem Read.box {k : Nat} {cs : Array Value} {T : TypeId} (h : Read g w w1) (b : Box w k cs T) (hk : k ≠ g) : Box w1 k cs T := (h.block k b.lt hk).trans b
theorem Read.same {S : Nat → Prop} (h : Read g w w1) (hS : ∀ b, S b → b < w.heap.size ∧ b ≠ g) : Same' S w w1 := fun b o hb => World.cell?_of_block (a := ⟨b, o, none⟩) (h.block b (hS b hb).1 (hS b hb).2)
end

end Go.Proofs.YteoopilmdlhkhaaDoor
namespace Go.Proofs.YteoopilmdlhkhaaDoor
open Go.RowKit

end Go.Proofs.YteoopilmdlhkhaaDoor
namespace Go.Proofs.YteoopilmdlhkhaaDoor
open Go.RowKit

theorem mk_run (t e : TypeId) {z : Value} {sz bytes : Nat} (ht : Tryd.prog.underlying t = some (.slice e)) (hi : (Tryd.prog.info? e).map (fun i => (i.zero, i.size, i.bytes)) = some (some z, sz, bytes)) (hb : bytes ≤ 1000) (m : Nat) (hm : m ≤ 1000) (W : World) :
    (Instr.makeSlice t (.int .i64 (m : Int)) (.int .i64 (m : Int))).run Tryd.prog W = .ok (.slice (some ⟨W.heap.size, 0, none⟩) m m) (W.alloc (.cells (madeCells z.cells (m * sz)) e)) := by
  obtain ⟨i0, hi0, hz0, hz1, hz2⟩ := info_parts hi
  have hmul : i0.bytes * m ≤ 1000 * 1000 := by rw [hz2]; exact Nat.mul_le_mul hb hm
  have h := run_make (P := Tryd.prog) W t e i0 z ht hi0 hz0 .i64 .i64 (m : Int) (m : Int) (by omega) (by omega) (by rw [← Int.natCast_mul]; omega) (by omega)
  rw [hz1, Int.toNat_natCast] at h
  exact h

/-- A block of numbers under way: n of them, of which those of l are laid. -/
def FillI (w : World) (h : Nat) (T : TypeId) (n : Nat) (l : List Int) : Prop := ∃ cur : Array Value, Box w h cur T ∧ cur.size = n ∧ ∀ (j : Nat) (x : Int), l[j]? = some x → cur[j]? = some (.int .i64 x) ∧ i64R x
section
variable {w w' : World} {h n : Nat} {T : TypeId} {l : List Int}
theorem FillI.new (w : World) (cs : Array Value) (T : TypeId) (hn : cs.size = n) : FillI (w.alloc (.cells cs T)) w.heap.size T n [] := ⟨cs, Box.new w cs T, hn, fun j x hj => by simp at hj⟩
theorem FillI.lt (f : FillI w h T n l) : h < w.heap.size := by
  obtain ⟨cur, hb, -⟩ := f
  exact hb.lt
theorem FillI.keep (f : FillI w h T n l) (hk : w'.heap[h]? = w.heap[h]?) : FillI w' h T n l := by
  obtain ⟨cur, hb, hs, hc⟩ := f
  exact ⟨cur, hk.trans hb, hs, hc⟩
theorem FillI.cell (f : FillI w h T n l) {k : Nat} (hk : k < n) : ∃ v, w.cell? ⟨h, k, none⟩ = some v ∧ w.frozen? ⟨h, k, none⟩ = false := by
  obtain ⟨cur, hb, hs, -⟩ := f
  obtain ⟨v, hv⟩ : ∃ v, cur[k]? = some v := ⟨_, Array.getElem?_eq_getElem (by omega)⟩
  exact ⟨v, hb.cell k hv⟩
theorem FillI.set (f : FillI w h T n l) {k : Nat} {x : Int} (hk : k < n) (hl : l.length = k) (hx : i64R x) : FillI (w.setCell ⟨h, k, none⟩ (.int .i64 x)) h T n (l ++ [x]) := by
  obtain ⟨cur, hb, hs, hc⟩ := f
  refine ⟨_, hb.set k _, by simpa using hs, fun j y hj => ?_⟩
  by_cases hjl : j < l.length
  · rw [List.getElem?_append_left hjl] at hj
    have := hc j y hj
    rw [Array.getElem?_setIfInBounds_ne (by omega)]
    exact this
  · have hjk : j = k := by
      have := (List.getElem?_eq_some_iff.1 hj).1
      simp at this; omega
    subst hjk
    rw [← hl, List.getElem?_append_right (Nat.le_refl _)] at hj
    simp at hj
    subst hj
    rw [Array.getElem?_setIfInBounds_self]
    exact ⟨by rw [if_pos (by omega)], hx⟩
theorem FillI.ints (f : FillI w h T n l) (hl : l.length = n) (hn : n ≤ 1000) {S : Nat → Prop} (hS : S h) : IntsV w S (.slice (some ⟨h, 0, none⟩) n n) l := by
  obtain ⟨cur, hb, hs, hc⟩ := f
  subst hl
  refine ⟨_, _, rfl, Nat.le_refl _, by omega, fun _ => ⟨h, 0, rfl, hS, fun j x hj => ?_⟩⟩
  obtain ⟨h1, h2⟩ := hc j x hj
  refine ⟨?_, h2⟩
  rw [Nat.zero_add, Nat.mul_one]
  exact (hb.cell j h1).1
end
end Go.Proofs.YteoopilmdlhkhaaDoor
namespace Go.Proofs.YteoopilmdlhkhaaDoor
open Go.RowKit

theorem same_set' {S : Nat → Prop} {w : World} {g j : Nat} {v : Value} (h : ∀ b, S b → b ≠ g) : Same' S w (w.setCell ⟨g, j, none⟩ v) := fun b o hb => World.cell?_setCell_far _ _ _ _ (by simpa using (h b hb).symm)
theorem InsR.setF {r : InsV} (h : InsR r) (c : Nat) {v : Int} (hv : i64R v) : InsR (setF c v r) := by
  obtain ⟨h0, h1, h2, h3, h4, h5⟩ := h
  unfold Proofs.YteoopilmdlhkhaaDoor.setF
  split
  · exact ⟨h0, hv, h2, h3, h4, h5⟩
  · split
    · exact ⟨h0, h1, hv, h3, h4, h5⟩
    · split
      · exact ⟨h0, h1, h2, hv, h4, h5⟩
      · split
        · exact ⟨h0, h1, h2, h3, h4, hv⟩
        · exact ⟨h0, h1, h2, h3, hv, h5⟩
end Go.Proofs.YteoopilmdlhkhaaDoor
namespace Go.Proofs.YteoopilmdlhkhaaDoor
open Go.RowKit

/-- n things of s cells in block h, of which those of l are laid. -/
def FillE {α : Type} (w : World) (h : Nat) (T : TypeId) (s n : Nat) (E : Array Value → Nat → α → Prop) (l : List α) : Prop :=
  ∃ cur : Array Value, Box w h cur T ∧ cur.size = n * s ∧ ∀ (j : Nat) (x : α), l[j]? = some x → E cur (j * s) x
section
variable {α : Type} {w w' : World} {h s n : Nat} {T : TypeId} {l : List α} {E E' : Array Value → Nat → α → Prop}
theorem FillE.new (w : World) (cs : Array Value) (T : TypeId) (hn : cs.size = n * s) : FillE (w.alloc (.cells cs T)) w.heap.size T s n E ([] : List α) := ⟨cs, Box.new w cs T, hn, fun j x hj => by simp at hj⟩
theorem FillE.lt (f : FillE w h T s n E l) : h < w.heap.size := by
  obtain ⟨cur, hb, -⟩ := f
  exact hb.lt
theorem FillE.keep (f : FillE w h T s n E l) (hk : w'.heap[h]? = w.heap[h]?) (hE : ∀ cur o x, E cur o x → E' cur o x) : FillE w' h T s n E' l := by
  obtain ⟨cur, hb, hs, hc⟩ := f
  exact ⟨cur, hk.trans hb, hs, fun j x hj => hE _ _ _ (hc j x hj)⟩
theorem FillE.cell (f : FillE w h T s n E l) {k i : Nat} (hk : k < n) (hi : i < s) : ∃ v, w.cell? ⟨h, k * s + i, none⟩ = some v ∧ w.frozen? ⟨h, k * s + i, none⟩ = false := by
  obtain ⟨cur, hb, hs, -⟩ := f
  have hle : (k + 1) * s ≤ n * s := Nat.mul_le_mul_right _ hk
  rw [Nat.add_mul] at hle
  obtain ⟨v, hv⟩ : ∃ v, cur[k * s + i]? = some v := ⟨_, Array.getElem?_eq_getElem (by omega)⟩
  exact ⟨v, hb.cell _ hv⟩
theorem FillE.put (f : FillE w h T s n E l) {k : Nat} {x : α} (hl : l.length = k)
    (hset : ∀ cur, Box w h cur T → cur.size = n * s → ∃ cur' : Array Value, Box w' h cur' T ∧ cur'.size = cur.size ∧ (∀ i, i < k * s → cur'[i]? = cur[i]?) ∧ E' cur' (k * s) x)
    (hE : ∀ (cur cur' : Array Value) (o : Nat) (y : α), (∀ i, i < s → cur'[o + i]? = cur[o + i]?) → E cur o y → E' cur' o y) : FillE w' h T s n E' (l ++ [x]) := by
  obtain ⟨cur, hb, hs, hc⟩ := f
  obtain ⟨cur', hb', hs', hu, hx⟩ := hset cur hb hs
  refine ⟨cur', hb', by omega, fun j y hj => ?_⟩
  by_cases hjl : j < l.length
  · rw [List.getElem?_append_left hjl] at hj
    refine hE cur cur' _ y (fun i hi => hu _ ?_) (hc j y hj)
    have : (j + 1) * s ≤ k * s := Nat.mul_le_mul_right _ (by omega)
    rw [Nat.add_mul] at this
    omega
  · have hjk : j = k := by
      have := (List.getElem?_eq_some_iff.1 hj).1
      simp at this; omega
    subst hjk
    rw [← hl, List.getElem?_append_right (Nat.le_refl _)] at hj
    simp at hj
    subst hj
    exact hx
theorem FillE.vec (f : FillE w h T s n E l) (hl : l.length = n) (hn : n ≤ 1000) {S : Nat → Prop} {P : Nat → Nat → α → Prop} (hS : S h) (hP : ∀ cur o x, Box w h cur T → E cur o x → P h o x) : Vec s P S (.slice (some ⟨h, 0, none⟩) n n) l := by
  obtain ⟨cur, hb, hs, hc⟩ := f
  subst hl
  refine ⟨_, _, rfl, Nat.le_refl _, by omega, fun _ => ⟨h, 0, rfl, hS, fun j x hj => ?_⟩⟩
  rw [Nat.zero_add]
  exact hP _ _ _ hb (hc j x hj)
end

def InsE (w : World) (S : Nat → Prop) (cur : Array Value) (o : Nat) (x : InsV) : Prop :=
  ∃ va, (cur[o]? = some (.int .i64 x.op) ∧ cur[o + 1]? = some (.int .i64 x.d) ∧ cur[o + 2]? = some (.int .i64 x.a) ∧ cur[o + 3]? = some (.int .i64 x.b) ∧ cur[o + 4]? = some (.int .i64 x.n) ∧ cur[o + 5]? = some (.int .i64 x.m) ∧ cur[o + 6]? = some va) ∧ InsI w S va x
theorem InsE.keep {w w' : World} {S S' : Nat → Prop} {cur cur' : Array Value} {o : Nat} {x : InsV} (h : InsE w S cur o x) (hc : ∀ i, i < 7 → cur'[o + i]? = cur[o + i]?) (hk : Same' S w w') (hS : ∀ b, S b → S' b) : InsE w' S' cur' o x := by
  obtain ⟨va, ⟨h0, h1, h2, h3, h4, h5, h6⟩, hi⟩ := h
  exact ⟨va, ⟨(hc 0 (by omega)).trans h0, (hc 1 (by omega)).trans h1, (hc 2 (by omega)).trans h2, (hc 3 (by omega)).trans h3, (hc 4 (by omega)).trans h4, (hc 5 (by omega)).trans h5, (hc 6 (by omega)).trans h6⟩, hi.keep hk hS⟩
theorem InsE.insC {w : World} {S : Nat → Prop} {cur : Array Value} {h o : Nat} {T : TypeId} {x : InsV} (hx : InsE w S cur o x) (hb : Box w h cur T) : InsC w S h o x := by
  obtain ⟨va, ⟨h0, h1, h2, h3, h4, h5, h6⟩, hi⟩ := hx
  exact ⟨va, ⟨(hb.cell _ h0).1, (hb.cell _ h1).1, (hb.cell _ h2).1, (hb.cell _ h3).1, (hb.cell _ h4).1, (hb.cell _ h5).1, (hb.cell _ h6).1⟩, hi⟩
/-- The world in which seven cells of block h were laid, and five. -/
abbrev st7 (w : World) (h o : Nat) (v0 v1 v2 v3 v4 v5 v6 : Value) : World := ((((((w.setCell ⟨h, o, none⟩ v0).setCell ⟨h, o + 1, none⟩ v1).setCell ⟨h, o + 2, none⟩ v2).setCell ⟨h, o + 3, none⟩ v3).setCell ⟨h, o + 4, none⟩ v4).setCell ⟨h, o + 5, none⟩ v5).setCell ⟨h, o + 6, none⟩ v6
abbrev st5 (w : World) (h o : Nat) (v0 v1 v2 v3 v4 : Value) : World := ((((w.setCell ⟨h, o, none⟩ v0).setCell ⟨h, o + 1, none⟩ v1).setCell ⟨h, o + 2, none⟩ v2).setCell ⟨h, o + 3, none⟩ v3).setCell ⟨h, o + 4, none⟩ v4
section
variable {w w0 : World} {h o : Nat} {v0 v1 v2 v3 v4 v5 v6 : Value}
theorem same_st7 {S : Nat → Prop} (hS : ∀ b, S b → b ≠ h) : Same' S w (st7 w h o v0 v1 v2 v3 v4 v5 v6) := ((((((same_set' hS).trans (same_set' hS)).trans (same_set' hS)).trans (same_set' hS)).trans (same_set' hS)).trans (same_set' hS)).trans (same_set' hS)
theorem same_st5 {S : Nat → Prop} (hS : ∀ b, S b → b ≠ h) : Same' S w (st5 w h o v0 v1 v2 v3 v4) := ((((same_set' hS).trans (same_set' hS)).trans (same_set' hS)).trans (same_set' hS)).trans (same_set' hS)
theorem Box.in7 {cur : Array Value} {T : TypeId} (b : Box w h cur T) (ho : o + 7 ≤ cur.size) : ∃ cur' : Array Value, Box (st7 w h o v0 v1 v2 v3 v4 v5 v6) h cur' T ∧ cur'.size = cur.size ∧ (∀ i, i < o → cur'[i]? = cur[i]?) ∧
    cur'[o]? = some v0 ∧ cur'[o + 1]? = some v1 ∧ cur'[o + 2]? = some v2 ∧ cur'[o + 3]? = some v3 ∧ cur'[o + 4]? = some v4 ∧ cur'[o + 5]? = some v5 ∧ cur'[o + 6]? = some v6 := by
  refine ⟨_, ((((((b.set o v0).set (o + 1) v1).set (o + 2) v2).set (o + 3) v3).set (o + 4) v4).set (o + 5) v5).set (o + 6) v6, by simp, fun i hi => ?_, ?_, ?_, ?_, ?_, ?_, ?_, ?_⟩
  · simp only [Array.getElem?_setIfInBounds]
    repeat rw [if_neg (by omega)]
  all_goals (simp only [Array.getElem?_setIfInBounds, Array.size_setIfInBounds]; simp; omega)
theorem Box.in5 {cur : Array Value} {T : TypeId} (b : Box w h cur T) (ho : o + 5 ≤ cur.size) : ∃ cur' : Array Value, Box (st5 w h o v0 v1 v2 v3 v4) h cur' T ∧ cur'.size = cur.size ∧ (∀ i, i < o → cur'[i]? = cur[i]?) ∧
    cur'[o]? = some v0 ∧ cur'[o + 1]? = some v1 ∧ cur'[o + 2]? = some v2 ∧ cur'[o + 3]? = some v3 ∧ cur'[o + 4]? = some v4 := by
  refine ⟨_, ((((b.set o v0).set (o + 1) v1).set (o + 2) v2).set (o + 3) v3).set (o + 4) v4, by simp, fun i hi => ?_, ?_, ?_, ?_, ?_, ?_⟩
  · simp only [Array.getElem?_setIfInBounds]
    repeat rw [if_neg (by omega)]
  all_goals (simp only [Array.getElem?_setIfInBounds, Array.size_setIfInBounds]; simp; omega)
theorem FillE.ins {T : TypeId} {n k : Nat} {l : List InsV} {x : InsV} {va : Value} {S : Nat → Prop} (f : FillE w h T 7 n (InsE w S) l) (hl : l.length = k) (hk : k < n) (hi : InsI w S va x) (hS : ∀ b, S b → b ≠ h) :
    FillE (st7 w h (k * 7) (.int .i64 x.op) (.int .i64 x.d) (.int .i64 x.a) (.int .i64 x.b) (.int .i64 x.n) (.int .i64 x.m) va) h T 7 n (InsE (st7 w h (k * 7) (.int .i64 x.op) (.int .i64 x.d) (.int .i64 x.a) (.int .i64 x.b) (.int .i64 x.n) (.int .i64 x.m) va) S) (l ++ [x]) :=
  f.put hl (fun cur hb hs => by
    obtain ⟨cur', hb', hs', hu, g0, g1, g2, g3, g4, g5, g6⟩ := hb.in7 (o := k * 7) (v0 := .int .i64 x.op) (v1 := .int .i64 x.d) (v2 := .int .i64 x.a) (v3 := .int .i64 x.b) (v4 := .int .i64 x.n) (v5 := .int .i64 x.m) (v6 := va) (by omega)
    exact ⟨cur', hb', hs', hu, va, ⟨g0, g1, g2, g3, g4, g5, g6⟩, hi.keep (same_st7 hS) (fun _ h => h)⟩)
    (fun cur cur' o y hc hy => hy.keep hc (same_st7 hS) (fun _ h => h))
end
end Go.Proofs.YteoopilmdlhkhaaDoor
namespace Go.Proofs.YteoopilmdlhkhaaDoor
open Go.RowKit

end Go.Proofs.YteoopilmdlhkhaaDoor
namespace Go.Proofs.YteoopilmdlhkhaaDoor
open Go.RowKit

def BlkE (w : World) (S : Nat → Prop) (cur : Array Value) (o : Nat) (x : List InsV) : Prop := ∃ v, cur[o]? = some v ∧ InssV w S v x
theorem BlkE.keep {w w' : World} {S S' : Nat → Prop} {cur cur' : Array Value} {o : Nat} {x : List InsV} (h : BlkE w S cur o x) (hc : ∀ i, i < 1 → cur'[o + i]? = cur[o + i]?) (hk : Same' S w w') (hS : ∀ b, S b → S' b) : BlkE w' S' cur' o x := by
  obtain ⟨v, h0, hi⟩ := h
  exact ⟨v, (hc 0 (by omega)).trans h0, InssV.keep hi hk hS⟩
theorem FillE.blk {w : World} {h : Nat} {T : TypeId} {n k : Nat} {l : List (List InsV)} {x : List InsV} {v : Value} {S : Nat → Prop} (f : FillE w h T 1 n (BlkE w S) l) (hl : l.length = k) (hk : k < n) (hi : InssV w S v x) (hS : ∀ b, S b → b ≠ h) :
    FillE (w.setCell ⟨h, k, none⟩ v) h T 1 n (BlkE (w.setCell ⟨h, k, none⟩ v) S) (l ++ [x]) :=
  f.put hl (fun cur hb hs => ⟨cur.setIfInBounds k v, hb.set k v, by simp, fun i hi => by rw [Array.getElem?_setIfInBounds_ne (by omega)], v, by rw [Nat.mul_one, Array.getElem?_setIfInBounds_self, if_pos (by omega)], InssV.keep hi (same_set' hS) (fun _ h => h)⟩)
    (fun cur cur' o y hc hy => hy.keep hc (same_set' hS) (fun _ h => h))
end Go.Proofs.YteoopilmdlhkhaaDoor
namespace Go.Proofs.YteoopilmdlhkhaaDoor
open Go.RowKit

def FunE (w : World) (S : Nat → Prop) (cur : Array Value) (o : Nat) (f : FunV) : Prop :=
  ∃ vk vb vs, (cur[o]? = some vk ∧ cur[o + 1]? = some vb ∧ cur[o + 2]? = some (.int .i64 f.params) ∧ cur[o + 3]? = some (.int .i64 f.result) ∧ cur[o + 4]? = some vs) ∧ FunI w S vk vb vs f
theorem FunE.keep {w w' : World} {S S' : Nat → Prop} {cur cur' : Array Value} {o : Nat} {x : FunV} (h : FunE w S cur o x) (hc : ∀ i, i < 5 → cur'[o + i]? = cur[o + i]?) (hk : Same' S w w') (hS : ∀ b, S b → S' b) : FunE w' S' cur' o x := by
  obtain ⟨vk, vb, vs, ⟨h0, h1, h2, h3, h4⟩, hi⟩ := h
  exact ⟨vk, vb, vs, ⟨(hc 0 (by omega)).trans h0, (hc 1 (by omega)).trans h1, (hc 2 (by omega)).trans h2, (hc 3 (by omega)).trans h3, (hc 4 (by omega)).trans h4⟩, hi.keep hk hS⟩
theorem FillE.func {w : World} {h : Nat} {T : TypeId} {n k : Nat} {l : List FunV} {x : FunV} {vk vb vs : Value} {S : Nat → Prop} (f : FillE w h T 5 n (FunE w S) l) (hl : l.length = k) (hk : k < n) (hi : FunI w S vk vb vs x) (hS : ∀ b, S b → b ≠ h) :
    FillE (st5 w h (k * 5) vk vb (.int .i64 x.params) (.int .i64 x.result) vs) h T 5 n (FunE (st5 w h (k * 5) vk vb (.int .i64 x.params) (.int .i64 x.result) vs) S) (l ++ [x]) :=
  f.put hl (fun cur hb hs => by
    obtain ⟨cur', hb', hs', hu, g0, g1, g2, g3, g4⟩ := hb.in5 (o := k * 5) (v0 := vk) (v1 := vb) (v2 := .int .i64 x.params) (v3 := .int .i64 x.result) (v4 := vs) (by omega)
    exact ⟨cur', hb', hs', hu, vk, vb, vs, ⟨g0, g1, g2, g3, g4⟩, hi.keep (same_st5 hS) (fun _ h => h)⟩)
    (fun cur cur' o y hc hy => hy.keep hc (same_st5 hS) (fun _ h => h))

/-- What Decode answers, in memory. -/
def DecA (W : World) (zs : List Int) (e : Ending) (w' : World) : Prop :=
  ∃ v, e = .returned (.tuple #[.agg #[v], .int .i64 ((decR zs).2 : Int)]) ∧ FunsV w' (· < w'.heap.size) v (decR zs).1 ∧ Below W.heap.size W w'
end Go.Proofs.YteoopilmdlhkhaaDoor
namespace Go.Proofs.YteoopilmdlhkhaaDoor
open Go.RowKit

theorem DecA.no {W w' : World} {zs : List Int} {k : Nat} (h : decR zs = ([], k)) (hb : Below W.heap.size W w') : DecA W zs (.returned (.tuple #[.agg #[.slice none 0 0], .int .i64 (k : Int)])) w' :=
  ⟨.slice none 0 0, by rw [h], by rw [h]; exact Vec.nil _ _ _, hb⟩
end Go.Proofs.YteoopilmdlhkhaaDoor
