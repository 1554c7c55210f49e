/- A block of things under way: words for slices that are filled thing by thing. No condition. -/
import Derived.Test.YtpgljbjgbjjcnaaDoorCRIns
set_option linter.unusedSimpArgs false
set_option linter.unusedVariables false
namespace Go.Proofs.YtpgljbjgbjjcnaaDoor
open Go.RowKit

/-- n things of s cells in block h, of which those of l are laid. -/
def FillE {α : Type} (w : World) (h : Nat) (T : TypeId) (s n : Nat) (E : Array Value → Nat → α → Prop) (l : List α) : Prop :=
  ∃ cur : Array Value, Box w h cur T ∧ cur.size = n * s ∧ ∀ (j : Nat) (x : α), l[j]? = some x → E cur (j * s) x
section
variable {α : Type} {w w' : World} {h s n : Nat} {T : TypeId} {l : List α} {E E' : Array Value → Nat → α → Prop}
theorem FillE.new (w : World) (cs : Array Value) (T : TypeId) (hn : cs.size = n * s) : FillE (w.alloc (.cells cs T)) w.heap.size T s n E ([] : List α) := ⟨cs, Box.new w cs T, hn, fun j x hj => by simp at hj⟩
theorem FillE.lt (f : FillE w h T s n E l) : h < w.heap.size := by
  obtain ⟨cur, hb, -⟩ := f
  exact hb.lt
theorem FillE.keep (f : FillE w h T s n E l) (hk : w'.heap[h]? = w.heap[h]?) (hE : ∀ cur o x, E cur o x → E' cur o x) : FillE w' h T s n E' l := by
  obtain ⟨cur, hb, hs, hc⟩ := f
  exact ⟨cur, hk.trans hb, hs, fun j x hj => hE _ _ _ (hc j x hj)⟩
theorem FillE.cell (f : FillE w h T s n E l) {k i : Nat} (hk : k < n) (hi : i < s) : ∃ v, w.cell? ⟨h, k * s + i, none⟩ = some v ∧ w.frozen? ⟨h, k * s + i, none⟩ = false := by
  obtain ⟨cur, hb, hs, -⟩ := f
  have hle : (k + 1) * s ≤ n * s := Nat.mul_le_mul_right _ hk
  rw [Nat.add_mul] at hle
  obtain ⟨v, hv⟩ : ∃ v, cur[k * s + i]? = some v := ⟨_, Array.getElem?_eq_getElem (by omega)⟩
  exact ⟨v, hb.cell _ hv⟩
theorem FillE.put (f : FillE w h T s n E l) {k : Nat} {x : α} (hl : l.length = k)
    (hset : ∀ cur, Box w h cur T → cur.size = n * s → ∃ cur' : Array Value, Box w' h cur' T ∧ cur'.size = cur.size ∧ (∀ i, i < k * s → cur'[i]? = cur[i]?) ∧ E' cur' (k * s) x)
    (hE : ∀ (cur cur' : Array Value) (o : Nat) (y : α), (∀ i, i < s → cur'[o + i]? = cur[o + i]?) → E cur o y → E' cur' o y) : FillE w' h T s n E' (l ++ [x]) := by
  obtain ⟨cur, hb, hs, hc⟩ := f
  obtain ⟨cur', hb', hs', hu, hx⟩ := hset cur hb hs
  refine ⟨cur', hb', by omega, fun j y hj => ?_⟩
  by_cases hjl : j < l.length
  · rw [List.getElem?_append_left hjl] at hj
    refine hE cur cur' _ y (fun i hi => hu _ ?_) (hc j y hj)
    have : (j + 1) * s ≤ k * s := Nat.mul_le_mul_right _ (by omega)
    rw [Nat.add_mul] at this
    omega
  · have hjk : j = k := by
      have := (List.getElem?_eq_some_iff.1 hj).1
      simp at this; omega
    subst hjk
    rw [← hl, List.getElem?_append_right (Nat.le_refl _)] at hj
    simp at hj
    subst hj
    exact hx
theorem FillE.vec (f : FillE w h T s n E l) (hl : l.length = n) (hn : n ≤ 1000) {S : Nat → Prop} {P : Nat → Nat → α → Prop} (hS : S h) (hP : ∀ cur o x, Box w h cur T → E cur o x → P h o x) : Vec s P S (.slice (some ⟨h, 0, none⟩) n n) l := by
  obtain ⟨cur, hb, hs, hc⟩ := f
  subst hl
  refine ⟨_, _, rfl, Nat.le_refl _, by omega, fun _ => ⟨h, 0, rfl, hS, fun j x hj => ?_⟩⟩
  rw [Nat.zero_add]
  exact hP _ _ _ hb (hc j x hj)
end

def InsE (w : World) (S : Nat → Prop) (cur : Array Value) (o : Nat) (x : InsV) : Prop :=
  ∃ va, (cur[o]? = some (.int .i64 x.op) ∧ cur[o + 1]? = some (.int .i64 x.d) ∧ cur[o + 2]? = some (.int .i64 x.a) ∧ cur[o + 3]? = some (.int .i64 x.b) ∧ cur[o + 4]? = some (.int .i64 x.n) ∧ cur[o + 5]? = some (.int .i64 x.m) ∧ cur[o + 6]? = some va) ∧ InsI w S va x
theorem InsE.keep {w w' : World} {S S' : Nat → Prop} {cur cur' : Array Value} {o : Nat} {x : InsV} (h : InsE w S cur o x) (hc : ∀ i, i < 7 → cur'[o + i]? = cur[o + i]?) (hk : Same' S w w') (hS : ∀ b, S b → S' b) : InsE w' S' cur' o x := by
  obtain ⟨va, ⟨h0, h1, h2, h3, h4, h5, h6⟩, hi⟩ := h
  exact ⟨va, ⟨(hc 0 (by omega)).trans h0, (hc 1 (by omega)).trans h1, (hc 2 (by omega)).trans h2, (hc 3 (by omega)).trans h3, (hc 4 (by omega)).trans h4, (hc 5 (by omega)).trans h5, (hc 6 (by omega)).trans h6⟩, hi.keep hk hS⟩
theorem InsE.insC {w : World} {S : Nat → Prop} {cur : Array Value} {h o : Nat} {T : TypeId} {x : InsV} (hx : InsE w S cur o x) (hb : Box w h cur T) : InsC w S h o x := by
  obtain ⟨va, ⟨h0, h1, h2, h3, h4, h5, h6⟩, hi⟩ := hx
  exact ⟨va, ⟨(hb.cell _ h0).1, (hb.cell _ h1).1, (hb.cell _ h2).1, (hb.cell _ h3).1, (hb.cell _ h4).1, (hb.cell _ h5).1, (hb.cell _ h6).1⟩, hi⟩
theorem info_Ins : (Tryd.prog.info? 47).map (fun i => (i.zero, i.size, i.bytes)) = some (some (.agg (insBox (bare 0) (.slice none 0 0))), 7, 72) := by kernel_rfl
theorem info_Block : (Tryd.prog.info? 56).map (fun i => (i.zero, i.size, i.bytes)) = some (some (.agg #[.slice none 0 0]), 1, 24) := by kernel_rfl
theorem info_Func : (Tryd.prog.info? 44).map (fun i => (i.zero, i.size, i.bytes)) = some (some (.agg #[.slice none 0 0, .slice none 0 0, .int .i64 0, .int .i64 0, .slice none 0 0]), 5, 88) := by kernel_rfl

/-- The world in which seven cells of block h were laid, and five. -/
abbrev st7 (w : World) (h o : Nat) (v0 v1 v2 v3 v4 v5 v6 : Value) : World := ((((((w.setCell ⟨h, o, none⟩ v0).setCell ⟨h, o + 1, none⟩ v1).setCell ⟨h, o + 2, none⟩ v2).setCell ⟨h, o + 3, none⟩ v3).setCell ⟨h, o + 4, none⟩ v4).setCell ⟨h, o + 5, none⟩ v5).setCell ⟨h, o + 6, none⟩ v6
abbrev st5 (w : World) (h o : Nat) (v0 v1 v2 v3 v4 : Value) : World := ((((w.setCell ⟨h, o, none⟩ v0).setCell ⟨h, o + 1, none⟩ v1).setCell ⟨h, o + 2, none⟩ v2).setCell ⟨h, o + 3, none⟩ v3).setCell ⟨h, o + 4, none⟩ v4
section
variable {w w0 : World} {h o : Nat} {v0 v1 v2 v3 v4 v5 v6 : Value}
theorem Box.apart7 {k : Nat} {cs : Array Value} {T : TypeId} (b : Box w k cs T) (hk : k ≠ h) : Box (st7 w h o v0 v1 v2 v3 v4 v5 v6) k cs T := ((((((b.other hk).other hk).other hk).other hk).other hk).other hk).other hk
theorem Box.apart5 {k : Nat} {cs : Array Value} {T : TypeId} (b : Box w k cs T) (hk : k ≠ h) : Box (st5 w h o v0 v1 v2 v3 v4) k cs T := ((((b.other hk).other hk).other hk).other hk).other hk
theorem ReadTo.set {g B b j : Nat} {v : Value} {s : St} (r : ReadTo w0 g B s w) (hg : g < b) (hb : w0.heap.size ≤ b) : ReadTo w0 g B s (w.setCell ⟨b, j, none⟩ v) := ⟨r.rs.set hg, r.read.set (Or.inl hb)⟩
theorem ReadTo.apart7 {g B : Nat} {s : St} (r : ReadTo w0 g B s w) (hg : g < h) (hb : w0.heap.size ≤ h) : ReadTo w0 g B s (st7 w h o v0 v1 v2 v3 v4 v5 v6) := ((((((r.set hg hb).set hg hb).set hg hb).set hg hb).set hg hb).set hg hb).set hg hb
theorem ReadTo.apart5 {g B : Nat} {s : St} (r : ReadTo w0 g B s w) (hg : g < h) (hb : w0.heap.size ≤ h) : ReadTo w0 g B s (st5 w h o v0 v1 v2 v3 v4) := ((((r.set hg hb).set hg hb).set hg hb).set hg hb).set hg hb
theorem same_st7 {S : Nat → Prop} (hS : ∀ b, S b → b ≠ h) : Same' S w (st7 w h o v0 v1 v2 v3 v4 v5 v6) := ((((((same_set' hS).trans (same_set' hS)).trans (same_set' hS)).trans (same_set' hS)).trans (same_set' hS)).trans (same_set' hS)).trans (same_set' hS)
theorem same_st5 {S : Nat → Prop} (hS : ∀ b, S b → b ≠ h) : Same' S w (st5 w h o v0 v1 v2 v3 v4) := ((((same_set' hS).trans (same_set' hS)).trans (same_set' hS)).trans (same_set' hS)).trans (same_set' hS)
theorem size_st7 : (st7 w h o v0 v1 v2 v3 v4 v5 v6).heap.size = w.heap.size := by simp only [World.size_setCell]
theorem size_st5 : (st5 w h o v0 v1 v2 v3 v4).heap.size = w.heap.size := by simp only [World.size_setCell]
theorem Box.in7 {cur : Array Value} {T : TypeId} (b : Box w h cur T) (ho : o + 7 ≤ cur.size) : ∃ cur' : Array Value, Box (st7 w h o v0 v1 v2 v3 v4 v5 v6) h cur' T ∧ cur'.size = cur.size ∧ (∀ i, i < o → cur'[i]? = cur[i]?) ∧
    cur'[o]? = some v0 ∧ cur'[o + 1]? = some v1 ∧ cur'[o + 2]? = some v2 ∧ cur'[o + 3]? = some v3 ∧ cur'[o + 4]? = some v4 ∧ cur'[o + 5]? = some v5 ∧ cur'[o + 6]? = some v6 := by
  refine ⟨_, ((((((b.set o v0).set (o + 1) v1).set (o + 2) v2).set (o + 3) v3).set (o + 4) v4).set (o + 5) v5).set (o + 6) v6, by simp, fun i hi => ?_, ?_, ?_, ?_, ?_, ?_, ?_, ?_⟩
  · simp only [Array.getElem?_setIfInBounds]
    repeat rw [if_neg (by omega)]
  all_goals (simp only [Array.getElem?_setIfInBounds, Array.size_setIfInBounds]; simp; omega)
theorem Box.in5 {cur : Array Value} {T : TypeId} (b : Box w h cur T) (ho : o + 5 ≤ cur.size) : ∃ cur' : Array Value, Box (st5 w h o v0 v1 v2 v3 v4) h cur' T ∧ cur'.size = cur.size ∧ (∀ i, i < o → cur'[i]? = cur[i]?) ∧
    cur'[o]? = some v0 ∧ cur'[o + 1]? = some v1 ∧ cur'[o + 2]? = some v2 ∧ cur'[o + 3]? = some v3 ∧ cur'[o + 4]? = some v4 := by
  refine ⟨_, ((((b.set o v0).set (o + 1) v1).set (o + 2) v2).set (o + 3) v3).set (o + 4) v4, by simp, fun i hi => ?_, ?_, ?_, ?_, ?_, ?_⟩
  · simp only [Array.getElem?_setIfInBounds]
    repeat rw [if_neg (by omega)]
  all_goals (simp only [Array.getElem?_setIfInBounds, Array.size_setIfInBounds]; simp; omega)
theorem FillE.ins {T : TypeId} {n k : Nat} {l : List InsV} {x : InsV} {va : Value} {S : Nat → Prop} (f : FillE w h T 7 n (InsE w S) l) (hl : l.length = k) (hk : k < n) (hi : InsI w S va x) (hS : ∀ b, S b → b ≠ h) :
    FillE (st7 w h (k * 7) (.int .i64 x.op) (.int .i64 x.d) (.int .i64 x.a) (.int .i64 x.b) (.int .i64 x.n) (.int .i64 x.m) va) h T 7 n (InsE (st7 w h (k * 7) (.int .i64 x.op) (.int .i64 x.d) (.int .i64 x.a) (.int .i64 x.b) (.int .i64 x.n) (.int .i64 x.m) va) S) (l ++ [x]) :=
  f.put hl (fun cur hb hs => by
    obtain ⟨cur', hb', hs', hu, g0, g1, g2, g3, g4, g5, g6⟩ := hb.in7 (o := k * 7) (v0 := .int .i64 x.op) (v1 := .int .i64 x.d) (v2 := .int .i64 x.a) (v3 := .int .i64 x.b) (v4 := .int .i64 x.n) (v5 := .int .i64 x.m) (v6 := va) (by omega)
    exact ⟨cur', hb', hs', hu, va, ⟨g0, g1, g2, g3, g4, g5, g6⟩, hi.keep (same_st7 hS) (fun _ h => h)⟩)
    (fun cur cur' o y hc hy => hy.keep hc (same_st7 hS) (fun _ h => h))
end
end Go.Proofs.YtpgljbjgbjjcnaaDoor
