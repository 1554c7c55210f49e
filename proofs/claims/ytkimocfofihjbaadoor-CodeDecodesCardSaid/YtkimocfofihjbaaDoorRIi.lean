/- The reference's ins, its mathematics: what the operation's number leaves; the instruction under way when a letter is laid, when a number is put behind its list. No condition. -/
import Derived.Test.YtkimocfofihjbaaDoorRIr
import Derived.Test.YtkimocfofihjbaaDoorMR
import Derived.Test.YtkimocfofihjbaaDoorCAlive
set_option linter.unusedSimpArgs false
set_option linter.unusedVariables false
namespace Go.Proofs.YtkimocfofihjbaaDoor
open Go.RowKit

theorem onlyT_st (s : St) : (onlyT isOpB 5 s).2 = if (numT s).2.2 = 0 ∧ partsN (numT s).1 = [] then ((numT s).2.1, 5) else (numT s).2 := by
  rw [onlyT_op]
  split
  · rfl
  · split <;> rfl
/-- What ins leaves, by the operation's number as it was read. -/
theorem insT_op (s : St) : (insT s).2 = ((partsN (numT s).1).foldl partT (bare (numT s).1, (onlyT isOpB 5 s).2)).2 ∧ ((insT s).2.2 = 0 → (insT s).1 = ((partsN (numT s).1).foldl partT (bare (numT s).1, (onlyT isOpB 5 s).2)).1) := by
  by_cases hE : (onlyT isOpB 5 s).2.2 = 0
  · have h1 : (onlyT isOpB 5 s).1 = (numT s).1 := by
      unfold onlyT at hE ⊢
      by_cases h0 : (numT s).2.2 = 0
      · rw [if_pos h0] at hE ⊢
        by_cases hm : isOpB (numT s).1 = true
        · rw [if_pos hm]
        · rw [if_neg hm] at hE
          exact absurd hE (by simp)
      · rw [if_neg h0] at hE
        exact absurd hE h0
    unfold insT
    rw [h1]
    exact ⟨rfl, fun _ => rfl⟩
  · have h1 : (insT s).2 = (onlyT isOpB 5 s).2 := by
      unfold insT
      exact fold_keep _ _ hE
    have h2 : ((partsN (numT s).1).foldl partT (bare (numT s).1, (onlyT isOpB 5 s).2)).2 = (onlyT isOpB 5 s).2 := fold_keep _ _ hE
    rw [h1, h2]
    exact ⟨rfl, fun h => absurd h hE⟩
/-- Block b holds things of type T. -/
def TB (w : World) (T : TypeId) (b : Nat) : Prop := ∃ c fz, w.heap[b]? = some (.cells c T fz)
theorem TB.set {w : World} {T : TypeId} {b h j : Nat} {v : Value} (t : TB w T b) (hb : b ≠ h) : TB (w.setCell ⟨h, j, none⟩ v) T b := by
  obtain ⟨c, fz, e⟩ := t
  exact ⟨c, fz, (heap_setCell_other w ⟨h, j, none⟩ b v hb).trans e⟩
theorem Ow.intsB {w : World} {base : Nat} {v : Value} {zs : List Int} {S : Nat → Prop} (h : Ow w base 3 .i64 v zs) (hR : ∀ z ∈ zs, i64R z) (hS : ∀ b, base ≤ b → b < w.heap.size → TB w 3 b → S b) : IntsV w S v zs := by
  have h0 := h
  obtain ⟨A, c, rfl, hc, hm, hs⟩ := h.sl
  refine ⟨A, c, rfl, hc, by simpa [maxLen] using hm, fun hp => ?_⟩
  obtain ⟨b, o, rfl, hb, hcell⟩ := hs hp
  obtain ⟨hrow, c', fz, hty⟩ := Ow.row h0 b rfl
  refine ⟨b, o, rfl, hS b hrow hb ⟨c', fz, hty⟩, fun j x hj => ⟨?_, hR x (List.mem_of_getElem? hj)⟩⟩
  rw [Nat.mul_one, hcell j (List.getElem?_eq_some_iff.1 hj).1]
  simp [List.getD, hj]
/-- A letter is laid. -/
theorem XIR.fld {w : World} {g B hx base : Nat} {r : InsV} {t : St} (h : XIR w g B hx base r t) (hgx : g < hx) (hxb : hx < base) (j : Nat) (v : Int) (r' : InsV) (hb : ∀ va, (insBox r va).setIfInBounds j (.int .i64 v) = insBox r' va) (ha : r'.args = r.args) (hR : InsR r') : XIR (w.setCell ⟨hx, j, none⟩ (.int .i64 v)) g B hx base r' t := by
  obtain ⟨u, hbx, ho, h1, h2, h3, h4, h5, h6⟩ := h
  have hn : u.ownBlock ≠ some hx := fun e => by
    have := (Ow.row ho hx e).1
    omega
  have hs := hbx.set j (.int .i64 v)
  rw [hb] at hs
  exact ⟨u, hs, by rw [ha]; exact ho.read ((Read.refl hx w).set (.inr rfl)) hn, hR, by rw [ha]; exact h2, h3.set hgx, h4, by rw [World.size_setCell]; exact h5, h6⟩
/-- A number is put behind the list. -/
theorem XIR.app {w0 w w4 w5 : World} {g B hx base : Nat} {r : InsV} {t : St} {v v5 : Value} {z : Int} (hbx : Box w hx (insBox r v) 40) (ho : Ow w base 3 .i64 v r.args) (hR : InsR r) (hz : ∀ z ∈ r.args, i64R z) (hrs : RSr w g B t)
    (hgb : g < base) (hbs : base ≤ w.heap.size) (hgx : g < hx) (hxb : hx < base) (hb4 : Below w.heap.size w w4) (hgr : w4.grownBy w5 v.ownBlock) (ho5 : Ow w5 base 3 .i64 v5 (r.args ++ [z])) (hzR : i64R z) (hr0 : Read g w0 w) (h0x : w0.heap.size ≤ hx) :
    XIR (w5.setCell ⟨hx, 6, none⟩ v5) g B hx base { r with args := r.args ++ [z] } t ∧ Read g w0 (w5.setCell ⟨hx, 6, none⟩ v5) ∧ Below base w w5 := by
  have hB5 : Below base w w5 := (hb4.mono hbs).grown hgr (by have := hb4.size; omega) (fun k hk => (Ow.row ho k hk).1)
  have hb5 := hbx.belowB hB5 hxb
  have hs := hb5.set 6 v5
  have hn : v5.ownBlock ≠ some hx := fun e => by
    have := (Ow.row ho5 hx e).1
    omega
  have hrs5 : RSr w5 g B t := by
    obtain ⟨A, c, b1, b2, b3, b4, b5, b6⟩ := hrs
    exact ⟨A, c, b1.belowB hB5 hgb, b2.below (hB5.mono (by omega)), b3, b4, b5, b6⟩
  refine ⟨⟨v5, hs, ho5.read ((Read.refl hx w5).set (.inr rfl)) hn, hR, ?_, hrs5.set hgx, hgb, by rw [World.size_setCell]; have := hB5.size; omega, by omega⟩, Read.set ?_ (.inl h0x), hB5⟩
  · intro y hy
    rcases List.mem_append.1 hy with h | h
    · exact hz y h
    · simp at h
      subst h
      exact hzR
  · exact ⟨hB5.os.trans hr0.os, hB5.tape.trans hr0.tape, hB5.output.trans hr0.output, Nat.le_trans hr0.size hB5.size, fun k hk hkg => (hB5.block k (by omega)).trans (hr0.block k hk hkg)⟩
/-- The instruction as a value. -/
theorem XIR.insI {w : World} {g B hx base : Nat} {r : InsV} {t : St} (h : XIR w g B hx base r t) (h0 : Nat) (h0b : h0 < base) : ∃ A n c, Box w hx (insBox r (.slice A n c)) 40 ∧ InsI w (fun b => h0 < b ∧ b < w.heap.size ∧ TB w 3 b) (.slice A n c) r ∧ RSr w g B t := by
  obtain ⟨u, hbx, ho, h1, h2, h3, h4, h5, h6⟩ := h
  have hi : IntsV w (fun b => h0 < b ∧ b < w.heap.size ∧ TB w 3 b) u r.args := ho.intsB h2 (fun b hb1 hb2 hb3 => ⟨by omega, hb2, hb3⟩)
  obtain ⟨A, c, rfl, -⟩ := ho.sl
  exact ⟨A, _, c, hbx, ⟨hi, h1⟩, h3⟩
/-- A place of a text. -/
theorem strat_i {l : List Nat} (hl : ∀ c ∈ l, isLetter c) {s : ByteArray} (hs : strOf l = s) : s.size = l.length ∧ ∀ (k d : Nat), l[k]? = some d → ∀ hk : k < s.size, (s[k]'hk).toNat = d :=
  ⟨by rw [← hs, strOf_size], fun k d hd hk => by subst hs; exact strOf_get hl hd hk⟩
/-- The loop over the letters: h0 the result's block, hx the instruction's. -/
def RIi (s1 : St) (op : Int) (w : World) (g B h0 hx k : Nat) (wr : World) : Prop :=
  Box wr h0 (insBox (bare 0) (.slice none 0 0)) 40 ∧ XIR wr g B hx (hx + 1) (((partsN op).take k).foldl partT (bare op, s1)).1 (((partsN op).take k).foldl partT (bare op, s1)).2 ∧ Read g w wr
/-- The list under way: j numbers read. -/
def RIj (r : InsV) (t : St) (w : World) (g B h0 hx j : Nat) (wr : World) : Prop :=
  Box wr h0 (insBox (bare 0) (.slice none 0 0)) 40 ∧ XIR wr g B hx (hx + 1) { r with args := (manyT numT j t).1 } (manyT numT j t).2 ∧ Read g w wr
end Go.Proofs.YtkimocfofihjbaaDoor
