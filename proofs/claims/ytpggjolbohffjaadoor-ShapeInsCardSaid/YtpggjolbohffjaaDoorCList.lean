/- The contracts of the reader's variable and list. No condition. -/
import Derived.Test.YtpggjolbohffjaaDoorCOnly
import Derived.Laws.MakeOwn
import Derived.Test.YtpggjolbohffjaaDoorVPut
set_option linter.unusedSimpArgs false
set_option linter.unusedVariables false
namespace Go.Proofs.YtpggjolbohffjaaDoor
open Go.RowKit

theorem mk_run (t e : TypeId) {z : Value} {sz bytes : Nat} (ht : Tryd.prog.underlying t = some (.slice e)) (hi : (Tryd.prog.info? e).map (fun i => (i.zero, i.size, i.bytes)) = some (some z, sz, bytes)) (hb : bytes ≤ 1000) (m : Nat) (hm : m ≤ 1000) (W : World) :
    (Instr.makeSlice t (.int .i64 (m : Int)) (.int .i64 (m : Int))).run Tryd.prog W = .ok (.slice (some ⟨W.heap.size, 0, none⟩) m m) (W.alloc (.cells (madeCells z.cells (m * sz)) e)) := by
  obtain ⟨i0, hi0, hz0, hz1, hz2⟩ := info_parts hi
  have hmul : i0.bytes * m ≤ 1000 * 1000 := by rw [hz2]; exact Nat.mul_le_mul hb hm
  have h := run_make (P := Tryd.prog) W t e i0 z ht hi0 hz0 .i64 .i64 (m : Int) (m : Int) (by omega) (by omega) (by rw [← Int.natCast_mul]; omega) (by omega)
  rw [hz1, Int.toNat_natCast] at h
  exact h

/-- A block of numbers under way: n of them, of which those of l are laid. -/
def FillI (w : World) (h : Nat) (T : TypeId) (n : Nat) (l : List Int) : Prop := ∃ cur : Array Value, Box w h cur T ∧ cur.size = n ∧ ∀ (j : Nat) (x : Int), l[j]? = some x → cur[j]? = some (.int .i64 x) ∧ i64R x
section
variable {w w' : World} {h n : Nat} {T : TypeId} {l : List Int}
theorem FillI.new (w : World) (cs : Array Value) (T : TypeId) (hn : cs.size = n) : FillI (w.alloc (.cells cs T)) w.heap.size T n [] := ⟨cs, Box.new w cs T, hn, fun j x hj => by simp at hj⟩
theorem FillI.lt (f : FillI w h T n l) : h < w.heap.size := by
  obtain ⟨cur, hb, -⟩ := f
  exact hb.lt
theorem FillI.keep (f : FillI w h T n l) (hk : w'.heap[h]? = w.heap[h]?) : FillI w' h T n l := by
  obtain ⟨cur, hb, hs, hc⟩ := f
  exact ⟨cur, hk.trans hb, hs, hc⟩
theorem FillI.cell (f : FillI w h T n l) {k : Nat} (hk : k < n) : ∃ v, w.cell? ⟨h, k, none⟩ = some v ∧ w.frozen? ⟨h, k, none⟩ = false := by
  obtain ⟨cur, hb, hs, -⟩ := f
  obtain ⟨v, hv⟩ : ∃ v, cur[k]? = some v := ⟨_, Array.getElem?_eq_getElem (by omega)⟩
  exact ⟨v, hb.cell k hv⟩
theorem FillI.set (f : FillI w h T n l) {k : Nat} {x : Int} (hk : k < n) (hl : l.length = k) (hx : i64R x) : FillI (w.setCell ⟨h, k, none⟩ (.int .i64 x)) h T n (l ++ [x]) := by
  obtain ⟨cur, hb, hs, hc⟩ := f
  refine ⟨_, hb.set k _, by simpa using hs, fun j y hj => ?_⟩
  by_cases hjl : j < l.length
  · rw [List.getElem?_append_left hjl] at hj
    have := hc j y hj
    rw [Array.getElem?_setIfInBounds_ne (by omega)]
    exact this
  · have hjk : j = k := by
      have := (List.getElem?_eq_some_iff.1 hj).1
      simp at this; omega
    subst hjk
    rw [← hl, List.getElem?_append_right (Nat.le_refl _)] at hj
    simp at hj
    subst hj
    rw [Array.getElem?_setIfInBounds_self]
    exact ⟨by rw [if_pos (by omega)], hx⟩
theorem FillI.ints (f : FillI w h T n l) (hl : l.length = n) (hn : n ≤ 1000) {S : Nat → Prop} (hS : S h) : IntsV w S (.slice (some ⟨h, 0, none⟩) n n) l := by
  obtain ⟨cur, hb, hs, hc⟩ := f
  subst hl
  refine ⟨_, _, rfl, Nat.le_refl _, by omega, fun _ => ⟨h, 0, rfl, hS, fun j x hj => ?_⟩⟩
  obtain ⟨h1, h2⟩ := hc j x hj
  refine ⟨?_, h2⟩
  rw [Nat.zero_add, Nat.mul_one]
  exact (hb.cell j h1).1
end
theorem numT_i64 {s : St} (h : Byt s) : i64R (numT s).1 := by
  have := numT_R h
  exact ⟨by omega, by omega⟩

set_option maxRecDepth 100000 in
theorem variable_any (g B : Nat) (s : St) (w : World) (h : RS w g B s) :
    Calls Tryd.prog 80 #[.pointer (some ⟨g, 0, none⟩)] w fun e w' => e = .returned (.tuple #[.int .i64 (varT s).1.1, .int .i64 (varT s).1.2]) ∧ ReadTo w g B (varT s).2 w' := by
  have H := hide (onlyKind_any g B 5 5 rfl s w h)
  by_cases h2 : (onlyT kindB 5 s).1 = 2
  · have hv := hide (show varT s = ((2, (numT (onlyT kindB 5 s).2).1), (numT (onlyT kindB 5 s).2).2) by unfold varT; rw [if_pos h2])
    rw [hv.out]
    have H2 := hide (fun w1 (h1 : ReadTo w g B (onlyT kindB 5 s).2 w1) => number_any' g B _ w1 h1.rs)
    generalize onlyT kindB 5 s = r at *
    obtain ⟨r1, r2⟩ := r
    simp only at *
    subst h2
    generalize numT r2 = q at *
    clear h hv
    go_enter Tryd.func80, Tryd.ntmps80
    go_wp2_with (first
      | (go_at_call 79; refine H.out.mono ?_; rintro e w1 ⟨rfl, hr⟩)
      | (go_at_call 81; refine (H2.out _ hr).mono ?_; rintro e w2 ⟨rfl, hr2⟩))
    go_ret2
    exact ⟨rfl, hr.trans hr2⟩
  · have hv := hide (show varT s = (((onlyT kindB 5 s).1, -1), (onlyT kindB 5 s).2) by unfold varT; rw [if_neg h2])
    rw [hv.out]
    generalize onlyT kindB 5 s = r at *
    obtain ⟨r1, r2⟩ := r
    simp only at *
    have h2b : (r1 == 2) = false := by simpa using h2
    clear h hv h2
    go_enter Tryd.func80, Tryd.ntmps80
    go_wp2_with (go_at_call 79; refine H.out.mono ?_; rintro e w1 ⟨rfl, hr⟩)
    go_ret2
    exact ⟨rfl, hr⟩

/-- The blocks that a call has made. -/
def Made (w w' : World) (b : Nat) : Prop := w.heap.size ≤ b ∧ b < w'.heap.size

set_option maxRecDepth 100000 in
theorem list_any' (g B : Nat) (s : St) (w : World) (h : RS w g B s) :
    Calls Tryd.prog 109 #[.pointer (some ⟨g, 0, none⟩)] w fun e w' => ∃ v, e = .returned v ∧ IntsV w' (Made w w') v (listT s).1 ∧ ReadTo w g B (listT s).2 w' := by
  have hgw := h.lt
  have h0 := h
  obtain ⟨A, c, l0, l1, l2, l3, l4, hb, hs, hc, hm, hL, hby, hB⟩ := h
  have H := hide (count_any l4 0 4 g B s w h0 hL.2.2.2.2)
  have hcR := cntT_R (lo := 0) (hi := 4) hby (by omega)
  obtain ⟨m, hm'⟩ : ∃ m : Nat, (cntT 0 4 s).1 = (m : Int) := ⟨(cntT 0 4 s).1.toNat, by omega⟩
  have hv := hide (show listT s = manyT numT m (cntT 0 4 s).2 by unfold listT; rw [hm']; rfl)
  rw [hv.out]
  rw [hm'] at H hcR
  have hmk := mk_run 35 3 Tryd.underlying35 info_i64 (by omega) m (by omega)
  have hZs : (madeCells (Value.cells (.int .i64 0)) (m * 1)).size = m := by rw [size_madeCells]; omega
  generalize madeCells (Value.cells (.int .i64 0)) (m * 1) = Z at *
  have HZ := hide hZs
  have x6 := (hb.cell 6 (v := l4) rfl).1
  obtain ⟨-, -, -, -, a4, -, -, -, -, c4, -, -, -, -, rfl⟩ := hL.open'
  generalize (cntT 0 4 s).2 = t at *
  clear hb hs hL hby h0 hZs hv hm'
  go_enter Tryd.func109, Tryd.ntmps109
  go_wp2_with (go_at_call 54; refine H.out.mono ?_; rintro e w1 ⟨rfl, hr⟩)
  have hsz1 := hr.read.size
  have hg1 := hr.rs.lt.2
  go_loopw [15] (fun i wr => ∃ k : Nat, k ≤ m ∧ i = .int .i64 k ∧ ReadTo w g B (manyT numT k t).2 wr ∧ FillI wr w1.heap.size 3 m (manyT numT k t).1) (fun i _ => m - (intOf i).toNat)
  case atStart => exact ⟨0, Nat.zero_le _, rfl, ⟨hr.rs.alloc _, hr.read.alloc _⟩, FillI.new w1 Z _ HZ.out⟩
  case round =>
    obtain ⟨k, hk, rfl, hrr, hf⟩ := hrel
    have hfl := hf.lt
    by_cases hlt : k < m
    · have hst := hide (manyT_st numT k t)
      have hls := hide (manyT_ls numT k t)
      have hlen := manyT_len numT k t
      have hN := number_any' g B _ wr hrr.rs
      have hir := numT_i64 hrr.rs.byt
      have HF := hide (fun w3 (h3 : Read g wr w3) => hf.keep (h3.block _ hfl (by omega)))
      have HRR := hide hrr
      generalize manyT numT k t = q at *
      generalize numT q.2 = u at *
      have HN := hide hN
      clear hN hf hrr
      go_wp2_with (go_at_call 81; refine HN.out.mono ?_; rintro e w3 ⟨rfl, hr3⟩; have hf3 := HF.out _ hr3.read; obtain ⟨v3, y3, z3⟩ := hf3.cell hlt; have hfl3 := hf3.lt; have HF3 := hide hf3; have HR3 := hide hr3; clear hf3 hr3)
      go_roundw
      case rel => exact ⟨k + 1, by omega, by go_num, by rw [hst.out]; exact ⟨HR3.out.rs.set (by omega), (HRR.out.read.trans HR3.out.read).set (Or.inl hsz1)⟩, by rw [hls.out]; exact HF3.out.set hlt hlen hir⟩
      case measure => simp [intOf]; omega
    · have hkm : k = m := by omega
      subst hkm
      have hend := hide (hf.ints (manyT_len numT k t) (by omega) (S := Made w wr) ⟨hsz1, hfl⟩)
      have HRR := hide hrr
      clear hf hrr
      go_wp2
      go_ret
      exact ⟨_, rfl, hend.out, HRR.out⟩
end Go.Proofs.YtpggjolbohffjaaDoor
