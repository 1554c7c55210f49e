/- Layer 16: Scan, Slots, the fixed fact. Condition: no more than 10^12 spans. -/
import Derived.Test.YtojobajeffipdaaPcQF
set_option linter.unusedSimpArgs false
set_option linter.unusedVariables false
namespace Go.Proofs.Ytojobajeffipdaa
open Go.RowKit

theorem lcOk_of {ss : List SpV} {regs : Int} {i : Nat} {ls : List LcV} (h : InvS ss regs i ls) (hr : regs ≤ 32) : LcOk ls := fun x hx => by
  obtain ⟨j, hj⟩ := List.getElem?_of_mem hx
  have e := lcAt_of hj
  by_cases hji : j < i
  · rcases h.kind j hji with ⟨a, b, c⟩ | ⟨a, b, c⟩ <;> rw [e] at a b c <;> exact ⟨⟨by omega, by omega⟩, by omega, by omega⟩
  · have z := h.zero j (by omega)
    rw [e] at z
    subst z
    exact ⟨⟨by simp, by simp⟩, by simp, by simp⟩
theorem info_lc : (Try.prog.info? 37).map (fun i => (i.zero, i.size, i.bytes)) = some (some (.agg #[.int .i64 0, .int .i64 0]), 2, 16) := by kernel_rfl
theorem mkz_run (t e : TypeId) {z : Value} {sz bytes : Nat} (ht : Try.prog.underlying t = some (.slice e)) (hi : (Try.prog.info? e).map (fun i => (i.zero, i.size, i.bytes)) = some (some z, sz, bytes)) (hb : bytes ≤ 1000) (m : Nat) (hm : m ≤ 1000) (W : World) :
    (Instr.makeSlice t (.int .i64 (m : Int)) (.int .i64 (m : Int))).run Try.prog W = .ok (.slice (some ⟨W.heap.size, 0, none⟩) m m) (W.alloc (.cells (madeCells z.cells (m * sz)) e)) := by
  obtain ⟨i0, hi0, hz0, hz1, hz2⟩ := info_parts hi
  have hmul : i0.bytes * m ≤ 1000 * 1000 := by rw [hz2]; exact Nat.mul_le_mul hb hm
  have h := run_make (P := Try.prog) W t e i0 z ht hi0 hz0 .i64 .i64 (m : Int) (m : Int) (by omega) (by omega) (by rw [← Int.natCast_mul]; omega) (by omega)
  rw [hz1, Int.toNat_natCast] at h
  exact h
theorem lcs_len : ∀ ls : List LcV, (ls.flatMap lcC).length = ls.length * 2
  | [] => rfl
  | x :: ls => by rw [List.flatMap_cons, List.length_append, lcs_len ls, List.length_cons]; show 2 + _ = _; omega
theorem madeCells_lc (k : Nat) : madeCells (Value.agg #[.int .i64 0, .int .i64 0]).cells (k * 2) = lcsA (List.replicate k ⟨0, 0⟩) := by
  have hz : (Value.agg #[.int .i64 0, .int .i64 0]).cells = #[.int .i64 0, .int .i64 0] := rfl
  rw [hz]
  have hl : ((List.replicate k (⟨0, 0⟩ : LcV)).flatMap lcC).length = k * 2 := by rw [lcs_len, List.length_replicate]
  have hall : ∀ (m i : Nat), i < m * 2 → ((List.replicate m (⟨0, 0⟩ : LcV)).flatMap lcC)[i]? = some (Value.int .i64 0) := by
    intro m
    induction m with
    | zero => intro i hi; omega
    | succ m ih =>
      intro i hi
      rw [List.replicate_succ, List.flatMap_cons]
      by_cases h3 : i < 2
      · rw [List.getElem?_append_left (by exact h3)]
        have : i = 0 ∨ i = 1 := by omega
        rcases this with rfl | rfl <;> rfl
      · rw [List.getElem?_append_right (by show 2 ≤ i; omega)]
        exact ih (i - 2) (by omega)
  unfold madeCells lcsA
  apply Array.ext
  · simp [hl]
  · intro i h1 h2
    have hi : i < k * 2 := by simpa using h1
    have e := hall k i hi
    have e2 : ((List.replicate k (⟨0, 0⟩ : LcV)).flatMap lcC).toArray[i] = Value.int .i64 0 := by
      have : ((List.replicate k (⟨0, 0⟩ : LcV)).flatMap lcC)[i]'(by rw [hl]; exact hi) = Value.int .i64 0 := by
        have := List.getElem?_eq_getElem (show i < ((List.replicate k (⟨0, 0⟩ : LcV)).flatMap lcC).length by rw [hl]; exact hi)
        rw [e] at this
        injection this with this
        exact this.symm
      simpa using this
    rw [e2]
    have hm : i % 2 = 0 ∨ i % 2 = 1 := by omega
    simp only [Array.getElem_map, Array.getElem_range]
    rcases hm with h | h <;> simp [h]
/-- What Scan answers. -/
def ScanA (w : World) (ss : List SpV) (regs : Int) (n : Nat) (e : Ending) (w' : World) : Prop :=
  ((rightB16 ss = true ∧ 0 ≤ regs ∧ regs ≤ 32 → ∃ g, e = .returned (.tuple #[.slice (some ⟨g, 0, none⟩) n n, .int .i64 0]) ∧ Box w' g (lcsA (scanL ss regs n)) 37 ∧ w.heap.size ≤ g) ∧
  (¬ (rightB16 ss = true ∧ 0 ≤ regs ∧ regs ≤ 32) → e = .returned (.tuple #[.slice none 0 0, .int .i64 1]))) ∧ Below w.heap.size w w'
set_option maxHeartbeats 2000000 in
set_option maxRecDepth 100000 in
theorem qscan_any (v : Value) (ss : List SpV) (regs : Int) (w : World) (hs : SpsV w (· < w.heap.size) v ss) (hm : ss.length ≤ 9223372036854775807) :
    Calls Try.prog 9 #[v, .int .i64 regs] w (ScanA w ss regs ss.length) := by
  have HRI := hide (qright_any v ss w hs hm)
  obtain ⟨A, c, rfl, hc, hcm⟩ := hs.open'
  obtain ⟨n, hn⟩ := letl ss.length
  rw [hn] at HRI hs hc hm ⊢
  obtain ⟨b, hb⟩ := letl (rightB16 ss)
  rw [hb] at HRI
  by_cases hin : b = true ∧ 0 ≤ regs ∧ regs ≤ 32
  rotate_left
  · have HA := hide (fun (W : World) (hW : Below w.heap.size w W) => (show ScanA w ss regs n (.returned (.tuple #[.slice none 0 0, .int .i64 1])) W from ⟨⟨fun h => absurd (by rw [← hb]; exact h) hin, fun _ => rfl⟩, hW⟩))
    clear hs hn
    rcases (show b = false ∨ (b = true ∧ regs < 0) ∨ (b = true ∧ ¬ regs < 0 ∧ 32 < regs) by cases b <;> simp at hin ⊢; omega) with rfl | ⟨rfl, h1⟩ | ⟨rfl, h1, h2⟩
    all_goals
      clear hin hb
      go_enter Try.func9, Try.ntmps9
      go_wp2_with (go_at_call 12; (with_reducible refine HRI.out.mono ?_); rintro e w2 ⟨rfl, hb2⟩)
      go_ret2
      exact HA.out _ hb2
  obtain ⟨rfl, hr1, hr2⟩ := hin
  have hok := okS_of hb
  have hn48 : n ≤ 48 := by have := hok.len; omega
  have HINV := hide (fun (i : Nat) (hi : i ≤ n) => inv_all (regs := regs) hok i (by omega))
  have HS := hide (fun (W : World) (hW : Below w.heap.size w W) => (show SpsV W (· < w.heap.size) (.slice A n c) ss from hs.keep (fun b o hb => hW.cell (p := ⟨b, o, none⟩) hb) (fun b hb => hb)))
  have HN := hide hn
  have HA := hide (fun (W : World) (g : Nat) (hW : Below w.heap.size w W) (hx : Box W g (lcsA (scanL ss regs n)) 37) (hg : w.heap.size ≤ g) => (show ScanA w ss regs n (.returned (.tuple #[.slice (some ⟨g, 0, none⟩) n n, .int .i64 0])) W from ⟨⟨fun _ => ⟨g, rfl, hx, hg⟩, fun h => absurd ⟨hb, hr1, hr2⟩ h⟩, hW⟩))
  have j1 : ¬ regs < 0 := by omega
  have j2 : ¬ 32 < regs := by omega
  clear hs hn hok hb
  go_enter Try.func9, Try.ntmps9
  go_upto_region 3 with (go_at_call 12; (with_reducible refine HRI.out.mono ?_); rintro e w2 ⟨rfl, hb2⟩)
  have HB2 := hide hb2
  clear hb2
  have hmk := mkz_run 24 37 Try.underlying24 info_lc (by omega) n (by omega) w2
  rw [madeCells_lc] at hmk
  go_upto_region 4 with (fail)
  obtain ⟨w3, hw3⟩ := letr ((w2.alloc (.cells (lcsA (List.replicate n ⟨0, 0⟩)) 37)).alloc (.cells #[.slice A n c, .slice (some ⟨w2.heap.size, 0, none⟩) n n] 41))
  obtain ⟨g, hg⟩ := letl w2.heap.size
  have HX0 := lY2 hw3 hg
  have HX1 := lX2 hw3 hg
  have HB3 := lB2 hw3
  have HGW := hide (show w.heap.size ≤ g by have := HB2.out.size; omega)
  rw [← hw3, hg]
  rw [hg] at HX1
  clear hw3 hg hmk
  have HB4 := hide (HB2.out.trans (HB3.out.mono HB2.out.size))
  have HZ := hide (show Box w3 g (lcsA (scanL ss regs 0)) 37 by have t := HX0.out; rwa [show scanL ss regs 0 = List.replicate n ⟨0, 0⟩ by rw [scanL, HN.out]])
  go_wp2
  go_loopw [26] (fun z wr => ∃ k : Nat, k ≤ n ∧ z = .int .i64 k ∧ Below w.heap.size w wr ∧ Box wr g (lcsA (scanL ss regs k)) 37 ∧ Box wr (g + 1) #[.slice A n c, .slice (some ⟨g, 0, none⟩) n n] 41) (fun z _ => n - (intOf z).toNat)
  case atStart => exact ⟨0, Nat.zero_le _, rfl, HB4.out, HZ.out, HX1.out⟩
  case round =>
    obtain ⟨k, hk, rfl, hb, hx, hy⟩ := hrel
    obtain ⟨wo, rfl⟩ : ∃ wo, wo = wr := ⟨_, rfl⟩
    have HB := hide hb
    have HX := hide hx
    have HY := hide hy
    have y0 := (hy.cell 0 (v := .slice A n c) rfl).1
    have y1 := (hy.cell 1 (v := .slice (some ⟨g, 0, none⟩) n n) rfl).1
    have ly := hy.lt
    clear hb hx hy
    by_cases hlt : k < n
    case neg =>
      have e : k = n := by omega
      subst e
      go_wp2
      go_ret2
      exact HA.out _ g HB.out HX.out HGW.out
    have HPU := hide (qput_any g n n c k w.heap.size regs A (scanL ss regs k) ss wo HX.out (lcOk_of (HINV.out k (by omega)) hr2) (HS.out wo HB.out) (by rw [(HINV.out k (by omega)).len, HN.out]) HN.out hlt hn48 (Nat.le_refl _) (by omega) HGW.out)
    go_wp2_with (go_at_call 19; (with_reducible refine HPU.out.mono ?_); rintro e w5 ⟨rfl, hx5, hb5, hu5⟩)
    go_roundw
    case rel => exact ⟨k + 1, by omega, by go_num, HB.out.trans hb5, hx5, hu5.box HY.out (by omega)⟩
    case measure => simp [intOf]; omega
set_option maxHeartbeats 1000000 in
set_option maxRecDepth 100000 in
theorem qslots_any (v : Value) (ls : List LcV) (w : World) (hl : LcsV w (· < w.heap.size) v ls) (hm : ls.length ≤ 9223372036854775807) : Calls Try.prog 15 #[v] w fun e w' => e = .returned (.int .i64 (slotsN ls)) ∧ Below w.heap.size w w' := by
  obtain ⟨A, c, rfl, hc, hcm⟩ := hl.open'
  obtain ⟨n, hn⟩ := letl ls.length
  rw [hn] at hl hc hm ⊢
  have HLC := hide (fun (W : World) (hW : Below w.heap.size w W) (b o : Nat) (hA : A = some ⟨b, o, none⟩) (j : Nat) (y : LcV) (hy : ls[j]? = some y) => (hA ▸ hl).at' hW hy)
  have HAD := hide (fun (j : Nat) (y : LcV) (hy : ls[j]? = some y) => (show (∃ b o, A = some ⟨b, o, none⟩) ∧ i64R y.n from by
    obtain ⟨b, o, e, -, -, hr⟩ := hl.get hy
    exact ⟨⟨b, o, e⟩, hr.2⟩))
  have HN := hide hn
  clear hl hn
  go_enter Try.func15, Try.ntmps15
  go_wp2
  go_loopw [3, 8] (fun a z wr => ∃ (k : Nat) (m : Int), k ≤ n ∧ z = .int .i64 k ∧ a = .int .i64 m ∧ 0 ≤ m ∧ m ≤ 1099511627776 ∧ Below w.heap.size w wr ∧ Hid ((ls.take k).foldl slotF 0 = m)) (fun _ z _ => n - (intOf z).toNat)
  case atStart => exact ⟨0, 0, Nat.zero_le _, rfl, rfl, by omega, by omega, Below.refl _ _, hide rfl⟩
  case round =>
    obtain ⟨k, m, hk, rfl, rfl, hm0, hm1, hb, hf⟩ := hrel
    obtain ⟨wo, rfl⟩ : ∃ wo, wo = wr := ⟨_, rfl⟩
    have HB := hide hb
    clear hb
    by_cases hlt : k < n
    case neg =>
      have HF := hide (show slotsN ls = m by unfold slotsN; rw [← hf.out, List.take_of_length_le (by have := HN.out; omega)])
      go_wp2
      go_ret
      exact ⟨by rw [HF.out]; rfl, HB.out⟩
    obtain ⟨x, hx⟩ : ∃ y, ls[k]? = some y := ⟨_, List.getElem?_eq_getElem (by have := HN.out; omega)⟩
    obtain ⟨⟨bl, ol, hA⟩, r1, r2⟩ := HAD.out k x hx
    subst hA
    obtain ⟨c0, c1, cb⟩ := HLC.out wo HB.out bl ol rfl k x hx
    have HF := hide (show (ls.take (k + 1)).foldl slotF 0 = slotF m x by rw [List.take_add_one, hx, Option.toList_some, List.foldl_append, hf.out]; rfl)
    have hnn := slotF_nn (x := x) hm0
    obtain ⟨q, hq⟩ := letl (slotF m x)
    rw [hq] at HF hnn
    have HQ := hide hq
    obtain ⟨xk, xn⟩ := x
    obtain ⟨hn0, hn1⟩ := hnn
    have hn2 := hn1 hm1
    clear hx hq hn1
    go_upto_region 5 with (fail)
    obtain ⟨w4, hw4⟩ := letr (wo.alloc (.cells #[.int .i64 xk, .int .i64 xn] 37))
    obtain ⟨h4, hh4⟩ := letl wo.heap.size
    have HX := lBox hw4 hh4
    have HB4 := lBel hw4
    rw [← hw4, hh4]
    clear hw4 hh4 c0 c1 cb
    have HC := hide (HB.out.trans (HB4.out.mono HB.out.size))
    have q0 := (HX.out.cell 0 (v := .int .i64 xk) rfl).1
    have q1 := (HX.out.cell 1 (v := .int .i64 xn) rfl).1
    have lx := HX.out.lt
    rcases (show (xk = 2 ∧ 0 ≤ xn ∧ xn < 1099511627776) ∨ ¬ xk = 2 ∨ (xk = 2 ∧ ¬ 0 ≤ xn) ∨ (xk = 2 ∧ 0 ≤ xn ∧ ¬ xn < 1099511627776) by omega) with ⟨rfl, h2, h3⟩ | h1 | ⟨rfl, h2⟩ | ⟨rfl, h2, h3⟩
    rotate_left
    all_goals try (
      have HE := hide (show q = m by rw [← HQ.out]; unfold slotF; rw [if_neg (by simp only; omega)])
      go_wp2
      go_roundw
      case rel => exact ⟨k + 1, m, by omega, by go_num, rfl, hm0, hm1, HC.out, hide (by rw [HF.out, HE.out])⟩
      case measure => simp [intOf]; omega)
    have HE := hide (show q = max m (xn + 1) by rw [← HQ.out]; unfold slotF; rw [if_pos ⟨rfl, h2, h3⟩])
    go_wp2
    all_goals
      go_roundw
      case rel => exact ⟨k + 1, q, by omega, by go_num, by have := HE.out; congr 1; omega, hn0, hn2, HC.out, HF⟩
      case measure => simp [intOf]; omega
end Go.Proofs.Ytojobajeffipdaa
