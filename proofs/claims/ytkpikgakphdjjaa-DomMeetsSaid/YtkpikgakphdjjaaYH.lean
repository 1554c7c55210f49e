/- What slices.Repeat answers for one number. Condition: no more than forty times. -/
import Derived.Test.YtkpikgakphdjjaaYG
import Derived.Laws.CopyOwn
set_option linter.unusedSimpArgs false
set_option linter.unusedVariables false
namespace Go.Proofs.Ytkpikgakphdjjaa
open Go.RowKit

theorem and_few : ∀ n : Fin 41, Go.bits BinOp.and IntKind.u64 ((n.val : Nat) : Int) 4294967295 = ((n.val : Nat) : Int) := by decide
theorem u64_few {n : Nat} (hn : n ≤ 40) : IntKind.u64.wrap (n : Int) = n := (by decide : ∀ n : Fin 41, IntKind.u64.wrap ((n.val : Nat) : Int) = ((n.val : Nat) : Int)) ⟨n, by omega⟩
theorem i64_few {n : Nat} (hn : n ≤ 40) : IntKind.i64.wrap (n : Int) = n := (by decide : ∀ n : Fin 41, IntKind.i64.wrap ((n.val : Nat) : Int) = ((n.val : Nat) : Int)) ⟨n, by omega⟩
set_option maxRecDepth 100000 in
theorem mul64_one (n : Nat) (hn : n ≤ 40) (w : World) :
    Calls Try.prog 86 #[.int .u64 1, .int .u64 (n : Int)] w fun e w' => e = .returned (.tuple #[.int .u64 0, .int .u64 (n : Int)]) ∧ w' = w := by
  have a1 : Go.bits BinOp.and IntKind.u64 1 4294967295 = 1 := by decide
  have a2 : Go.bits BinOp.and IntKind.u64 (n : Int) 4294967295 = n := and_few ⟨n, by omega⟩
  have a3 := u64_few hn
  have a4 : (n : Int) / 4294967296 = 0 := by omega
  have a5 : Go.bits BinOp.and IntKind.u64 0 4294967295 = 0 := by decide
  have a6 : IntKind.u64.wrap 0 = 0 := by decide
  clear hn
  go_enter Try.func86, Try.ntmps86
  go_wp2
  go_ret2
  exact ⟨by simp [*], rfl⟩
set_option maxRecDepth 100000 in
theorem mul_one' (n : Nat) (hn : n ≤ 40) (w : World) :
    Calls Try.prog 75 #[.int .u64 1, .int .u64 (n : Int)] w fun e w' => e = .returned (.tuple #[.int .u64 0, .int .u64 (n : Int)]) ∧ w' = w := by
  have HM := hide (mul64_one n hn w)
  clear hn
  go_enter Try.func75, Try.ntmps75
  go_wp2_with (go_at_call 86; refine (HM.out).mono ?_; rintro e w2 ⟨rfl, rfl⟩)
  go_ret2
  exact ⟨rfl, rfl⟩
theorem size_i64' : (Try.prog.info? 3).map (·.size) = some 1 := by kernel_rfl
/-- A row of n numbers under way: the first k of them are c. -/
def repL (n k : Nat) (c : Int) : List Value := List.replicate k (Value.int .i64 c) ++ List.replicate (n - k) (Value.int .i64 0)
theorem repL_len {n k : Nat} {c : Int} (h : k ≤ n) : (repL n k c).length = n := by simp [repL]; omega
theorem repL_splice {n k m : Nat} {c : Int} (h : k + m ≤ n) : splice (repL n k c) k (List.replicate m (Value.int .i64 c)) = repL n (k + m) c := by
  unfold splice repL
  rw [List.take_append_of_le_length (by simp), List.take_of_length_le (by simp), List.length_replicate, List.drop_append, List.drop_eq_nil_of_le (by simp), List.nil_append, List.length_replicate, List.drop_replicate, ← List.append_assoc, List.replicate_append_replicate]
  congr 2
  omega
theorem repL_zero (n : Nat) (c : Int) : (madeCells (Value.int .i64 0).cells (n * 1)) = (repL n 0 c).toArray := by
  rw [madeCells_int]; simp [repL]
theorem repL_all (n : Nat) (c : Int) : (repL n n c).toArray = ((List.replicate n c).map (Value.int .i64)).toArray := by simp [repL]
theorem repL_cell {w : World} {g n k j : Nat} {c : Int} {v : Value} (h : w.heap[g]? = some (.cells (repL n k c).toArray 3 (0, 0))) (hj : j < k) (hv : (List.replicate k (Value.int .i64 c))[j]? = some v) : w.cell? ⟨g, j, none⟩ = some v := by
  refine (Box.cell (w := w) (h := g) (T := 3) h j ?_).1
  simp only [List.getElem?_toArray]
  unfold repL
  rw [List.getElem?_append_left (by simpa using hj)]
  exact hv
set_option maxHeartbeats 1000000 in
set_option maxRecDepth 100000 in
theorem repeat_any (n : Nat) (c : Int) (bx : Nat) (w : World) (h1 : 1 ≤ n) (hn : n ≤ 40) (hx : w.cell? ⟨bx, 0, none⟩ = some (.int .i64 c)) (hbx : bx < w.heap.size) :
    Calls Try.prog 52 #[.slice (some ⟨bx, 0, none⟩) 1 1, .int .i64 (n : Int)] w fun e w' => ∃ g, e = .returned (.slice (some ⟨g, 0, none⟩) n n) ∧ w.heap.size ≤ g ∧ AbW w' g (List.replicate n c) ∧ Below w.heap.size w w' := by
  have HM := hide (mul_one' n hn w)
  have hmake : ∀ W : World, (Instr.makeSlice 27 (.int .i64 (n : Int)) (.int .i64 (n : Int))).run Try.prog W = .ok (.slice (some ⟨W.heap.size, 0, none⟩) n n) (W.alloc (.cells (madeCells (Value.int .i64 0).cells (n * 1)) 3)) := fun W => mk_run 27 3 Try.underlying27 info_i64 (by omega) n (by omega) W
  obtain ⟨mc, hmc⟩ : ∃ mc, madeCells (Value.int .i64 0).cells (n * 1) = mc := ⟨_, rfl⟩
  rw [hmc] at hmake
  have HMC := hide (show mc = (repL n 0 c).toArray by rw [← hmc]; exact repL_zero n c)
  have a3 := u64_few hn
  have a4 := i64_few hn
  have a5 : ¬ n < 0 := by omega
  have a6 : ¬ 9223372036854775807 < n := by omega
  have a7 : ¬ (n : Int) < 0 := by omega
  have a8 : ¬ (9223372036854775807 : Int) < (n : Int) := by omega
  have HN := hide hn
  have H1 := hide h1
  have hw0 : w.heap.size ≠ bx := by omega
  have HXX := hide hx
  clear hmc
  go_enter Try.func52, Try.ntmps52
  go_upto_region 7 with (go_at_call 75; refine (HM.out).mono ?_; rintro e w2 ⟨rfl, rfl⟩)
  obtain ⟨w1, hw1⟩ : ∃ w1, w1 = w2.alloc (.cells mc 3) := ⟨_, rfl⟩
  obtain ⟨g, hg⟩ : ∃ g, w2.heap.size = g := ⟨_, rfl⟩
  have HG1 := hide (show w1.heap[g]? = some (.cells (repL n 0 c).toArray 3 (0, 0)) by rw [hw1, ← hg, ← HMC.out]; exact heap_alloc_new w2 _)
  have HB1 := hide (show Below w2.heap.size w2 w1 by rw [hw1]; exact alloc1 w2 _)
  have hgw : w2.heap.size ≤ g := by omega
  rw [← hw1, hg]
  clear hw1 hg hmake HMC hx
  obtain ⟨X, hX⟩ : ∃ X, X = [Value.int .i64 c] := ⟨_, rfl⟩
  have HX := hide hX
  obtain ⟨L, hL⟩ : ∃ L, L = repL n 0 c := ⟨_, rfl⟩
  have HL := hide hL
  rw [← hL] at HG1
  have hXl : X.length = 1 := by rw [hX]; rfl
  have hLl : L.length = n := by rw [hL]; exact repL_len (by omega)
  clear hX hL
  go_wp2_with (refine wpList_copy_splice (by rfl) (.tmp 31) (.tmp 32) 27 27 (by rfl) 3 Try.underlying27 size_i64' (some ⟨g, 0, none⟩) (some ⟨bx, 0, none⟩) n n 1 1 (by rfl) (by rfl) g 0 L 3 HG1.out X (by have := H1.out; rw [hXl]; simp only [Nat.min_def]; split <;> omega) (fun hp => ⟨rfl, ?_⟩) (by rw [hXl, hLl]; omega) (by rw [HX.out]; intro v hv; simp at hv; subst hv; rfl) w2.heap.size w2 HB1.out hgw ?_)
  · refine ⟨⟨bx, 0, none⟩, rfl, fun j v hj => ?_⟩
    rw [HX.out] at hj
    have hj0 : j = 0 := by
      have := (List.getElem?_eq_some_iff.1 hj).1
      simpa using this
    subst hj0
    simp at hj
    subst hj
    rw [Addr.add_lit]
    exact (HB1.out.cell (p := ⟨bx, 0, none⟩) hbx).trans HXX.out
  · intro w3 hg3 hb3
    have HG3 := hide (show w3.heap[g]? = some (.cells (repL n 1 c).toArray 3 (0, 0)) by
      have h := hg3.out
      rw [HX.out, HL.out] at h
      have h2 := repL_splice (n := n) (k := 0) (m := 1) (c := c) (by have := H1.out; omega)
      simp only [List.replicate_one] at h2
      rw [h2] at h
      exact h)
    have HB3 := hide hb3
    clear hg3 hb3 HG1 hLl HL HX
    go_wp2
    go_loopw [8] (fun i wr => ∃ k : Nat, k ≤ n ∧ i = .int .i64 (k : Int) ∧ Hid (1 ≤ k) ∧ Hid (wr.heap[g]? = some (.cells (repL n k c).toArray 3 (0, 0))) ∧ Below w2.heap.size w2 wr) (fun i _ => n - (intOf i).toNat)
    case atStart => exact ⟨1, H1.out, by first | rfl | go_num, hide (Nat.le_refl _), HG3, HB3.out⟩
    case round =>
      obtain ⟨k, hk, rfl, hk1, hin, hb⟩ := hrel
      obtain ⟨wo, rfl⟩ : ∃ wo, wo = wr := ⟨_, rfl⟩
      have HBO := hide hb
      clear hb
      by_cases hlt : k < n
      case neg =>
        have HE := hide (show AbW wo g (List.replicate n c) by
          have h := hin.out
          rw [show k = n by omega, repL_all] at h
          exact h)
        go_wp2
        go_ret
        exact ⟨g, rfl, hgw, HE.out, HBO.out⟩
      obtain ⟨m, hm⟩ : ∃ m, m = Nat.min k (n - k) := ⟨_, rfl⟩
      have hm1 : 1 ≤ m ∧ k + m ≤ n := by have := hk1.out; rw [hm]; simp only [Nat.min_def]; split <;> omega
      have HM1 := hide hm1
      have HMK := hide (show m ≤ k by rw [hm]; exact Nat.min_le_left _ _)
      have HM := hide hm
      obtain ⟨X, hX⟩ : ∃ X, X = List.replicate m (Value.int .i64 c) := ⟨_, rfl⟩
      have HX := hide hX
      obtain ⟨L, hL⟩ : ∃ L, L = repL n k c := ⟨_, rfl⟩
      have HL := hide hL
      have HLO := hide hin.out
      rw [← hL] at hin
      have hXl : X.length = m := by rw [hX]; simp
      have hLl : L.length = n := by rw [hL]; exact repL_len (by omega)
      have e1 : IntKind.i64.wrap ((k : Int) + (m : Int)) = ((k + m : Nat) : Int) := by
        have := i64_few (n := k + m) (by have := HN.out; omega)
        rw [← this]; congr 1
      have HXL := hide hXl
      have i1 : (0 : Int) ≤ (k : Int) := by omega
      have i2 : (k : Int) ≤ (n : Int) := by omega
      clear hX hL hm hm1
      go_upto_region 9 with (fail)
      go_region_law
        (first
          | (refine step_copy_splice rfl (.tmp 41) (.tmp 44) _ _ rfl 3 Try.underlying27 size_i64' (some ⟨g, k, none⟩) (some ⟨g, 0, none⟩) (n - k) (n - k) k n (by go_simp; omega) (by go_simp) g k L 3 hin.out X (by rw [HXL.out]; exact HM.out) (fun hp => ⟨rfl, ⟨g, 0, none⟩, rfl, fun j v hj => by rw [HX.out] at hj; have hjm : j < m := (by simpa using (List.getElem?_eq_some_iff.1 hj).1); rw [Addr.add_lit, Nat.zero_add]; exact repL_cell (w := wo) HLO.out (by have := HMK.out; omega) (by rw [List.getElem?_replicate] at hj ⊢; rw [if_pos hjm] at hj; rw [if_pos (by have := HMK.out; omega)]; exact hj)⟩) (by rw [HXL.out, hLl]; exact HM1.out.2) (by rw [HX.out]; intro v hv; rw [List.eq_of_mem_replicate hv]; rfl) w2.heap.size w2 (below_drewN HBO.out 1) hgw ?_; intro w4 hg4 hb4))
      all_goals
        have HG4 := hide (show w4.heap[g]? = some (.cells (repL n (k + m) c).toArray 3 (0, 0)) by
          have h := hg4.out
          rw [HX.out, HL.out, repL_splice HM1.out.2] at h
          exact h)
        have HB4 := hide hb4
        clear hg4 hb4
        go_wp2
        go_roundw
        case rel => exact ⟨k + m, HM1.out.2, by go_num, hide (by have := hk1.out; omega), HG4, HB4.out⟩
        case measure => have := HM1.out; simp [intOf]; omega
end Go.Proofs.Ytkpikgakphdjjaa
