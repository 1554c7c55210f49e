/- Layer 7: slices.Sort of nothing, slices.Compact, the heads, Plain: what the program answers. Condition: the function is one of a program that may be. -/
import Derived.Test.YtlolgahaphmfoaaLB
import Derived.Laws.CopyOwn
set_option linter.unusedSimpArgs false
set_option linter.unusedVariables false
namespace Go.Proofs.Ytlolgahaphmfoaa
open Go.RowKit

theorem zero_cells (n : Nat) : (Builtin.zeroCells (Value.int .i64 0).cells n).toList = List.replicate n (Value.int .i64 0) := by
  apply List.ext_getElem
  · simp [Builtin.zeroCells, Value.cells]
  · intro i h1 h2
    simp [Builtin.zeroCells, Value.cells]
    rw [Nat.mod_one]
    rfl
/-- clear(s[k:]), s the call's own, k below its length. -/
theorem run_clear_tail {P : Program} (w : World) (t ty : TypeId) (elem : TypeId) (ht : P.underlying t = some (.slice elem)) (hz : ∀ W, Sem.run P (zeroValue elem) W = .ok (.int .i64 0) W)
    (base g k n c m cc : Nat) (hm : k + m = n) (hm0 : 0 < m) (ys : List Int) (hn : ys.length = n) (how : Ow w base 3 .i64 (.slice (some ⟨g, 0, none⟩) n c) ys) :
    ∃ w', Sem.run P (Builtin.clear_ #[t] ty #[.slice (some ⟨g, k, none⟩) m cc]) w = .ok (.tuple #[]) w' ∧ Ow w' base 3 .i64 (.slice (some ⟨g, 0, none⟩) k c) (ys.take k) ∧ Below base w w' := by
  obtain ⟨m, rfl⟩ : ∃ j, m = j + 1 := ⟨m - 1, by omega⟩
  subst hn
  rcases how.2 with ⟨h1, -⟩ | ⟨g', cap, cur, hv, hg, hh, hnc, hcm, hsz, htake⟩
  · cases h1
  injection hv with h1 h2 h3
  injection h1 with h1
  injection h1 with h1
  subst h1; subst h3
  have hlen : (List.replicate (m + 1) (Value.int .i64 0)).length = m + 1 := by simp
  have hst := Go.run_storeCells_at P g k 3 (List.replicate (m + 1) (Value.int .i64 0)) 0 cur w hh (by rw [hlen, hsz]; omega) (by intro u hu; rw [List.mem_replicate] at hu; rw [hu.2]; rfl)
  have hrun : (Builtin.clear_ #[t] ty #[.slice (some ⟨g, k, none⟩) (m + 1) cc]).run P w = .ok (.tuple #[]) (w.setRow g (cur.toList.take (k + 0) ++ List.replicate (m + 1) (Value.int .i64 0) ++ cur.toList.drop (k + 0 + (List.replicate (m + 1) (Value.int .i64 0)).length)).toArray) := by
    simp [Builtin.clear_, run_underlying ht, hz, zero_cells, hst, Result.andThen]
  refine ⟨_, hrun, ?_, Go.below_setRow (Below.refl _ _) hg _⟩
  have hk : k ≤ ys.length := by omega
  refine ⟨by simp, .inr ⟨g, c, _, by rw [List.length_take, Nat.min_eq_left hk], hg, setRow_heap w g cur _ _ _ hh, by rw [List.length_take]; omega, hcm, ?_, ?_⟩⟩
  · simp only [Nat.add_zero, hlen, List.size_toArray, List.length_append, List.length_take, List.length_drop, List.length_replicate, Array.length_toList, hsz]
    omega
  · simp only [Nat.add_zero, Nat.mul_one] at *
    rw [List.length_take, Nat.min_eq_left hk, List.append_assoc, List.take_append_of_le_length (by rw [List.length_take, Array.length_toList, hsz]; omega), List.take_take, Nat.min_self, List.map_take, ← htake, List.take_take, Nat.min_eq_left hk]
set_option maxHeartbeats 2000000 in
set_option maxRecDepth 100000 in
theorem len64_zero (w : World) : Calls Try.prog 89 #[.int .u64 0] w fun e w' => e = .returned (.int .i64 0) ∧ w = w' := by
  go_enter Try.func89, Try.ntmps89
  go_wp2
  go_ret
  exact ⟨by first | rfl | kernel_rfl | (simp [Lib.len8]; done), rfl⟩
set_option maxHeartbeats 2000000 in
set_option maxRecDepth 100000 in
theorem len_zero (w : World) : Calls Try.prog 72 #[.int .u64 0] w fun e w' => e = .returned (.int .i64 0) ∧ w = w' := by
  have HL := hide (fun W => len64_zero W)
  go_enter Try.func72, Try.ntmps72
  go_wp2_with (go_at_call 89; refine (HL.out _).mono ?_; rintro e w' ⟨rfl, rfl⟩)
  go_ret
  exact ⟨rfl, rfl⟩
set_option maxHeartbeats 2000000 in
set_option maxRecDepth 100000 in
theorem insert_nil (w : World) : Calls Try.prog 79 #[.slice none 0 0, .int .i64 0, .int .i64 0] w fun e w' => e = .returned (.tuple #[]) ∧ w = w' := by
  go_enter Try.func79, Try.ntmps79
  go_wp2
  go_loopw [6] (fun i wr => i = .int .i64 1 ∧ wr = w) (fun _ _ => 0)
  case atStart => exact ⟨rfl, rfl⟩
  case round =>
    obtain ⟨rfl, rfl⟩ := hrel
    go_wp2
    go_end0
    exact ⟨rfl, rfl⟩
set_option maxHeartbeats 2000000 in
set_option maxRecDepth 100000 in
theorem pdq_nil (w : World) : Calls Try.prog 71 #[.slice none 0 0, .int .i64 0, .int .i64 0, .int .i64 0] w fun e w' => e = .returned (.tuple #[]) ∧ w = w' := by
  have HI := hide (fun W => insert_nil W)
  go_enter Try.func71, Try.ntmps71
  go_wp2
  go_loopw [1, 2] (fun i j wr => i = .int .i64 0 ∧ j = .int .i64 0 ∧ wr = w) (fun _ _ _ => 0)
  case atStart => exact ⟨rfl, rfl, rfl⟩
  case round =>
    obtain ⟨rfl, rfl, rfl⟩ := hrel
    go_wp2_with (go_at_call 79; refine (HI.out _).mono ?_; rintro e w' ⟨rfl, rfl⟩)
    refine bodyPost_ret (results_none rfl _ _ _) rfl ?_
    exact ⟨rfl, rfl⟩
set_option maxHeartbeats 2000000 in
set_option maxRecDepth 100000 in
theorem sort_nil (w : World) : Calls Try.prog 52 #[.slice none 0 0] w fun e w' => e = .returned (.tuple #[]) ∧ w = w' := by
  have HL := hide (fun W => len_zero W)
  have HP := hide (fun W => pdq_nil W)
  go_enter Try.func52, Try.ntmps52
  go_wp2_with (first
    | (go_at_call 71; refine (HP.out _).mono ?_; rintro e w' ⟨rfl, rfl⟩)
    | (go_at_call 72; refine (HL.out _).mono ?_; rintro e w' ⟨rfl, rfl⟩))
  go_end0
  exact ⟨rfl, rfl⟩
/-- slices.Sort on a slice that the call owns, be it nil. -/
theorem sortAll_any (v : Value) (l : List Int) (base : Nat) (w : World) (hv : Ow w base 3 .i64 v l) (hn : l.length ≤ 1000) :
    Calls Try.prog 52 #[v] w fun e w' => e = .returned (.tuple #[]) ∧ Ow w' base 3 .i64 v (sortL l) ∧ Below base w w' := by
  rcases hv.2 with ⟨rfl, hz⟩ | ⟨g, cap, cur, rfl, hg, hh, hnc, hcm, hsz, htake⟩
  · have hl : l = [] := List.eq_nil_of_length_eq_zero hz
    subst hl
    refine (sort_nil w).mono ?_
    rintro e w' ⟨rfl, rfl⟩
    exact ⟨rfl, by rw [show sortL [] = [] by simp [sortL]]; exact Ow.nil _ _ _ _, Below.refl _ _⟩
  · have hgl : g < w.heap.size := (Array.getElem?_eq_some_iff.1 hh).1
    have hH := holds_of_blockI hh (by simpa using htake)
    refine (sort_int g 0 cap l w hH hgl (by omega)).mono fun e w' ⟨he, n, os, hw⟩ => ⟨he, ?_, ?_⟩
    · rw [hw]
      unfold Ow
      have h := ownsRow_sortedI (w := w) (n := n) (os := os) (ts := sortL l) (sortL_len l) hg hh hnc hcm hsz
      rw [sortL_len]
      exact h
    · rw [hw]
      exact (Below.refl _ _).grown (grownBy_sortedI _) (by omega) (fun k hk => by injection hk with hk; omega)
/-- The list behind a step of Compact's inner loop: of the first k0 + k2, kk are kept. -/
structure CmpI (zs : List Int) (k0 kk k2 : Nat) (ys D : List Int) : Prop where
  dd : DD zs (k0 + k2) D
  len : ys.length = zs.length
  tak : ys.take kk = D
  lt : kk + 1 ≤ k0 + k2
  one : 1 ≤ kk
  same : ∀ t, k0 + k2 ≤ t + 1 → ys[t]? = zs[t]?
theorem CmpI.keep {zs ys D : List Int} {k0 kk j : Nat} {y : Int} (h : CmpI zs k0 kk (j + 1) ys D) (h0 : zs[k0 + j]? = some y) (h1 : zs[k0 + (j + 1)]? = some y) : CmpI zs k0 kk (j + 2) ys D :=
  ⟨h.dd.same h0 h1, h.len, h.tak, by have := h.lt; omega, h.one, fun t ht => h.same t (by omega)⟩
theorem CmpI.put {zs ys D : List Int} {k0 kk j : Nat} {x y : Int} (hs : zs.Pairwise (· ≤ ·)) (h : CmpI zs k0 kk (j + 1) ys D) (h0 : zs[k0 + j]? = some x) (h1 : zs[k0 + (j + 1)]? = some y) (hne : y ≠ x) : CmpI zs k0 (kk + 1) (j + 2) (ys.set kk y) (D ++ [y]) := by
  have hl := h.lt
  have hjl := (List.getElem?_eq_some_iff.1 h1).1
  refine ⟨h.dd.new hs h0 h1 hne, by rw [List.length_set]; exact h.len, ?_, by omega, by omega, fun t ht => ?_⟩
  · rw [take_snocI (l := ys.set kk y) (k := kk) (y := y) (by rw [List.getElem?_set_self (by have := h.len; omega)]), List.take_set_of_le (Nat.le_refl kk), h.tak]
  · rw [List.getElem?_set_ne (by omega)]
    exact h.same t (by omega)
theorem CmpI.start {zs : List Int} {k : Nat} {y : Int} (h : DD zs (k + 1) (zs.take (k + 1))) (h0 : zs[k]? = some y) (h1 : zs[k + 1]? = some y) : CmpI zs (k + 1) (k + 1) 1 zs (zs.take (k + 1)) :=
  ⟨h.same h0 h1, rfl, rfl, by omega, by omega, fun _ _ => rfl⟩
def CmpW (w : World) (base g n c : Nat) (zs : List Int) (k0 kk k2 : Nat) (wr : World) : Prop := ∃ ys D, CmpI zs k0 kk k2 ys D ∧ Ow wr base 3 .i64 (.slice (some ⟨g, 0, none⟩) n c) ys ∧ Below base w wr
set_option maxHeartbeats 4000000 in
set_option maxRecDepth 100000 in
theorem compact_any (v : Value) (zs : List Int) (hs : zs.Pairwise (· ≤ ·)) (base : Nat) (w : World) (hv : Ow w base 3 .i64 v zs) (hbase : base ≤ w.heap.size) (hn : zs.length ≤ 1000) :
    Calls Try.prog 53 #[v] w fun e w' => ∃ v' D, e = .returned v' ∧ Ow w' base 3 .i64 v' D ∧ DD zs zs.length D ∧ Below base w w' := by
  obtain ⟨A, c, rfl, hcl, hcm, -⟩ := hv.sl
  obtain ⟨n, hnz⟩ : ∃ n, zs.length = n := ⟨_, rfl⟩
  have HN := hide hnz
  rw [hnz] at hcl hn
  have HV := hide hv
  have HS := hide hs
  rw [hnz] at HV ⊢
  by_cases hn2 : n < 2
  · have HD := hide (show DD zs n zs by
      match zs, hnz with
      | [], h => subst h; exact ⟨List.Pairwise.nil, fun y => by simp⟩
      | [a], h => subst h; exact ⟨by simp, fun y => by simp⟩
      | a :: b :: l, h => simp at h; omega)
    clear hv hs hnz
    go_enter Try.func53, Try.ntmps53
    go_wp2
    go_ret
    exact ⟨_, zs, rfl, HV.out, HD.out, Below.refl _ _⟩
  obtain ⟨g, rfl, hbg, hgl, hcell0, -⟩ := hv.blk (by omega)
  have HBG := hide hbg
  have HD1 := hide (show DD zs 1 (zs.take 1) from by
    obtain ⟨y, hy⟩ : ∃ y, zs[0]? = some y := ⟨_, List.getElem?_eq_getElem (by omega)⟩
    exact DD.one hy)
  have hcm2 : c ≤ 9223372036854775807 := by simp only [maxLen] at hcm; omega
  clear hv hs hnz hcell0 hcm
  go_enter Try.func53, Try.ntmps53
  go_wp2
  go_loopw [3] (fun i wr => ∃ k : Nat, 1 ≤ k ∧ k ≤ n ∧ i = .int .i64 (k : Int) ∧ Below base w wr ∧ Hid (Ow wr base 3 .i64 (.slice (some ⟨g, 0, none⟩) n c) zs ∧ DD zs k (zs.take k))) (fun i _ => n - (intOf i).toNat)
  case atStart => exact ⟨1, Nat.le_refl _, by omega, rfl, Below.refl _ _, hide ⟨HV.out, HD1.out⟩⟩
  case round =>
    obtain ⟨k, hk1, hk, rfl, hb, hin⟩ := hrel
    have HO := hide hin.out.1
    have HD := hide hin.out.2
    have HB := hide hb
    have hsz := hb.size
    clear hin hb
    by_cases hlt : k < n
    case neg =>
      have HE := hide (show DD zs n zs by
        have h := HD.out
        rw [List.take_of_length_le (by have := HN.out; omega)] at h
        have : k = n := by omega
        rw [← this]; exact h)
      go_wp2
      go_ret
      exact ⟨_, zs, rfl, HO.out, HE.out, HB.out⟩
    obtain ⟨j, rfl⟩ : ∃ j, k = j + 1 := ⟨k - 1, by omega⟩
    obtain ⟨x, hx⟩ : ∃ x, zs[j]? = some x := ⟨_, List.getElem?_eq_getElem (by have := HN.out; omega)⟩
    obtain ⟨y, hy⟩ : ∃ y, zs[j + 1]? = some y := ⟨_, List.getElem?_eq_getElem (by have := HN.out; omega)⟩
    obtain ⟨g', hg', -, hgr, hc1, -⟩ := HO.out.blk (by have := HN.out; omega)
    injection hg' with hg'
    injection hg' with hg'
    subst hg'
    have cx := hc1 j x hx
    have cy := hc1 (j + 1) y hy
    have HX := hide hx
    have HY := hide hy
    have e1 : IntKind.i64.wrap (((j + 1 : Nat) : Int) - 1) = (j : Int) := by
      rw [show ((j + 1 : Nat) : Int) - 1 = (j : Int) by omega]
      exact IntWalk.i64_in _ ⟨by omega, by omega⟩
    have e2 : IntKind.i64.wrap ((j : Int) + 1 - 1) = (j : Int) := by
      rw [show (j : Int) + 1 - 1 = (j : Int) by omega]
      exact IntWalk.i64_in _ ⟨by omega, by omega⟩
    have j1 : (0 : Int) ≤ (j : Int) := by omega
    have j2 : (j : Int) < (n : Int) := by omega
    have j3 : j < n := by omega
    have j4 : j + 1 < n := hlt
    have j5 : ((j + 1 : Nat) : Int) < (n : Int) := by omega
    have j6 : (0 : Int) ≤ ((j + 1 : Nat) : Int) := by omega
    clear hc1 hx hy
    by_cases he : y = x
    case neg =>
      have q1 : (y == x) = false := by simpa using he
      have HST := hide (show DD zs (j + 1 + 1) (zs.take (j + 1 + 1)) by
        have h := HD.out.new HS.out HX.out HY.out he
        rw [← take_snocI HY.out] at h
        exact h)
      clear he
      go_upto_region 6 with (fail)
      go_quiet (fail)
      go_wp2
      go_roundw
      case rel => exact ⟨j + 1 + 1, by omega, by omega, by go_num, below_drewN HB.out _, hide ⟨HO.out, HST.out⟩⟩
      case measure => simp [intOf]; omega
    subst he
    have q1 : (y == y) = true := by simp
    have HST := hide (show CmpI zs (j + 1) (j + 1) 1 zs (zs.take (j + 1)) from CmpI.start HD.out HX.out HY.out)
    go_upto_region 6 with (fail)
    go_quiet (fail)
    obtain ⟨wq, hwq⟩ : ∃ wq, wq = wr.drewN nq := ⟨_, rfl⟩
    have HBQ := hide (show Below base w wq by rw [hwq]; exact below_drewN HB.out nq)
    have HOQ := hide (show Ow wq base 3 .i64 (.slice (some ⟨g, 0, none⟩) n c) zs by rw [hwq]; exact HO.out)
    rw [← hwq]
    clear hwq
    have hj0 : (0 : Int) ≤ (j : Int) + 1 := by omega
    clear q1 cx cy e1 e2 HX HY HD HO HB hsz hgr
    go_wp2
    go_loopw [3, 5] (fun a b wr => ∃ kk k2 : Nat, a = .int .i64 (kk : Int) ∧ b = .int .i64 (k2 : Int) ∧ 1 ≤ k2 ∧ k2 ≤ n - (j + 1) ∧ kk + 1 ≤ n ∧ Hid (CmpW w base g n c zs (j + 1) kk k2 wr)) (fun _ b _ => n - (intOf b).toNat)
    case atStart => exact ⟨j + 1, 1, by go_num, rfl, by omega, by omega, by omega, hide ⟨zs, _, HST.out, HOQ.out, HBQ.out⟩⟩
    case round =>
      obtain ⟨kk, k2, rfl, rfl, hk21, hk2, hkn, hin⟩ := hrel
      obtain ⟨ys, D, hci, hoi, hbi⟩ := hin.out
      have HCI := hide hci
      have HOI := hide hoi
      have HBI := hide hbi
      have hly : ys.length = n := by have := hci.len; have := HN.out; omega
      have hlt2 := hci.lt
      have HLY := hide hly
      clear hin hci hoi hbi
      by_cases hlt3 : k2 < n - (j + 1)
      case neg =>
        have hke : j + 1 + k2 = n := by omega
        have HDE := hide (show DD zs n D by have h := HCI.out.dd; rwa [hke] at h)
        have HTK := hide HCI.out.tak
        have hkk1 : kk < n := by omega
        have hkk2 : (kk : Int) < (n : Int) := by omega
        have hkk3 : (0 : Int) ≤ (kk : Int) := by omega
        have hkk4 : kk ≤ c := by omega
        have hkk5 : (kk : Int) ≤ (n : Int) := by omega
        have hkk6 : (kk : Int) ≤ (c : Int) := by omega
        have hkk7 : kk ≤ n := by omega
        have hkk8 : kk < c := by omega
        obtain ⟨w6, hr6, ho6, hb6⟩ := run_clear_tail wr 27 0 3 Try.underlying27 Try.zeroValue3 base g kk n c (n - kk) (c - kk) (by omega) (by omega) ys HLY.out HOI.out
        have HO6 := hide ho6
        have HB6 := hide hb6
        clear ho6 hb6
        go_wp2
        go_ret
        exact ⟨_, D, rfl, by rw [← HTK.out]; exact HO6.out, HDE.out, HBI.out.trans HB6.out⟩
      obtain ⟨i, rfl⟩ : ∃ i, k2 = i + 1 := ⟨k2 - 1, by omega⟩
      obtain ⟨x, hx⟩ : ∃ x, zs[j + 1 + i]? = some x := ⟨_, List.getElem?_eq_getElem (by have := HN.out; omega)⟩
      obtain ⟨z, hz⟩ : ∃ z, zs[j + 1 + (i + 1)]? = some z := ⟨_, List.getElem?_eq_getElem (by have := HN.out; omega)⟩
      obtain ⟨u, hu⟩ : ∃ u, ys[kk]? = some u := ⟨_, List.getElem?_eq_getElem (by omega)⟩
      have HX := hide hx
      have HZ := hide hz
      have HU := hide hu
      have HCELL := hide (fun (W : World) (h : Ow W base 3 .i64 (.slice (some ⟨g, 0, none⟩) n c) ys) => (show g < W.heap.size ∧ W.cell? ⟨g, j + 1 + i, none⟩ = some (.int .i64 x) ∧ W.cell? ⟨g, j + 1 + (i + 1), none⟩ = some (.int .i64 z) ∧ W.cell? ⟨g, kk, none⟩ = some (.int .i64 u) ∧ W.frozen? ⟨g, kk, none⟩ = false by
        obtain ⟨g', hg', -, hgr, hc1, hf1⟩ := h.blk (by have := HLY.out; omega)
        injection hg' with hg'
        injection hg' with hg'
        subst hg'
        exact ⟨hgr, hc1 _ x (by rw [HCI.out.same _ (by omega)]; exact HX.out), hc1 _ z (by rw [HCI.out.same _ (by omega)]; exact HZ.out), hc1 _ u HU.out, hf1 _⟩))
      obtain ⟨hgr, cx, cz, -, -⟩ := HCELL.out wr HOI.out
      have e1 : IntKind.i64.wrap (((i + 1 : Nat) : Int) - 1) = (i : Int) := by
        rw [show ((i + 1 : Nat) : Int) - 1 = (i : Int) by omega]
        exact IntWalk.i64_in _ ⟨by omega, by omega⟩
      have e2 : IntKind.i64.wrap ((i : Int) + 1 - 1) = (i : Int) := by
        rw [show (i : Int) + 1 - 1 = (i : Int) by omega]
        exact IntWalk.i64_in _ ⟨by omega, by omega⟩
      have i1 : (0 : Int) ≤ (i : Int) := by omega
      have i2 : i < n - (j + 1) := by omega
      have i3 : i + 1 < n - (j + 1) := hlt3
      have i4 : (i : Int) < ((n - (j + 1) : Nat) : Int) := by omega
      have i5 : ((i + 1 : Nat) : Int) < ((n - (j + 1) : Nat) : Int) := by omega
      have i6 : (0 : Int) ≤ ((i + 1 : Nat) : Int) := by omega
      clear hx hz hu
      by_cases he : z = x
      · subst he
        have q1 : (z == z) = true := by simp
        have HNX := hide (show CmpI zs (j + 1) kk (i + 1 + 1) ys D from HCI.out.keep HX.out HZ.out)
        go_upto_region 11 with (fail)
        go_quiet (fail)
        go_wp2
        go_roundw
        case rel => exact ⟨kk, i + 1 + 1, rfl, by go_num, by omega, by omega, by omega, hide ⟨ys, D, HNX.out, HOI.out, below_drewN HBI.out _⟩⟩
        case measure => simp [intOf]; omega
      · have q1 : (z == x) = false := by simpa using he
        have HNX := hide (show CmpI zs (j + 1) (kk + 1) (i + 1 + 1) (ys.set kk z) (D ++ [z]) from HCI.out.put HS.out HX.out HZ.out he)
        go_upto_region 11 with (fail)
        go_quiet (fail)
        obtain ⟨wp, hwp⟩ : ∃ wp, wp = wr.drewN nq := ⟨_, rfl⟩
        have HBP := hide (show Below base w wp by rw [hwp]; exact below_drewN HBI.out nq)
        have HOP := hide (show Ow wp base 3 .i64 (.slice (some ⟨g, 0, none⟩) n c) ys by rw [hwp]; exact HOI.out)
        rw [← hwp]
        clear hwp cx cz hgr
        obtain ⟨hgr, cx, cz, cu, fu⟩ := HCELL.out wp HOP.out
        have HNW := hide (show CmpW w base g n c zs (j + 1) (kk + 1) (i + 1 + 1) (wp.setCell ⟨g, kk, none⟩ (.int .i64 z)) from ⟨_, _, HNX.out, HOP.out.putAt HLY.out kk z, HBP.out.trans (Below.setCell (Below.refl _ _) (p := ⟨g, kk, none⟩) (by show base ≤ g; exact HBG.out) _)⟩)
        have k1 : (0 : Int) ≤ (kk : Int) := by omega
        have k2' : (kk : Int) < (n : Int) := by omega
        have k3 : kk < n := by omega
        clear he
        go_wp2
        go_roundw
        case rel => exact ⟨kk + 1, i + 1 + 1, by go_num, by go_num, by omega, by omega, by have := HNX.out.lt; have := HN.out; omega, HNW⟩
        case measure => simp [intOf]; omega
end Go.Proofs.Ytlolgahaphmfoaa
