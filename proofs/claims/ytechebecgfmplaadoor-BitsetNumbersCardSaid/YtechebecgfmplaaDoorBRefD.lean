/- The contracts of the reference's Has, List, small, put, With, Of. No condition. -/
import Derived.Test.YtechebecgfmplaaDoorBList
namespace Go.Proofs.YtechebecgfmplaaDoor
open Go.RowKit

theorem bit_spell (x k : Nat) : (((x : Int) / 2 ^ k % 2) == 1) = x.testBit k := by
  rw [Nat.testBit_eq_decide_div_mod_eq, Bool.eq_iff_iff, beq_iff_eq, decide_eq_true_eq]
  have e : (x : Int) / 2 ^ k % 2 = ((x / 2 ^ k % 2 : Nat) : Int) := by simp
  rw [e]; omega

theorem and_one_spell (x k : Nat) (hx : x < 18446744073709551616) : bits .and .u64 ((x : Int) / 2 ^ k) 1 = (x : Int) / 2 ^ k % 2 := by
  have e : (x : Int) / 2 ^ k = ((x / 2 ^ k : Nat) : Int) := by simp
  have hle : x / 2 ^ k ≤ x := Nat.div_le_self _ _
  rw [e, show (1 : Int) = ((1 : Nat) : Int) by rfl, u64_and_nat _ 1 (by omega) (by omega), Nat.and_one_is_mod]
  omega

set_option maxRecDepth 100000 in
theorem rhas_any (A : Option Addr) (n c : Nat) (ws : List Nat) (m : Int) (w : World) (B : Nat) (hr : Sl w B .u64 A (nI ws)) (hn : ws.length = n) (hmax : n ≤ 1099511627776) (hw : W64 ws) (hm : -9223372036854775808 ≤ m ∧ m ≤ 9223372036854775807) :
    Calls Tryd.prog 8 #[.slice A n c, .int .i64 m] w fun e w' => e = .returned (.bool (hasB ws m)) ∧ w = w' := by
  by_cases h : m < 0 ∨ (n : Int) ≤ m / 64
  · have hf := hide (hasB_out (ws := ws) (n := m) (by rw [hn]; exact h))
    clear hr hn hw
    by_cases h0 : m < 0
    · clear h
      go_enter Tryd.func8, Tryd.ntmps8
      go_wp2
      go_ret
      exact ⟨ret_bool hf.out.symm, rfl⟩
    · have h1 : decide (m / 64 < (n : Int)) = false := by simp; omega
      clear h
      go_enter Tryd.func8, Tryd.ntmps8
      go_wp2
      go_ret
      exact ⟨ret_bool hf.out.symm, rfl⟩
  · obtain ⟨k, rfl⟩ : ∃ k : Nat, m = k := ⟨m.toNat, by omega⟩
    have hk : k / 64 < n := by omega
    obtain ⟨b, o, rfl, -, hcell⟩ := hr (by rw [nI_len]; omega)
    have g1 : w.cell? ⟨b, o + k / 64, none⟩ = some (.int .u64 ((ws.getD (k / 64) 0 : Nat) : Int)) := by rw [hcell (k / 64) (by rw [nI_len]; omega), nI_getD]
    have ht := hide (bit_spell (ws.getD (k / 64) 0) (k % 64))
    have hb := hide (hasB_nat ws k)
    have h1 : decide ((k : Int) / 64 < (n : Int)) = true := by simp; omega
    have hand := hide (and_one_spell (ws.getD (k / 64) 0) (k % 64) (hw.getD _))
    clear hr hn hw hcell h
    generalize ws.getD (k / 64) 0 = x at *
    go_enter Tryd.func8, Tryd.ntmps8
    go_wp2
    go_ret
    exact ⟨ret_bool (by rw [hb.out, ← ht.out, hand.out]), rfl⟩

set_option maxRecDepth 100000 in
theorem rlist_any (A : Option Addr) (n c : Nat) (ws : List Nat) (w : World) (hr : Sl w w.heap.size .u64 A (nI ws)) (hn : ws.length = n) (hmax : n ≤ 1000000000) (hw : W64 ws) :
    Calls Tryd.prog 9 #[.slice A n c] w fun e w' => ∃ v, e = .returned v ∧ Ow w' w.heap.size 3 .i64 v (listL ws) ∧ Below w.heap.size w w' := by
  obtain ⟨i0, hi0, hz0, hz1, hz2⟩ := info_parts info_int
  have HI := hide hi0
  have HN := hide hn
  have HR := hide hr
  have HW := hide hw
  have HL := hide (show listL ws = listN ws (64 * n) by rw [listL, hn])
  clear hn hr hw hi0
  go_enter Tryd.func9, Tryd.ntmps9
  go_wp2
  go_loopw [3, 4] (fun v i wr => ∃ k : Nat, k ≤ 64 * n ∧ i = .int .i64 (k : Int) ∧ Ow wr w.heap.size 3 .i64 v (listN ws k) ∧ Below w.heap.size w wr) (fun _ i _ => 64 * n - (intOf i).toNat)
  case atStart => exact ⟨0, Nat.zero_le _, rfl, Ow.nil _ _ _ _, Below.refl _ _⟩
  case round =>
    obtain ⟨k, hk, rfl, ho, hb⟩ := hrel
    have HO := hide ho
    clear ho
    by_cases hlt : k < 64 * n
    · have hll := listN_len ws k
      have hlen : (listN ws k).length ≤ 1000000000000 := by omega
      have hlt2 : (k : Int) < 64 * (n : Int) := by omega
      by_cases hh : hasB ws (k : Int) = true
      · have hsn := hide (show listN ws k ++ [(k : Int)] = listN ws (k + 1) by rw [listN, if_pos hh])
        have HH := hide hh
        clear hh
        go_wp2_with (first
          | (go_at_call 8; refine (rhas_any A n c ws (k : Int) wr _ (HR.out.below hb) HN.out (by omega) HW.out (by omega)).mono ?_; rw [HH.out]; rintro e w' ⟨rfl, rfl⟩)
          | (at_builtin; refine wpList_append_one _ rfl (.tmp 15) (.tmp 17) _ rfl w.heap.size 3 .i64 i0 _ 8 Tryd.underlying23 HI.out hz0 hz1 hz2 rfl (by omega) _ (listN ws k) rfl HO.out _ rfl (by omega) hb.size ?_; rw [hsn.out]; intro v3 w3 ho3 hb3))
        go_roundw
        case rel => exact ⟨k + 1, by omega, by go_num, ho3, hb.trans hb3⟩
        case measure => simp [intOf]; omega
      · have hh' : hasB ws (k : Int) = false := by simpa using hh
        have hsn := hide (show listN ws k = listN ws (k + 1) by rw [listN, if_neg hh, List.append_nil])
        have HH := hide hh'
        clear hh hh'
        go_wp2_with (go_at_call 8; refine (rhas_any A n c ws (k : Int) wr _ (HR.out.below hb) HN.out (by omega) HW.out (by omega)).mono ?_; rw [HH.out]; rintro e w' ⟨rfl, rfl⟩)
        go_roundw
        case rel => exact ⟨k + 1, by omega, by go_num, by rw [← hsn.out]; exact HO.out, hb⟩
        case measure => simp [intOf]; omega
    · have hkn := hide (show listN ws k = listL ws by rw [HL.out, show k = 64 * n by omega])
      have hlt2 : ¬ (k : Int) < 64 * (n : Int) := by omega
      go_wp2
      go_ret
      exact ⟨_, rfl, by rw [← hkn.out]; exact HO.out, hb⟩

theorem small_yes (z : Int) (w : World) (h : 0 ≤ z ∧ z < 4096) : Calls Tryd.prog 26 #[.int .i64 z] w fun e w' => e = .returned (.bool true) ∧ w = w' := by
  obtain ⟨h1, h2⟩ := h
  go_enter Tryd.func26, Tryd.ntmps26
  go_wp2
  go_ret
  exact ⟨by first | rfl | exact ret_bool (by simp [h1, h2]), rfl⟩
theorem small_no (z : Int) (w : World) (h : ¬ (0 ≤ z ∧ z < 4096)) (hz : -9223372036854775808 ≤ z ∧ z ≤ 9223372036854775807) : Calls Tryd.prog 26 #[.int .i64 z] w fun e w' => e = .returned (.bool false) ∧ w = w' := by
  by_cases h0 : z < 0
  · clear h
    go_enter Tryd.func26, Tryd.ntmps26
    go_wp2
    go_ret
    exact ⟨rfl, rfl⟩
  · have h1 : 4096 ≤ z := by omega
    clear h
    go_enter Tryd.func26, Tryd.ntmps26
    go_wp2
    go_ret
    exact ⟨ret_bool (by simp; omega), rfl⟩

set_option maxRecDepth 100000 in
set_option maxHeartbeats 1000000 in
theorem rput_any (A : Option Addr) (n c : Nat) (s : List Nat) (m : Nat) (w : World) (hr : Sl w w.heap.size .u64 A (nI s)) (hn : s.length = n) (hmax : n ≤ 1000000000) (hw : W64 s) (hm : m < 4096) :
    Calls Tryd.prog 27 #[.slice A n c, .int .i64 (m : Int)] w (Made w (putW s m)) := by
  obtain ⟨i0, hi0, hz0, hz1, hz2⟩ := info_parts info_u64
  have HI := hide hi0
  have HN := hide hn
  have HR := hide hr
  have HW := hide hw
  have ho0 : Ow (w.alloc (.cells #[] 34)) w.heap.size 34 .u64 (.slice (some ⟨w.heap.size, 0, none⟩) 0 0) [] := World.ownsRow_lit w #[] 0 (Nat.le_refl _) (by simp [maxLen]) (by simp)
  have HO := hide ho0
  have hlen0 := hide (show s.length ≤ 1000000000 by omega)
  clear hn hr hi0 hw ho0
  go_enter Tryd.func27, Tryd.ntmps27
  go_wp2_with (at_builtin; refine wpList_append_sl _ rfl (.tmp 6) (.tmp 7) _ rfl w.heap.size 34 .u64 i0 _ 8 Tryd.underlying22 HI.out hz0 hz1 hz2 rfl (by omega) (.slice (some ⟨w.heap.size, 0, none⟩) 0 0) [] rfl HO.out _ A n c (nI s) rfl (by rw [nI_len]; exact HN.out) (HR.out.alloc (Nat.le_refl _) _) (by simp; omega) (by simp) ?_; rw [List.nil_append]; intro v1 w1 ho1 hb1)
  have hB1 := ((Below.refl w.heap.size w).alloc (Nat.le_refl _) (.cells #[] 34)).trans hb1
  have HO1 := hide ho1
  clear ho1
  go_loopw [5] (fun v2 wr => ∃ j : Nat, Hid (s.length + j ≤ max s.length (m / 64 + 1)) ∧ Ow wr w.heap.size 34 .u64 v2 (nI (padW s j)) ∧ Below w.heap.size w wr) (fun v2 _ => 2000000000 - lenOf v2)
  case atStart => exact ⟨0, hide (by omega), by rw [padW_zero]; exact HO1.out, hB1⟩
  case round =>
    obtain ⟨j, hj, ho2, hb2⟩ := hrel
    obtain ⟨A2, c2, rfl, hc2, hcm2, hs2⟩ := ho2.sl
    have HO2 := hide ho2
    have hlen := hide (show (nI (padW s j)).length = s.length + j by rw [nI_len, padW_len])
    have hlb : (nI (padW s j)).length ≤ 1000000064 := by have h1 := hlen.out; have h2 := hj.out; have h3 := hlen0.out; omega
    clear ho2
    by_cases hin : m / 64 < (nI (padW s j)).length
    · have hjx := hide (show j = m / 64 + 1 - s.length by have h1 := hlen.out; have h2 := hj.out; omega)
      have hset := hide (show (padW s j).set (m / 64) (s.getD (m / 64) 0 ||| 2 ^ (m % 64)) = putW s m by rw [putW, hjx.out])
      have hget := hide (show (nI (padW s j))[m / 64]? = some ((s.getD (m / 64) 0 : Nat) : Int) by
        rw [nI, List.getElem?_map, get_some (by rw [nI_len] at hin; exact hin), padW_getD]; rfl)
      have hxw := HW.out.getD (m / 64)
      have hor := hide (or_spell (s.getD (m / 64) 0) (m % 64) hxw (Nat.mod_lt _ (by omega)))
      obtain ⟨g, rfl, hg1, hg2, hcell2, hfrz⟩ := HO2.out.block (by omega)
      have q1 : wr.cell? ⟨g, m / 64, none⟩ = some (.int .u64 ((s.getD (m / 64) 0 : Nat) : Int)) := hcell2 _ _ hget.out
      have q2 : wr.frozen? ⟨g, m / 64, none⟩ = false := hfrz _
      have hlp : (nI (padW s j)).length = (putW s m).length := by have h1 := hlen.out; have h2 := hjx.out; rw [putW_len]; omega
      have hfin := hide (show ∀ u : Int, u = ((s.getD (m / 64) 0 ||| 2 ^ (m % 64) : Nat) : Int) → Made w (putW s m) (.returned (.slice (some ⟨g, 0, none⟩) (nI (padW s j)).length c2)) (wr.setCell ⟨g, m / 64, none⟩ (.int .u64 u)) from fun u hu => by
        have hst := HO2.out.stored (m / 64) u
        rw [hu, ← nI_set, hset.out, ← hu] at hst
        have h := hst.trimmed
        have hb3 := hb2.setCell (p := ⟨g, m / 64, none⟩) hg1 (.int .u64 u)
        exact ⟨some ⟨g, 0, none⟩, c2, by rw [hlp], by rw [← hlp]; exact h.2.1, h.2.2.1, h.2.2.2.1, hb3⟩)
      have i1 : (0 : Int) ≤ (m : Int) / 64 := by omega
      have i2 : (m : Int) / 64 < (((nI (padW s j)).length : Nat) : Int) := by omega
      have i3 : decide ((((nI (padW s j)).length : Nat) : Int) ≤ (m : Int) / 64) = false := by simp; omega
      clear hcell2 hfrz hget hset hin hjx hlen hs2 hlp
      generalize s.getD (m / 64) 0 = x at *
      generalize (nI (padW s j)).length = len at *
      go_wp2
      go_ret
      exact hfin.out _ (by first | exact hor.out | (rw [pow_word _ (Nat.mod_lt _ (by omega)), pow_cast]; exact hor.out))
    · have hj2 := hide (show s.length + (j + 1) ≤ max s.length (m / 64 + 1) by have h1 := hlen.out; omega)
      have hno : (((nI (padW s j)).length : Nat) : Int) ≤ (m : Int) / 64 := by omega
      have hpad := hide (show nI (padW s j) ++ [0] = nI (padW s (j + 1)) by rw [padW_succ, nI_append]; rfl)
      have hlenS := hide (show (nI (padW s (j + 1))).length = (nI (padW s j)).length + 1 by rw [nI_len, nI_len, padW_len, padW_len]; rfl)
      clear hs2
      go_wp2_with (at_builtin; refine wpList_append_one _ rfl (.tmp 14) (.tmp 15) _ rfl w.heap.size 34 .u64 i0 _ 8 Tryd.underlying22 HI.out hz0 hz1 hz2 rfl (by omega) _ (nI (padW s j)) rfl HO2.out 0 rfl (by omega) hb2.size ?_; rw [hpad.out]; intro v3 w3 ho3 hb3)
      obtain ⟨A3, c3, rfl, -, -, -⟩ := ho3.sl
      go_roundw
      case rel => exact ⟨j + 1, hj2, ho3, hb2.trans hb3⟩
      case measure => simp only [lenOf]; rw [hlenS.out]; omega
end Go.Proofs.YtechebecgfmplaaDoor
