/- The contracts of the reference's With, Of, Without. No condition. -/
import Derived.Test.YtechebecgfmplaaDoorBRefD
import Derived.StillTailTactics
namespace Go.Proofs.YtechebecgfmplaaDoor
open Go.RowKit

set_option maxRecDepth 100000 in
set_option maxHeartbeats 1000000 in
theorem rwith_any (A T : Option Addr) (n c m d : Nat) (ws : List Nat) (l : List Int) (w : World) (hx : Sl w w.heap.size .u64 A (nI ws)) (hn : ws.length = n) (hc : n ≤ c) (hc2 : c ≤ 9223372036854775807) (hmax : n ≤ 1000000) (hw : W64 ws) (hr : Sl w w.heap.size .i64 T l) (hm : l.length = m) (hmax2 : m ≤ 1099511627776) (hl : ∀ z ∈ l, -9223372036854775808 ≤ z ∧ z ≤ 9223372036854775807) :
    Calls Tryd.prog 14 #[.slice A n c, .slice T m d] w (Made w (neat (putsL ws l))) := by
  have HX := hide hx
  have HN := hide hn
  have HW := hide hw
  have HM := hide hm
  have HR := hide hr
  have HL := hide hl
  have hcw : ws.length ≤ c := by omega
  clear hn hr hl hx hm hw
  go_enter Tryd.func14, Tryd.ntmps14
  go_wp2
  go_loopw [5, 6] (fun v i wr => ∃ (k : Nat) (A1 : Option Addr) (c1 : Nat), k ≤ m ∧ i = .int .i64 (k : Int) ∧ v = .slice A1 (putsL ws (l.take k)).length c1 ∧ (putsL ws (l.take k)).length ≤ c1 ∧ c1 ≤ 9223372036854775807 ∧ Sl wr wr.heap.size .u64 A1 (nI (putsL ws (l.take k))) ∧ Below w.heap.size w wr) (fun _ i _ => m - (intOf i).toNat)
  case atStart => exact ⟨0, A, c, Nat.zero_le _, rfl, by rw [← HN.out]; rfl, hcw, hc2, HX.out, Below.refl _ _⟩
  case round =>
    obtain ⟨k, A1, c1, hk, rfl, rfl, h1, h2, hs, hb⟩ := hrel
    have HS := hide hs
    clear hs
    have hsl : (putsL ws (l.take k)).length ≤ 2000000 := by have := putsL_len ws (l.take k); have := HN.out; omega
    have hsw := hide (putsL_w64 HW.out (l.take k))
    by_cases hlt : k < m
    · have hkl : k < l.length := by have := HM.out; omega
      obtain ⟨b, o, rfl, hbB, hcell⟩ := HR.out (by omega)
      obtain ⟨z, hz⟩ : ∃ z, l[k]? = some z := ⟨_, List.getElem?_eq_getElem hkl⟩
      have g1 : wr.cell? ⟨b, o + k, none⟩ = some (.int .i64 z) := by rw [hb.cell hbB, hcell k hkl]; simp [List.getD, hz]
      have hzb := HL.out z (List.mem_of_getElem? hz)
      have hsn := hide (show putsL ws (l.take (k + 1)) = putI (putsL ws (l.take k)) z by rw [List.take_add_one, hz, Option.toList_some, putsL_snoc])
      clear hcell hkl hz
      generalize putsL ws (l.take k) = s at *
      by_cases hv : 0 ≤ z ∧ z < 4096
      · obtain ⟨q, rfl⟩ : ∃ q : Nat, z = q := ⟨z.toNat, by omega⟩
        have hq : q < 4096 := by omega
        have hput := hide (show putI s (q : Int) = putW s q by rw [putI, if_pos hv, Int.toNat_natCast])
        have HV := hide hv
        clear hv hzb
        go_wp2_with (first
          | (go_at_call 26; refine (small_yes (q : Int) _ HV.out).mono ?_; rintro e w' ⟨rfl, rfl⟩)
          | (go_at_call 27; refine (rput_any A1 _ c1 s q wr HS.out rfl (by omega) hsw.out hq).mono ?_; rintro e w2 ⟨A2, c2, rfl, h3, h4, hs2, hb2⟩))
        go_roundw
        case rel => exact ⟨k + 1, A2, c2, by omega, by go_num, by rw [hsn.out, hput.out], by rw [hsn.out, hput.out]; exact h3, h4, by rw [hsn.out, hput.out]; exact hs2, hb.trans (hb2.mono hb.size)⟩
        case measure => simp [intOf]; omega
      · have hput := hide (show putI s z = s by rw [putI, if_neg hv])
        have HV := hide hv
        clear hv
        go_wp2_with (go_at_call 26; refine (small_no z _ HV.out hzb).mono ?_; rintro e w' ⟨rfl, rfl⟩)
        go_roundw
        case rel => exact ⟨k + 1, A1, c1, by omega, by go_num, by rw [hsn.out, hput.out], by rw [hsn.out, hput.out]; exact h1, h2, by rw [hsn.out, hput.out]; exact HS.out, hb⟩
        case measure => simp [intOf]; omega
    · have hfull := hide (show neat (putsL ws (l.take k)) = neat (putsL ws l) by rw [List.take_of_length_le (by have := HM.out; omega)])
      go_wp2_with (go_at_call 28; refine (neat_any A1 _ c1 _ wr HS.out rfl h1 h2 (by omega)).mono ?_; rw [hfull.out]; rintro e w2 ⟨v2, rfl, ho2, hb2⟩)
      obtain ⟨A2, c2, rfl, h3, h4, hs2⟩ := ho2.sl
      go_ret
      exact ⟨A2, c2, ret_slice (nI_len _), by rw [nI_len] at h3; exact h3, by simp only [maxLen] at h4; omega, hs2, hb.trans (hb2.mono hb.size)⟩

theorem rof_any (T : Option Addr) (m d : Nat) (l : List Int) (w : World) (hr : Sl w w.heap.size .i64 T l) (hm : l.length = m) (hmax2 : m ≤ 1099511627776) (hl : ∀ z ∈ l, -9223372036854775808 ≤ z ∧ z ≤ 9223372036854775807) :
    Calls Tryd.prog 12 #[.slice T m d] w (Made w (ofL l)) := by
  have h := rwith_any none T 0 0 m d [] l w (Sl.nil _ _ _ _) rfl (Nat.le_refl _) (by omega) (by omega) W64.nil hr hm hmax2 hl
  rw [ofL_neat] at h
  have H := hide h
  clear hr hm hl h
  go_enter Tryd.func12, Tryd.ntmps12
  go_wp2_with (go_at_call 14; refine H.out.mono ?_; rintro e w1 ⟨A1, c1, rfl, h1, h2, hs, hb⟩)
  go_ret
  exact ⟨A1, c1, rfl, h1, h2, hs, hb⟩

theorem sub_bit {x k : Nat} (hx : x < 18446744073709551616) (hk : k < 64) (h : x.testBit k = true) : andN x (2 ^ k) = x - 2 ^ k := by
  have hp : 0 < 2 ^ k := Nat.two_pow_pos _
  rw [Nat.testBit_eq_decide_div_mod_eq, decide_eq_true_eq] at h
  have e1 : x = 2 ^ k * (x / 2 ^ k) + x % 2 ^ k := (Nat.div_add_mod x _).symm
  obtain ⟨m, hm⟩ : ∃ m, x / 2 ^ k = 2 * m + 1 := ⟨x / 2 ^ k / 2, by omega⟩
  have hr : x % 2 ^ k < 2 ^ k := Nat.mod_lt _ hp
  have e2 : x - 2 ^ k = 2 ^ k * (2 * m) + x % 2 ^ k := by
    rw [hm, Nat.mul_add, Nat.mul_one] at e1; omega
  have hxb : ∀ j, x.testBit j = if j < k then (x % 2 ^ k).testBit j else (2 * m + 1).testBit (j - k) := fun j => by
    conv => lhs; rw [e1, hm]
    exact Nat.testBit_two_pow_mul_add _ hr _
  apply Nat.eq_of_testBit_eq
  intro j
  rw [andN_bit hx (pow_lt hk), e2, Nat.testBit_two_pow_mul_add _ hr, hxb, Nat.testBit_two_pow]
  by_cases h1 : j < k
  · have : ¬ k = j := by omega
    simp [h1, this]
  · by_cases h2 : j = k
    · subst h2; simp
    · have h3 : ¬ k = j := fun e => h2 e.symm
      rw [if_neg h1, if_neg h1, show j - k = (j - k - 1) + 1 by omega, Nat.testBit_succ, Nat.testBit_succ, show (2 * m + 1) / 2 = 2 * m / 2 by omega]
      simp [h3]
theorem clear_bit {x k : Nat} (hx : x < 18446744073709551616) (hk : k < 64) (h : x.testBit k = false) : andN x (2 ^ k) = x := by
  apply Nat.eq_of_testBit_eq
  intro j
  rw [andN_bit hx (pow_lt hk), Nat.testBit_two_pow]
  by_cases h2 : k = j
  · subst h2; simp [h]
  · simp [h2]
theorem remI_yes {s : List Nat} {q : Nat} (hs : W64 s) (h : hasB s (q : Int) = true) : remI s (q : Int) = s.set (q / 64) (s.getD (q / 64) 0 - 2 ^ (q % 64)) ∧ q / 64 < s.length ∧ 2 ^ (q % 64) ≤ s.getD (q / 64) 0 := by
  have hb := h
  rw [hasB_nat] at hb
  have hq : q / 64 < s.length := by
    rcases Nat.lt_or_ge (q / 64) s.length with h1 | h1
    · exact h1
    · rw [getD_none h1] at hb; simp at hb
  refine ⟨?_, hq, Nat.ge_two_pow_of_testBit hb⟩
  rw [remI, if_pos (by omega), Int.toNat_natCast, sub_bit (hs.getD _) (Nat.mod_lt _ (by omega)) hb]
theorem remI_no {s : List Nat} {z : Int} (hs : W64 s) (h : hasB s z = false) : remI s z = s := by
  unfold remI
  split
  · rename_i hh
    have hb : (s.getD (z.toNat / 64) 0).testBit (z.toNat % 64) = false := by
      unfold hasB at h
      simpa [hh.1] using h
    rw [clear_bit (hs.getD _) (Nat.mod_lt _ (by omega)) hb]
    exact ext_getD (by simp) fun i hi => by
      rw [List.length_set] at hi
      rw [set_getD _ _ _ _ (by omega)]
      split
      · rename_i h2; rw [h2]
      · rfl
  · rfl
end Go.Proofs.YtechebecgfmplaaDoor
