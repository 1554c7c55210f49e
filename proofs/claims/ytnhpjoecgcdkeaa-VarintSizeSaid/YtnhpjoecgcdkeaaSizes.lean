/- The statement VarintSize, walked: it answers true. No condition (more than 200 numbers: at once). -/
import Derived.Test.YtnhpjoecgcdkeaaSplits
namespace Go.Proofs.Ytnhpjoecgcdkeaa
open Go.RowKit

/-- As few bytes as hold it, as the walk spells it. -/
theorem fit_lo {m L : Nat} (h : m < 128 ^ L) : (m : Int) / 2 ^ (7 * L) = 0 := by
  have e : (2 : Int) ^ (7 * L) = ((128 ^ L : Nat) : Int) := by rw [Int.pow_mul]; simp
  rw [e, ← Int.natCast_ediv, Nat.div_eq_of_lt h]; rfl
theorem fit_hi {m L : Nat} (hL : 1 < L) (h : 128 ^ (L - 1) ≤ m) : ((m : Int) / 2 ^ (7 * L - 7) == 0) = false := by
  have e0 : 7 * L - 7 = 7 * (L - 1) := by omega
  have e : (2 : Int) ^ (7 * (L - 1)) = ((128 ^ (L - 1) : Nat) : Int) := by rw [Int.pow_mul]; simp
  have hp : 0 < 128 ^ (L - 1) := Nat.pow_pos (by omega)
  have h1 : 1 ≤ m / 128 ^ (L - 1) := (Nat.le_div_iff_mul_le hp).2 (by omega)
  rw [e0, e, ← Int.natCast_ediv]
  simp only [beq_eq_false_iff_ne, ne_eq]
  omega

set_option maxRecDepth 100000 in
set_option maxHeartbeats 1600000 in
theorem sizes_law (A : Option Addr) (n c : Nat) (zs : List Int) (w : World) (hr : Sl w w.heap.size .i64 A zs) (hn : zs.length = n) (hmax : n ≤ 9223372036854775807) (hz : ∀ z ∈ zs, -9223372036854775808 ≤ z ∧ z ≤ 9223372036854775807) :
    Calls Try.prog 5 #[.slice A n c] w fun e w' => e = .returned (.bool true) ∧ Below w.heap.size w w' := by
  have HR := hide hr
  have HN := hide hn
  have HZ := hide hz
  clear hr hn hz
  by_cases h200 : 200 < n
  · go_enter Try.func5, Try.ntmps5
    go_wp2_with (go_at_call 7; refine (alive_any _).mono ?_; rintro e w1 ⟨rfl, hb1⟩)
    go_ret
    exact ⟨rfl, hb1⟩
  · go_enter Try.func5, Try.ntmps5
    go_wp2_with (go_at_call 7; refine (alive_any _).mono ?_; rintro e w1 ⟨rfl, hb1⟩)
    go_loop [3, 4] (fun s i => ∃ k : Nat, i = .int .i64 k ∧ k ≤ n ∧ s = .int .i64 ((encL (zs.take k)).length : Nat)) (fun _ i => n - (intOf i).toNat)
    case atStart => exact ⟨0, rfl, Nat.zero_le _, rfl⟩
    case round =>
      obtain ⟨k, rfl, hk, rfl⟩ := hrel
      have hlen : (encL (zs.take k)).length ≤ 9 * n := by
        have := encL_len (zs.take k) (fun z hz => (HZ.out z (List.mem_of_mem_take hz)).2)
        have := HN.out
        simp at *; omega
      by_cases hlt : k < n
      · obtain ⟨b, o, rfl, hbb, hc⟩ := HR.out (by have := HN.out; omega)
        have hlz : k < zs.length := by have := HN.out; omega
        obtain ⟨x, hx⟩ : ∃ x, zs[k]? = some x := ⟨_, List.getElem?_eq_getElem hlz⟩
        have hcx : w1.cell? ⟨b, o + k, none⟩ = some (.int .i64 x) := by rw [hb1.cell hbb, hc k hlz]; simp [List.getD, hx]
        have hxb := HZ.out x (List.mem_of_getElem? hx)
        have hsn := hide (congrArg List.length (encL_snoc hx))
        have hS := hide (fun W => size_any x W hxb)
        clear hc hlz hx
        by_cases h0 : x < 0
        · have hs0 := hide (show (encI x).length = 0 by unfold encI; rw [if_pos h0]; rfl)
          go_wp2_with (go_at_call 13; refine (hS.out _).mono ?_; rw [if_pos h0]; rintro e w' ⟨rfl, rfl⟩)
          go_round
          case rel => exact ⟨k + 1, by go_num, by omega, by rw [hsn.out, List.length_append, hs0.out]; rfl⟩
          case measure => simp [intOf]; omega
        · obtain ⟨m, rfl⟩ : ∃ m : Nat, x = m := ⟨x.toNat, by omega⟩
          have hl1 := enc_pos m
          have hl9 := enc_len9 (u := m) (by omega)
          have hfit := enc_fit m m (Nat.le_refl _)
          have hs0 : (encI (m : Int)).length = (enc m).length := by unfold encI; rw [if_neg h0]; simp
          have hS2 : ∀ W, Calls Try.prog 13 #[.int .i64 (m : Int)] W fun e w' => e = .returned (.int .i64 ((enc m).length : Nat)) ∧ W = w' := fun W => (hS.out W).mono fun e w' ⟨he, hw⟩ => ⟨by rw [he, if_neg h0]; simp, hw⟩
          clear hS h0
          generalize (enc m).length = L at hl1 hl9 hs0 hfit hS2
          have hS := hide hS2
          have HF := hide hfit
          have HS0 := hide hs0
          clear hS2 hfit hs0
          have fin : Value.int .i64 (((encL (zs.take k)).length : Int) + (L : Int)) = Value.int .i64 ((encL (zs.take (k + 1))).length : Nat) := by
            rw [hsn.out, List.length_append, HS0.out]; simp
          have HFin := hide fin
          clear fin
          by_cases hL8 : L < 9
          all_goals
            have hq0 := fun h : L < 9 => fit_lo HF.out.1
            by_cases hL1 : 1 < L
            all_goals
              have hq1 := fun h : 1 < L => fit_hi h (HF.out.2 h)
              first
                | (have hq0' := hq0 hL8; have hq1' := hq1 hL1; clear hq0 hq1)
                | (have hq0' := hq0 hL8; clear hq0 hq1)
                | (have hq1' := hq1 hL1; clear hq0 hq1)
                | clear hq0 hq1
              go_wp2_with (go_at_call 13; refine (hS.out _).mono ?_; rintro e w' ⟨rfl, rfl⟩)
              all_goals
                go_round
                case rel => exact ⟨k + 1, by go_num, by omega, HFin.out⟩
                case measure => simp [intOf]; omega
      · have hfull : zs.take k = zs := List.take_of_length_le (by have := HN.out; omega)
        rw [hfull]
        clear hfull
        go_wp2_with (go_at_call 17; refine (list_any A n c zs _ ((HR.out.below hb1).more hb1.size) HN.out (by omega) HZ.out).mono ?_; rintro e w2 ⟨v3, rfl, ho3, hb3⟩; obtain ⟨A3, c3, rfl, hc3, hcm3, hs3⟩ := ho3.sl; clear ho3 hs3 hcm3; have hb4 := hb1.trans (hb3.mono hb1.size))
        go_ret
        exact ⟨rfl, hb4⟩
end Go.Proofs.Ytnhpjoecgcdkeaa
