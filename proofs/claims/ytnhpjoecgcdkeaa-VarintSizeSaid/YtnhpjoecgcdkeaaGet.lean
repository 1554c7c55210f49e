/- The contracts of varint.Get, GetSigned, place, number, Size, and of the statements' fixed fact. No condition. -/
import Derived.Test.YtnhpjoecgcdkeaaRead
import Derived.Laws.DeepNot64
import Derived.Laws.BitsAllLaws
namespace Go.Proofs.Ytnhpjoecgcdkeaa
open Go.RowKit

set_option maxRecDepth 100000 in
theorem get_any (A : Option Addr) (n c : Nat) (zs : List Int) (w : World) (B : Nat) (hr : Sl w B .u8 A zs) (hn : zs.length = n) (hc : n ≤ c) (hmax : n ≤ 9223372036854775807) (hby : ∀ z ∈ zs, 0 ≤ z ∧ z ≤ 255) :
    Calls Try.prog 16 #[.slice A n c] w fun e w' =>
      e = .returned (.tuple #[.int .i64 (rd 9 0 0 zs).1, .int .i64 (rd 9 0 0 zs).2.1, .int .i64 (rd 9 0 0 zs).2.2]) ∧ w = w' := by
  have hlt := rd_lt63 zs hby
  have H := hide (read_any A n c 9 zs w B hr hn hc hmax (by omega) hby)
  clear hn hr hby
  generalize rd 9 0 0 zs = r at H hlt
  obtain ⟨r1, r2, r3⟩ := r
  simp only at H hlt
  go_enter Try.func16, Try.ntmps16
  go_wp2_with (go_at_call 25; refine H.out.mono ?_; rintro e w' ⟨rfl, rfl⟩)
  go_ret3
  exact ⟨rfl, rfl⟩

theorem not64 (x : Nat) (hx : x < 18446744073709551616) : bits .xor .u64 IntKind.u64.max (x : Int) = ((18446744073709551615 - x : Nat) : Int) := by
  have e : IntKind.u64.max = ((18446744073709551615 : Nat) : Int) := rfl
  rw [e, u64_xor_nat _ _ (by omega) hx]
  congr 1
  apply Nat.eq_of_testBit_eq
  intro i
  have h1 : (18446744073709551615 : Nat) = 2 ^ 64 - 1 := by decide
  have h2 : 18446744073709551615 - x = 2 ^ 64 - (x + 1) := by omega
  rw [h2, h1, Nat.testBit_xor, Nat.testBit_two_pow_sub_one, Nat.testBit_two_pow_sub_succ (by omega)]
  by_cases hi : i < 64
  · simp [hi]
  · have : x.testBit i = false := Nat.testBit_lt_two_pow (Nat.lt_of_lt_of_le (show x < 2 ^ 64 by omega) (Nat.pow_le_pow_right (by omega) (by omega)))
    simp [hi, this]

set_option maxRecDepth 100000 in
theorem number_any (u : Nat) (w : World) (hu : u < 18446744073709551616) :
    Calls Try.prog 26 #[.int .u64 u] w fun e w' => e = .returned (.int .i64 (unz u)) ∧ w = w' := by
  by_cases h : u % 2 = 1
  · have hv : unz u = bits .xor .i64 (-1) ((u : Int) / 2) := by
      unfold unz; rw [if_pos h]
      have e : (u : Int) / 2 = ((u / 2 : Nat) : Int) := by omega
      rw [e, i64_not _ (by omega)]; omega
    have HV := hide hv
    have h2 : ((u : Int) % 2 == 1) = true := by simp; omega
    clear hv h
    go_enter Try.func26, Try.ntmps26
    go_wp2
    go_ret
    exact ⟨ret_int HV.out.symm, rfl⟩
  · have hv : unz u = (u : Int) / 2 := by
      unfold unz; rw [if_neg h]; omega
    have HV := hide hv
    have h2 : ((u : Int) % 2 == 1) = false := by simp; omega
    clear hv h
    go_enter Try.func26, Try.ntmps26
    go_wp2
    go_ret
    exact ⟨ret_int HV.out.symm, rfl⟩

set_option maxRecDepth 100000 in
theorem place_any (n : Int) (w : World) (hn : -9223372036854775808 ≤ n ∧ n ≤ 9223372036854775807) :
    Calls Try.prog 23 #[.int .i64 n] w fun e w' => e = .returned (.int .u64 (zz n : Nat)) ∧ w = w' := by
  by_cases h : n < 0
  · have hw : IntKind.u64.wrap n = n + 18446744073709551616 := by rw [IntKind.wrap_u64]; omega
    have hw2 : IntKind.u64.wrap ((n + 18446744073709551616) * 2) = ((n * 2 + 18446744073709551616).toNat : Int) := by rw [IntKind.wrap_u64]; omega
    have hv : bits .xor .u64 IntKind.u64.max (IntKind.u64.wrap (IntKind.u64.wrap n * 2)) = (zz n : Nat) := by
      rw [hw, hw2, not64 _ (by omega)]
      unfold zz; rw [if_pos h]; omega
    have HV := hide hv
    clear hv hw hw2
    go_enter Try.func23, Try.ntmps23
    go_wp2
    go_ret
    exact ⟨ret_int HV.out, rfl⟩
  · have hv : n * 2 = (zz n : Nat) := by
      unfold zz; rw [if_neg h]; omega
    have HV := hide hv
    clear hv
    go_enter Try.func23, Try.ntmps23
    go_wp2
    go_ret
    exact ⟨ret_int HV.out, rfl⟩

set_option maxRecDepth 100000 in
theorem gets_any (A : Option Addr) (n c : Nat) (zs : List Int) (w : World) (B : Nat) (hr : Sl w B .u8 A zs) (hn : zs.length = n) (hc : n ≤ c) (hmax : n ≤ 9223372036854775807) (hby : ∀ z ∈ zs, 0 ≤ z ∧ z ≤ 255) :
    Calls Try.prog 15 #[.slice A n c] w fun e w' =>
      e = .returned (.tuple #[.int .i64 (unz (rd 10 0 0 zs).1), .int .i64 (rd 10 0 0 zs).2.1, .int .i64 (rd 10 0 0 zs).2.2]) ∧ w = w' := by
  have hlt := rd_lt 10 (by omega) zs 0 0 hby (fun _ => by simp)
  have H := hide (read_any A n c 10 zs w B hr hn hc hmax (by omega) hby)
  clear hn hr hby
  generalize rd 10 0 0 zs = r at H hlt
  obtain ⟨r1, r2, r3⟩ := r
  simp only at H hlt
  go_enter Try.func15, Try.ntmps15
  go_wp2_with (first | (go_at_call 25; refine H.out.mono ?_; rintro e w' ⟨rfl, rfl⟩) | (go_at_call 26; refine (number_any _ _ hlt).mono ?_; rintro e w' ⟨rfl, rfl⟩))
  go_ret3
  exact ⟨rfl, rfl⟩

/-- How many bytes: the loop of Size. -/
theorem size_step {u : Nat} (h : 128 ≤ u) : (enc u).length = (enc (u / 128)).length + 1 := by
  rw [enc_hi (by omega)]; simp

set_option maxRecDepth 100000 in
theorem size_any (n : Int) (w : World) (hn : -9223372036854775808 ≤ n ∧ n ≤ 9223372036854775807) :
    Calls Try.prog 13 #[.int .i64 n] w fun e w' => e = .returned (.int .i64 ((if n < 0 then 0 else (enc n.toNat).length : Nat) : Int)) ∧ w = w' := by
  by_cases h : n < 0
  · rw [if_pos h]
    go_enter Try.func13, Try.ntmps13
    go_wp2
    go_ret
    exact ⟨rfl, rfl⟩
  · rw [if_neg h]
    obtain ⟨m, rfl⟩ : ∃ m : Nat, n = m := ⟨n.toNat, by omega⟩
    rw [Int.toNat_natCast]
    have hl := enc_len10 (u := m) (by omega)
    obtain ⟨L, hL⟩ : ∃ L, (enc m).length = L := ⟨_, rfl⟩
    rw [hL] at hl ⊢
    have HL := hide hL
    clear hL
    go_enter Try.func13, Try.ntmps13
    go_wp2
    go_loop [0, 3] (fun u s => ∃ k j : Nat, u = .int .i64 k ∧ s = .int .i64 j ∧ k ≤ m ∧ 1 ≤ j ∧ j ≤ 10 ∧ (enc m).length + 1 = (enc k).length + j) (fun u _ => (intOf u).toNat)
    case atStart => exact ⟨m, 1, rfl, rfl, Nat.le_refl _, by omega, by omega, rfl⟩
    case round =>
      obtain ⟨k, j, rfl, rfl, hk, hj1, hj, hs⟩ := hrel
      have HS := hide hs
      clear hs
      by_cases h128 : 128 ≤ k
      · have hst := hide (size_step h128)
        go_wp2
        go_round
        case rel =>
          have h1 := HS.out; have h2 := hst.out; have h3 := HL.out; have h4 := enc_pos (k / 128)
          exact ⟨k / 128, j + 1, by go_num, by go_num, by omega, by omega, by omega, by omega⟩
        case measure => simp [intOf]; omega
      · have hst := hide (enc_lo (u := k) (by omega))
        go_wp2
        go_ret
        have h1 := HS.out; have h2 := hst.out; have h3 := HL.out
        rw [h2] at h1
        simp at h1
        exact ⟨ret_int (by omega), rfl⟩

theorem rd_alive1 : rd 9 0 0 [172, 2, 9] = (300, 2, 0) := by simp [rd]
theorem rd_alive2 : rd 10 0 0 [1] = (1, 1, 0) := by simp [rd]
theorem rd_alive3 : rd 9 0 0 [128, 0] = (0, 0, 4) := by simp [rd]
theorem rd_alive4 : rd 9 0 0 [128] = (0, 0, 2) := by simp [rd]
theorem unz_alive : unz 1 = -1 := by decide

set_option maxRecDepth 100000 in
theorem alive_any (w : World) : Calls Try.prog 7 #[] w fun e w' => e = .returned (.bool true) ∧ Below w.heap.size w w' := by
  have c1 := fun (W : World) (g : Nat) (hg : W.heap.size = g) => get_any (some ⟨g, 0, none⟩) 3 3 [172, 2, 9] (W.alloc (.cells #[.int .u8 172, .int .u8 2, .int .u8 9] 5)) _ (hg ▸ Sl.lit W 5 .u8 _ _ rfl) rfl (by omega) (by omega) (by simp)
  have c2 := fun (W : World) (g : Nat) (hg : W.heap.size = g) => gets_any (some ⟨g, 0, none⟩) 1 1 [1] (W.alloc (.cells #[.int .u8 1] 5)) _ (hg ▸ Sl.lit W 5 .u8 _ _ rfl) rfl (by omega) (by omega) (by simp)
  have c3 := fun (W : World) (g : Nat) (hg : W.heap.size = g) => get_any (some ⟨g, 0, none⟩) 2 2 [128, 0] (W.alloc (.cells #[.int .u8 128, .int .u8 0] 5)) _ (hg ▸ Sl.lit W 5 .u8 _ _ rfl) rfl (by omega) (by omega) (by simp)
  have c4 := fun (W : World) (g : Nat) (hg : W.heap.size = g) => get_any (some ⟨g, 0, none⟩) 1 1 [128] (W.alloc (.cells #[.int .u8 128] 5)) _ (hg ▸ Sl.lit W 5 .u8 _ _ rfl) rfl (by omega) (by omega) (by simp)
  simp only [rd_alive1, rd_alive2, rd_alive3, rd_alive4, unz_alive] at c1 c2 c3 c4
  have C1 := hide c1; have C2 := hide c2; have C3 := hide c3; have C4 := hide c4
  clear c1 c2 c3 c4
  go_enter Try.func7, Try.ntmps7
  go_wp2_with (first | (go_at_call 16; (with_reducible refine (C1.out _ _ (by simp)).mono ?_); rintro e w' ⟨rfl, rfl⟩) | (go_at_call 15; (with_reducible refine (C2.out _ _ (by simp)).mono ?_); rintro e w' ⟨rfl, rfl⟩) | (go_at_call 16; (with_reducible refine (C3.out _ _ (by simp)).mono ?_); rintro e w' ⟨rfl, rfl⟩) | (go_at_call 16; (with_reducible refine (C4.out _ _ (by simp)).mono ?_); rintro e w' ⟨rfl, rfl⟩))
  go_ret
  exact ⟨rfl, ((((Below.refl _ _).alloc (by simp) _).alloc (by simp) _).alloc (by simp; omega) _).alloc (by simp; omega) _⟩
end Go.Proofs.Ytnhpjoecgcdkeaa
