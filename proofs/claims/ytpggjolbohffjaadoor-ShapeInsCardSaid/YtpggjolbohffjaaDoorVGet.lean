/- The contracts of varint.Get, GetSigned, place, number. No condition. -/
import Derived.Test.YtpggjolbohffjaaDoorRead
import Derived.Laws.DeepNot64
import Derived.Laws.BitsAllLaws
set_option linter.unusedSimpArgs false
set_option linter.unusedVariables false
namespace Go.Proofs.YtpggjolbohffjaaDoor
open Go.RowKit
set_option maxRecDepth 100000 in
theorem get_any (A : Option Addr) (n c : Nat) (zs : List Int) (w : World) (B : Nat) (hr : Sl w B .u8 A zs) (hn : zs.length = n) (hc : n ≤ c) (hmax : n ≤ 9223372036854775807) (hby : ∀ z ∈ zs, 0 ≤ z ∧ z ≤ 255) :
    Calls Tryd.prog 98 #[.slice A n c] w fun e w' =>
      e = .returned (.tuple #[.int .i64 (rd 9 0 0 zs).1, .int .i64 (rd 9 0 0 zs).2.1, .int .i64 (rd 9 0 0 zs).2.2]) ∧ w = w' := by
  have hlt := rd_lt63 zs hby
  have H := hide (read_any A n c 9 zs w B hr hn hc hmax (by omega) hby)
  clear hn hr hby
  generalize rd 9 0 0 zs = r at H hlt
  obtain ⟨r1, r2, r3⟩ := r
  simp only at H hlt
  go_enter Tryd.func98, Tryd.ntmps98
  go_wp2_with (go_at_call 107; refine H.out.mono ?_; rintro e w' ⟨rfl, rfl⟩)
  go_ret3
  exact ⟨rfl, rfl⟩
theorem not64 (x : Nat) (hx : x < 18446744073709551616) : bits .xor .u64 IntKind.u64.max (x : Int) = ((18446744073709551615 - x : Nat) : Int) := by
  have e : IntKind.u64.max = ((18446744073709551615 : Nat) : Int) := rfl
  rw [e, u64_xor_nat _ _ (by omega) hx]
  congr 1
  apply Nat.eq_of_testBit_eq
  intro i
  have h1 : (18446744073709551615 : Nat) = 2 ^ 64 - 1 := by decide
  have h2 : 18446744073709551615 - x = 2 ^ 64 - (x + 1) := by omega
  rw [h2, h1, Nat.testBit_xor, Nat.testBit_two_pow_sub_one, Nat.testBit_two_pow_sub_succ (by omega)]
  by_cases hi : i < 64
  · simp [hi]
  · have : x.testBit i = false := Nat.testBit_lt_two_pow (Nat.lt_of_lt_of_le (show x < 2 ^ 64 by omega) (Nat.pow_le_pow_right (by omega) (by omega)))
    simp [hi, this]
set_option maxRecDepth 100000 in
theorem number_any (u : Nat) (w : World) (hu : u < 18446744073709551616) :
    Calls Tryd.prog 115 #[.int .u64 u] w fun e w' => e = .returned (.int .i64 (unz u)) ∧ w = w' := by
  by_cases h : u % 2 = 1
  · have hv : unz u = bits .xor .i64 (-1) ((u : Int) / 2) := by
      unfold unz; rw [if_pos h]
      have e : (u : Int) / 2 = ((u / 2 : Nat) : Int) := by omega
      rw [e, i64_not _ (by omega)]; omega
    have HV := hide hv
    have h2 : ((u : Int) % 2 == 1) = true := by simp; omega
    clear hv h
    go_enter Tryd.func115, Tryd.ntmps115
    go_wp2
    go_ret
    exact ⟨ret_int HV.out.symm, rfl⟩
  · have hv : unz u = (u : Int) / 2 := by
      unfold unz; rw [if_neg h]; omega
    have HV := hide hv
    have h2 : ((u : Int) % 2 == 1) = false := by simp; omega
    clear hv h
    go_enter Tryd.func115, Tryd.ntmps115
    go_wp2
    go_ret
    exact ⟨ret_int HV.out.symm, rfl⟩
set_option maxRecDepth 100000 in
theorem place_any (n : Int) (w : World) (hn : -9223372036854775808 ≤ n ∧ n ≤ 9223372036854775807) :
    Calls Tryd.prog 118 #[.int .i64 n] w fun e w' => e = .returned (.int .u64 (zz n : Nat)) ∧ w = w' := by
  by_cases h : n < 0
  · have hw : IntKind.u64.wrap n = n + 18446744073709551616 := by rw [IntKind.wrap_u64]; omega
    have hw2 : IntKind.u64.wrap ((n + 18446744073709551616) * 2) = ((n * 2 + 18446744073709551616).toNat : Int) := by rw [IntKind.wrap_u64]; omega
    have hv : bits .xor .u64 IntKind.u64.max (IntKind.u64.wrap (IntKind.u64.wrap n * 2)) = (zz n : Nat) := by
      rw [hw, hw2, not64 _ (by omega)]
      unfold zz; rw [if_pos h]; omega
    have HV := hide hv
    clear hv hw hw2
    go_enter Tryd.func118, Tryd.ntmps118
    go_wp2
    go_ret
    exact ⟨ret_int HV.out, rfl⟩
  · have hv : n * 2 = (zz n : Nat) := by
      unfold zz; rw [if_neg h]; omega
    have HV := hide hv
    clear hv
    go_enter Tryd.func118, Tryd.ntmps118
    go_wp2
    go_ret
    exact ⟨ret_int HV.out, rfl⟩
set_option maxRecDepth 100000 in
theorem gets_any (A : Option Addr) (n c : Nat) (zs : List Int) (w : World) (B : Nat) (hr : Sl w B .u8 A zs) (hn : zs.length = n) (hc : n ≤ c) (hmax : n ≤ 9223372036854775807) (hby : ∀ z ∈ zs, 0 ≤ z ∧ z ≤ 255) :
    Calls Tryd.prog 108 #[.slice A n c] w fun e w' =>
      e = .returned (.tuple #[.int .i64 (unz (rd 10 0 0 zs).1), .int .i64 (rd 10 0 0 zs).2.1, .int .i64 (rd 10 0 0 zs).2.2]) ∧ w = w' := by
  have hlt := rd_lt 10 (by omega) zs 0 0 hby (fun _ => by simp)
  have H := hide (read_any A n c 10 zs w B hr hn hc hmax (by omega) hby)
  clear hn hr hby
  generalize rd 10 0 0 zs = r at H hlt
  obtain ⟨r1, r2, r3⟩ := r
  simp only at H hlt
  go_enter Tryd.func108, Tryd.ntmps108
  go_wp2_with (first | (go_at_call 107; refine H.out.mono ?_; rintro e w' ⟨rfl, rfl⟩) | (go_at_call 115; refine (number_any _ _ hlt).mono ?_; rintro e w' ⟨rfl, rfl⟩))
  go_ret3
  exact ⟨rfl, rfl⟩
end Go.Proofs.YtpggjolbohffjaaDoor
