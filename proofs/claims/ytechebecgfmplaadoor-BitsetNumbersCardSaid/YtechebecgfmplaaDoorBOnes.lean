/- The contract of math/bits.OnesCount64: how many bits are 1. No condition. -/
import Derived.Test.YtechebecgfmplaaDoorBBase
import Derived.Test.YtechebecgfmplaaDoorBPop
namespace Go.Proofs.YtechebecgfmplaaDoor
open Go.RowKit

theorem wrap_in {x : Nat} (h : x < 18446744073709551616) : IntKind.u64.wrap (x : Int) = (x : Int) := by rw [IntKind.wrap_u64]; omega
theorem ones1 {x : Nat} (hx : x < 18446744073709551616) : IntKind.u64.wrap (bits .and .u64 ((x : Int) / 2) 6148914691236517205 + bits .and .u64 (x : Int) 6148914691236517205) = ((g1 (mask 85 8) x : Nat) : Int) ∧ g1 (mask 85 8) x < 18446744073709551616 := by
  have e1 : (x : Int) / 2 = ((x / 2 : Nat) : Int) := by omega
  have h1 := u64_and_nat (x / 2) 6148914691236517205 (by omega) (by omega)
  have h2 := u64_and_nat x 6148914691236517205 hx (by omega)
  have b1 : x / 2 &&& 6148914691236517205 ≤ 6148914691236517205 := Nat.and_le_right
  have b2 : x &&& 6148914691236517205 ≤ 6148914691236517205 := Nat.and_le_right
  rw [mask85, g1]
  rw [show (6148914691236517205 : Int) = ((6148914691236517205 : Nat) : Int) by rfl, e1, h1, h2, ← Int.natCast_add, wrap_in (by omega)]
  exact ⟨rfl, by omega⟩
theorem ones2 {x : Nat} (hx : x < 18446744073709551616) : IntKind.u64.wrap (bits .and .u64 ((x : Int) / 4) 3689348814741910323 + bits .and .u64 (x : Int) 3689348814741910323) = ((g2 (mask 51 8) x : Nat) : Int) ∧ g2 (mask 51 8) x < 8446744073709551616 := by
  have e1 : (x : Int) / 4 = ((x / 4 : Nat) : Int) := by omega
  have h1 := u64_and_nat (x / 4) 3689348814741910323 (by omega) (by omega)
  have h2 := u64_and_nat x 3689348814741910323 hx (by omega)
  have b1 : x / 4 &&& 3689348814741910323 ≤ 3689348814741910323 := Nat.and_le_right
  have b2 : x &&& 3689348814741910323 ≤ 3689348814741910323 := Nat.and_le_right
  rw [mask51, g2]
  rw [show (3689348814741910323 : Int) = ((3689348814741910323 : Nat) : Int) by rfl, e1, h1, h2, ← Int.natCast_add, wrap_in (by omega)]
  exact ⟨rfl, by omega⟩
theorem ones3 {x : Nat} (hx : x < 8446744073709551616) : bits .and .u64 (IntKind.u64.wrap ((x : Int) / 16 + (x : Int))) 1085102592571150095 = ((g3 (mask 15 8) x : Nat) : Int) := by
  have e1 : (x : Int) / 16 + (x : Int) = ((x / 16 + x : Nat) : Int) := by omega
  have h1 := u64_and_nat (x / 16 + x) 1085102592571150095 (by omega) (by omega)
  rw [mask15, g3]
  rw [show (1085102592571150095 : Int) = ((1085102592571150095 : Nat) : Int) by rfl, e1, wrap_in (by omega), h1]
theorem ones456 {x : Nat} (hx : x ≤ 578721382704613384) : bits .and .i64 (wrap64 (IntKind.u64.wrap (IntKind.u64.wrap (IntKind.u64.wrap ((x : Int) + (x : Int) / 256) + IntKind.u64.wrap ((x : Int) + (x : Int) / 256) / 65536) + IntKind.u64.wrap (IntKind.u64.wrap ((x : Int) + (x : Int) / 256) + IntKind.u64.wrap ((x : Int) + (x : Int) / 256) / 65536) / 4294967296))) 127 =
    (((x + x / 256 + (x + x / 256) / 65536 + (x + x / 256 + (x + x / 256) / 65536) / 4294967296) % 128 : Nat) : Int) := by
  have e1 : (x : Int) + (x : Int) / 256 = ((x + x / 256 : Nat) : Int) := by omega
  rw [e1, wrap_in (by omega)]
  have b1 : x + x / 256 ≤ 600000000000000000 := by omega
  generalize x + x / 256 = y at *
  have e2 : (y : Int) + (y : Int) / 65536 = ((y + y / 65536 : Nat) : Int) := by omega
  rw [e2, wrap_in (by omega)]
  have b2 : y + y / 65536 ≤ 700000000000000000 := by omega
  generalize y + y / 65536 = z at *
  have e3 : (z : Int) + (z : Int) / 4294967296 = ((z + z / 4294967296 : Nat) : Int) := by omega
  rw [e3, wrap_in (by omega)]
  have b3 : z + z / 4294967296 ≤ 800000000000000000 := by omega
  generalize z + z / 4294967296 = u at *
  have e4 : wrap64 (u : Int) = (u : Int) := IntWalk.wrap64_in _ ⟨by omega, by omega⟩
  rw [e4]
  have h : bits .and .i64 (u : Int) ((127 : Nat) : Int) = ((u &&& 127 : Nat) : Int) := by
    show IntKind.i64.wrap ((BitVec.ofInt 64 (u : Int) &&& BitVec.ofInt 64 ((127 : Nat) : Int)).toNat : Int) = _
    rw [BitVec.toNat_and, ofInt_u64 u (by omega), ofInt_u64 127 (by omega), IntWalk.i64_in _ ⟨by omega, by have : u &&& 127 ≤ 127 := Nat.and_le_right; omega⟩]
  have h2 : u &&& 127 = u % 128 := Nat.and_two_pow_sub_one_eq_mod u 7
  rw [show (127 : Int) = ((127 : Nat) : Int) by rfl, h, h2]

set_option maxRecDepth 100000 in
theorem ones_any (x : Nat) (w : World) (hx : x < 18446744073709551616) :
    Calls Tryd.prog 32 #[.int .u64 (x : Int)] w fun e w' => e = .returned (.int .i64 ((pop x : Nat) : Int)) ∧ w = w' := by
  have h1 := hide (ones1 hx)
  have h2 := hide (ones2 (ones1 hx).2)
  have h3 := hide (ones3 (ones2 (ones1 hx).2).2)
  have h4 := hide (swar 8 x (by omega)).1
  have h5 := hide (sum8 hx)
  go_enter Tryd.func32, Tryd.ntmps32
  go_wp2
  go_ret
  exact ⟨ret_int (by rw [h1.out.1, h2.out.1, h3.out, h4.out, ones456 h5.out.2, h5.out.1]), rfl⟩
end Go.Proofs.YtechebecgfmplaaDoor
