/- The reference's reader of numbers: it answers what 'rd' says. Condition: the slice's bytes are bytes. -/
import Derived.Test.YtjlndibeaklcdaaMV
set_option linter.unusedSimpArgs false
set_option linter.unusedVariables false
namespace Go.Proofs.Ytjlndibeaklcdaa
open Go.RowKit

def RrRel (most n : Nat) (zs : List Int) (u i : Value) : Prop :=
  ∃ X k : Nat, k ≤ n ∧ k ≤ most ∧ u = .int .u64 (X : Int) ∧ i = .int .i64 (k : Int) ∧ Hid ((k ≤ 9 → X < 128 ^ k) ∧ X < 18446744073709551616 ∧ rd most 0 0 zs = rd most X k (zs.drop k))
theorem u64_lt {m : Nat} (h : m < 18446744073709551616) : IntKind.u64.wrap (m : Int) = m := by
  simp [IntKind.wrap, IntKind.bits, IntKind.signed]
  omega
theorem rr_sum {X r k : Nat} (hX : k ≤ 9 → X < 128 ^ k) (hk : k ≤ 9) (hr : r < 128) (h9 : k = 9 → r ≤ 1) : IntKind.u64.wrap ((X : Int) + IntKind.u64.wrap ((r : Int) * 2 ^ (7 * k))) = ((X + r * 128 ^ k : Nat) : Int) ∧ X + r * 128 ^ k < 18446744073709551616 ∧ (k + 1 ≤ 9 → X + r * 128 ^ k < 128 ^ (k + 1)) := by
  have hX := hX hk
  have e : ((r : Int) * 2 ^ (7 * k)) = ((r * 128 ^ k : Nat) : Int) := by
    rw [show (128 : Nat) = 2 ^ 7 from rfl, ← Nat.pow_mul]
    simp
  have hb : X + r * 128 ^ k < 18446744073709551616 ∧ (k + 1 ≤ 9 → X + r * 128 ^ k < 128 ^ (k + 1)) := by
    have : k = 0 ∨ k = 1 ∨ k = 2 ∨ k = 3 ∨ k = 4 ∨ k = 5 ∨ k = 6 ∨ k = 7 ∨ k = 8 ∨ k = 9 := by omega
    rcases this with rfl | rfl | rfl | rfl | rfl | rfl | rfl | rfl | rfl | rfl <;> simp at hX h9 ⊢ <;> omega
  refine ⟨?_, hb.1, hb.2⟩
  rw [e, u64_lt (by omega), ← Int.natCast_add, u64_lt hb.1]
end Go.Proofs.Ytjlndibeaklcdaa
