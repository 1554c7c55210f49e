/- The contracts of varint.Get, GetSigned, place, number. No condition. -/
import Derived.Test.YtckpaikppgjfnaaGreatDoorMA
import Derived.Laws.DeepNot64
import Derived.Laws.BitsAllLaws
import Derived.Laws.CopyOwn
import Derived.OwnWalk
import Derived.Deep.QuietTactic
import Derived.BigQuiet
set_option linter.unusedSimpArgs false
set_option linter.unusedVariables false
namespace Go.Proofs.YtckpaikppgjfnaaGreatDoor
open Go.RowKit
theorem not64 (x : Nat) (hx : x < 18446744073709551616) : bits .xor .u64 IntKind.u64.max (x : Int) = ((18446744073709551615 - x : Nat) : Int) := by
  have e : IntKind.u64.max = ((18446744073709551615 : Nat) : Int) := rfl
  rw [e, u64_xor_nat _ _ (by omega) hx]
  congr 1
  apply Nat.eq_of_testBit_eq
  intro i
  have h1 : (18446744073709551615 : Nat) = 2 ^ 64 - 1 := by decide
  have h2 : 18446744073709551615 - x = 2 ^ 64 - (x + 1) := by omega
  rw [h2, h1, Nat.testBit_xor, Nat.testBit_two_pow_sub_one, Nat.testBit_two_pow_sub_succ (by omega)]
  by_cases hi : i < 64
  · simp [hi]
  · have : x.testBit i = false := Nat.testBit_lt_two_pow (Nat.lt_of_lt_of_le (show x < 2 ^ 64 by omega) (Nat.pow_le_pow_right (by omega) (by omega)))
    simp [hi, this]
end Go.Proofs.YtckpaikppgjfnaaGreatDoor
namespace Go.Proofs.YtckpaikppgjfnaaGreatDoor
open Go.RowKit
theorem info_u8 : (Tryz.prog.info? 5).map (fun i => (i.zero, i.size, i.bytes)) = some (some (.int .u8 0), 1, 1) := by kernel_rfl
theorem size_u8 : (Tryz.prog.info? 5).map (·.size) = some 1 := by kernel_rfl
/-- A byte of a number, as lay spells it. -/
theorem or128 (u : Nat) : bits .or .u8 ((u : Int) % 256) 128 = ((u % 128 + 128 : Nat) : Int) := by
  have e : (u : Int) % 256 = ((u % 256 : Nat) : Int) := by omega
  have e2 : (128 : Int) = ((128 : Nat) : Int) := rfl
  rw [e, e2, u8_or_nat _ _ (by omega) (by omega)]
  congr 1
  have h1 : u % 256 % 128 = u % 128 := by omega
  have h : u % 256 = 128 * (u % 256 / 128) + u % 128 := by omega
  have h2 : u % 256 / 128 = 0 ∨ u % 256 / 128 = 1 := by omega
  have hj : 2 ^ 7 * 1 + u % 128 = 2 ^ 7 * 1 ||| u % 128 := Nat.two_pow_add_eq_or_of_lt (by omega) 1
  rcases h2 with h2 | h2
  · rw [h2] at h
    rw [h, Nat.or_comm]
    simp at hj ⊢
    omega
  · rw [h2] at h
    have e3 : u % 256 = 128 ||| u % 128 := by simp at hj; omega
    rw [e3, Nat.or_comm, ← Nat.or_assoc, Nat.or_self]
    simp at hj; omega
/-- A slice of so many zeros, of which some are written. -/
theorem Ow.of_row {w : World} {base g n cap : Nat} {e : TypeId} {k : IntKind} {cur : List Value} {zs : List Int} (hg : base ≤ g) (hh : w.heap[g]? = some (.cells cur.toArray e (0, 0))) (hn : zs.length = n) (hc : n ≤ cap) (hm : cap ≤ maxLen)
    (hs : cur.length = cap) (ht : cur.take n = zs.map (Value.int k)) : Ow w base e k (.slice (some ⟨g, 0, none⟩) n cap) zs := by
  subst hn
  refine ⟨by simp, .inr ⟨g, cap, cur.toArray, rfl, hg, hh, hc, hm, by simpa using hs, by simpa using ht⟩⟩
/-- A value that the function hands back. -/
theorem ow_room {w w' : World} {base : Nat} {v : Value} {zs : List Int} (h : Ow w base 5 .u8 v zs) (hb : Below base w w') : base ≤ w'.heap.size ∨ v = .slice none 0 0 := by
  rcases h.2 with ⟨h2, _⟩ | ⟨g, cap, cur, _, hg, hh, _⟩
  · exact .inr h2
  · have := (Array.getElem?_eq_some_iff.1 hh).1
    have := hb.size
    exact .inl (by omega)
/-- The bytes of a number that Put writes: none below 0. -/
def encI (n : Int) : List Int := if n < 0 then [] else enc n.toNat
/-- All bytes of a list: none of the numbers below 0. -/
def encL (zs : List Int) : List Int := zs.flatMap encI
theorem encL_snoc {zs : List Int} {k : Nat} {x : Int} (h : zs[k]? = some x) : encL (zs.take (k + 1)) = encL (zs.take k) ++ encI x := by
  rw [List.take_add_one, h]; simp [encL]
theorem encI_len {x : Int} (hx : x ≤ 9223372036854775807) : (encI x).length ≤ 9 := by
  unfold encI; split
  · simp
  · exact enc_len9 (by omega)
theorem encL_len : ∀ (zs : List Int), (∀ z ∈ zs, z ≤ 9223372036854775807) → (encL zs).length ≤ 9 * zs.length
  | [], _ => by simp [encL]
  | z :: zs, h => by
    have h1 := encI_len (h z (by simp))
    have h2 := encL_len zs (fun y hy => h y (by simp [hy]))
    simp only [encL, List.flatMap_cons, List.length_append, List.length_cons] at h2 ⊢
    omega
theorem info_i64 : (Tryz.prog.info? 3).map (fun i => (i.zero, i.size, i.bytes)) = some (some (.int .i64 0), 1, 8) := by kernel_rfl
end Go.Proofs.YtckpaikppgjfnaaGreatDoor
namespace Go.Proofs.YtckpaikppgjfnaaGreatDoor
open Go.RowKit
theorem Ow.empty (w : World) (e : TypeId) (k : IntKind) : Ow (w.alloc (.cells #[] e)) w.heap.size e k (.slice (some ⟨w.heap.size, 0, none⟩) 0 0) [] :=
  ⟨by simp, .inr ⟨w.heap.size, 0, #[], rfl, Nat.le_refl _, heap_alloc_new w _, Nat.le_refl _, by simp [maxLen], by simp, by simp⟩⟩
end Go.Proofs.YtckpaikppgjfnaaGreatDoor
