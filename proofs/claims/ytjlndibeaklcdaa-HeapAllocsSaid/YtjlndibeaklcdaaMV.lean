/- The contracts of varint.Get, GetSigned, place, number. No condition. -/
import Derived.Test.YtjlndibeaklcdaaMA
import Derived.Laws.DeepNot64
import Derived.Laws.BitsAllLaws
import Derived.Laws.CopyOwn
import Derived.OwnWalk
import Derived.Deep.QuietTactic
import Derived.BigQuiet
set_option linter.unusedSimpArgs false
set_option linter.unusedVariables false
namespace Go.Proofs.Ytjlndibeaklcdaa
open Go.RowKit
theorem not64 (x : Nat) (hx : x < 18446744073709551616) : bits .xor .u64 IntKind.u64.max (x : Int) = ((18446744073709551615 - x : Nat) : Int) := by
  have e : IntKind.u64.max = ((18446744073709551615 : Nat) : Int) := rfl
  rw [e, u64_xor_nat _ _ (by omega) hx]
  congr 1
  apply Nat.eq_of_testBit_eq
  intro i
  have h1 : (18446744073709551615 : Nat) = 2 ^ 64 - 1 := by decide
  have h2 : 18446744073709551615 - x = 2 ^ 64 - (x + 1) := by omega
  rw [h2, h1, Nat.testBit_xor, Nat.testBit_two_pow_sub_one, Nat.testBit_two_pow_sub_succ (by omega)]
  by_cases hi : i < 64
  · simp [hi]
  · have : x.testBit i = false := Nat.testBit_lt_two_pow (Nat.lt_of_lt_of_le (show x < 2 ^ 64 by omega) (Nat.pow_le_pow_right (by omega) (by omega)))
    simp [hi, this]
end Go.Proofs.Ytjlndibeaklcdaa
namespace Go.Proofs.Ytjlndibeaklcdaa
open Go.RowKit
theorem info_u8 : (Try.prog.info? 5).map (fun i => (i.zero, i.size, i.bytes)) = some (some (.int .u8 0), 1, 1) := by kernel_rfl
theorem size_u8 : (Try.prog.info? 5).map (·.size) = some 1 := by kernel_rfl
/-- A byte of a number, as lay spells it. -/
theorem or128 (u : Nat) : bits .or .u8 ((u : Int) % 256) 128 = ((u % 128 + 128 : Nat) : Int) := by
  have e : (u : Int) % 256 = ((u % 256 : Nat) : Int) := by omega
  have e2 : (128 : Int) = ((128 : Nat) : Int) := rfl
  rw [e, e2, u8_or_nat _ _ (by omega) (by omega)]
  congr 1
  have h1 : u % 256 % 128 = u % 128 := by omega
  have h : u % 256 = 128 * (u % 256 / 128) + u % 128 := by omega
  have h2 : u % 256 / 128 = 0 ∨ u % 256 / 128 = 1 := by omega
  have hj : 2 ^ 7 * 1 + u % 128 = 2 ^ 7 * 1 ||| u % 128 := Nat.two_pow_add_eq_or_of_lt (by omega) 1
  rcases h2 with h2 | h2
  · rw [h2] at h
    rw [h, Nat.or_comm]
    simp at hj ⊢
    omega
  · rw [h2] at h
    have e3 : u % 256 = 128 ||| u % 128 := by simp at hj; omega
    rw [e3, Nat.or_comm, ← Nat.or_assoc, Nat.or_self]
    simp at hj; omega
/-- A slice of so many zeros, of which some are written. -/
theorem Ow.of_row {w : World} {base g n cap : Nat} {e : TypeId} {k : IntKind} {cur : List Value} {zs : List Int} (hg : base ≤ g) (hh : w.heap[g]? = some (.cells cur.toArray e (0, 0))) (hn : zs.length = n) (hc : n ≤ cap) (hm : cap ≤ maxLen)
    (hs : cur.length = cap) (ht : cur.take n = zs.map (Value.int k)) : Ow w base e k (.slice (some ⟨g, 0, none⟩) n cap) zs := by
  subst hn
  refine ⟨by simp, .inr ⟨g, cap, cur.toArray, rfl, hg, hh, hc, hm, by simpa using hs, by simpa using ht⟩⟩
/-- A value that the function hands back. -/
theorem ow_room {w w' : World} {base : Nat} {v : Value} {zs : List Int} (h : Ow w base 5 .u8 v zs) (hb : Below base w w') : base ≤ w'.heap.size ∨ v = .slice none 0 0 := by
  rcases h.2 with ⟨h2, _⟩ | ⟨g, cap, cur, _, hg, hh, _⟩
  · exact .inr h2
  · have := (Array.getElem?_eq_some_iff.1 hh).1
    have := hb.size
    exact .inl (by omega)
/-- The bytes of a number that Put writes: none below 0. -/
def encI (n : Int) : List Int := if n < 0 then [] else enc n.toNat
/-- All bytes of a list: none of the numbers below 0. -/
def encL (zs : List Int) : List Int := zs.flatMap encI
theorem encL_snoc {zs : List Int} {k : Nat} {x : Int} (h : zs[k]? = some x) : encL (zs.take (k + 1)) = encL (zs.take k) ++ encI x := by
  rw [List.take_add_one, h]; simp [encL]
theorem encI_len {x : Int} (hx : x ≤ 9223372036854775807) : (encI x).length ≤ 9 := by
  unfold encI; split
  · simp
  · exact enc_len9 (by omega)
theorem encL_len : ∀ (zs : List Int), (∀ z ∈ zs, z ≤ 9223372036854775807) → (encL zs).length ≤ 9 * zs.length
  | [], _ => by simp [encL]
  | z :: zs, h => by
    have h1 := encI_len (h z (by simp))
    have h2 := encL_len zs (fun y hy => h y (by simp [hy]))
    simp only [encL, List.flatMap_cons, List.length_append, List.length_cons] at h2 ⊢
    omega
theorem info_i64 : (Try.prog.info? 3).map (fun i => (i.zero, i.size, i.bytes)) = some (some (.int .i64 0), 1, 8) := by kernel_rfl
end Go.Proofs.Ytjlndibeaklcdaa
namespace Go.Proofs.Ytjlndibeaklcdaa
open Go.RowKit
theorem Ow.empty (w : World) (e : TypeId) (k : IntKind) : Ow (w.alloc (.cells #[] e)) w.heap.size e k (.slice (some ⟨w.heap.size, 0, none⟩) 0 0) [] :=
  ⟨by simp, .inr ⟨w.heap.size, 0, #[], rfl, Nat.le_refl _, heap_alloc_new w _, Nat.le_refl _, by simp [maxLen], by simp, by simp⟩⟩
set_option maxRecDepth 100000 in
/-- Ints: two slices of numbers hold the same. -/
theorem ints_any (A B : Option Addr) (n m c d : Nat) (xs ys : List Int) (w : World) (Bx By : Nat) (hx : Sl w Bx .i64 A xs) (hy : Sl w By .i64 B ys) (hn : xs.length = n) (hm : ys.length = m) (hmax : n ≤ 9223372036854775807) (hmax2 : m ≤ 9223372036854775807) :
    Calls Try.prog 13 #[.slice A n c, .slice B m d] w fun e w' => e = .returned (.bool (decide (xs = ys))) ∧ ∃ q, w' = w.drewN q := by
  have HX := hide hx; have HY := hide hy; have HN := hide hn; have HM := hide hm
  clear hx hy hn hm
  by_cases hnm : n = m
  · subst hnm
    go_enter Try.func13, Try.ntmps13
    go_wp2
    go_loopw [5] (fun i wr => ∃ k q : Nat, i = .int .i64 k ∧ k ≤ n ∧ xs.take k = ys.take k ∧ wr = w.drewN q) (fun i _ => n - (intOf i).toNat)
    case atStart => exact ⟨0, 0, rfl, Nat.zero_le _, rfl, rfl⟩
    case round =>
      obtain ⟨k, q, rfl, hk, he, rfl⟩ := hrel
      have HE := hide he
      clear he
      by_cases hlt : k < n
      · obtain ⟨b, o, rfl, -, hcx⟩ := HX.out (by have := HN.out; omega)
        obtain ⟨b', o', rfl, -, hcy⟩ := HY.out (by have := HM.out; omega)
        have h1 := hcx k (by have := HN.out; omega)
        have h2 := hcy k (by have := HM.out; omega)
        have hgx : xs[k]? = some (xs.getD k 0) := by
          have := HN.out
          simp [List.getD, show k < xs.length by omega]
        have hgy : ys[k]? = some (ys.getD k 0) := by
          have := HM.out
          simp [List.getD, show k < ys.length by omega]
        obtain ⟨x, hxk⟩ : ∃ x, xs.getD k 0 = x := ⟨_, rfl⟩
        obtain ⟨y, hyk⟩ : ∃ y, ys.getD k 0 = y := ⟨_, rfl⟩
        rw [hxk] at h1 hgx
        rw [hyk] at h2 hgy
        have HGX := hide hgx; have HGY := hide hgy
        clear hcx hcy hgx hgy hxk hyk
        by_cases hxy : x = y
        · subst hxy
          go_wp2
          go_quiet (fail)
          go_wp2
          go_roundw
          case rel => exact ⟨k + 1, _, by go_num, by omega, take_step HE.out HGX.out HGY.out, rfl⟩
          case measure => simp [intOf]; omega
        · have hne := hide (decide_eq_false (show ¬ xs = ys from fun h => hxy (by have h1 := HGX.out; have h2 := HGY.out; rw [h, h2] at h1; exact (Option.some.inj h1).symm)))
          go_wp2
          go_quiet (fail)
          go_wp2
          go_ret
          exact ⟨ret_bool hne.out.symm, _, World.drewN_drewN _ _ _⟩
      · go_wp2
        go_ret
        refine ⟨?_, q, rfl⟩
        have h1 := HN.out; have h2 := HM.out; have h3 := HE.out
        rw [List.take_of_length_le (by omega), List.take_of_length_le (by omega)] at h3
        simp [h3]
  · have hne : xs ≠ ys := fun h => hnm (by have := HN.out; have := HM.out; subst h; omega)
    have hd := hide (decide_eq_false hne)
    clear hne
    go_enter Try.func13, Try.ntmps13
    go_wp2
    go_ret
    exact ⟨ret_bool hd.out.symm, 0, rfl⟩
end Go.Proofs.Ytjlndibeaklcdaa
