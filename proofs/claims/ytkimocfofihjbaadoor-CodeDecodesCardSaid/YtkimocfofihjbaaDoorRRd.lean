/- The reference's reader of numbers: it answers what 'rd' says. Condition: the slice's bytes are bytes. -/
import Derived.Test.YtkimocfofihjbaaDoorMV
set_option linter.unusedSimpArgs false
set_option linter.unusedVariables false
namespace Go.Proofs.YtkimocfofihjbaaDoor
open Go.RowKit

def RrRel (most n : Nat) (zs : List Int) (u i : Value) : Prop :=
  ∃ X k : Nat, k ≤ n ∧ k ≤ most ∧ u = .int .u64 (X : Int) ∧ i = .int .i64 (k : Int) ∧ Hid ((k ≤ 9 → X < 128 ^ k) ∧ X < 18446744073709551616 ∧ rd most 0 0 zs = rd most X k (zs.drop k))
theorem u64_lt {m : Nat} (h : m < 18446744073709551616) : IntKind.u64.wrap (m : Int) = m := by
  simp [IntKind.wrap, IntKind.bits, IntKind.signed]
  omega
theorem rr_sum {X r k : Nat} (hX : k ≤ 9 → X < 128 ^ k) (hk : k ≤ 9) (hr : r < 128) (h9 : k = 9 → r ≤ 1) : IntKind.u64.wrap ((X : Int) + IntKind.u64.wrap ((r : Int) * 2 ^ (7 * k))) = ((X + r * 128 ^ k : Nat) : Int) ∧ X + r * 128 ^ k < 18446744073709551616 ∧ (k + 1 ≤ 9 → X + r * 128 ^ k < 128 ^ (k + 1)) := by
  have hX := hX hk
  have e : ((r : Int) * 2 ^ (7 * k)) = ((r * 128 ^ k : Nat) : Int) := by
    rw [show (128 : Nat) = 2 ^ 7 from rfl, ← Nat.pow_mul]
    simp
  have hb : X + r * 128 ^ k < 18446744073709551616 ∧ (k + 1 ≤ 9 → X + r * 128 ^ k < 128 ^ (k + 1)) := by
    have : k = 0 ∨ k = 1 ∨ k = 2 ∨ k = 3 ∨ k = 4 ∨ k = 5 ∨ k = 6 ∨ k = 7 ∨ k = 8 ∨ k = 9 := by omega
    rcases this with rfl | rfl | rfl | rfl | rfl | rfl | rfl | rfl | rfl | rfl <;> simp at hX h9 ⊢ <;> omega
  refine ⟨?_, hb.1, hb.2⟩
  rw [e, u64_lt (by omega), ← Int.natCast_add, u64_lt hb.1]
set_option maxHeartbeats 1000000 in
set_option maxRecDepth 100000 in
theorem rread_any (A : Option Addr) (n c most : Nat) (zs : List Int) (w : World) (B : Nat) (hr : Sl w B .u8 A zs) (hn : zs.length = n) (hc : n ≤ c) (hmax : n ≤ 9223372036854775807) (hm9 : 9 ≤ most) (hmost : most ≤ 10) (hby : ∀ z ∈ zs, 0 ≤ z ∧ z ≤ 255) :
    Calls Tryd.prog 38 #[.slice A n c, .int .i64 most] w fun e w' =>
      e = .returned (.tuple #[.int .u64 (rd most 0 0 zs).1, .int .i64 (rd most 0 0 zs).2.1, .int .i64 (rd most 0 0 zs).2.2]) ∧ w = w' := by
  have HN := hide hn
  have HR := hide hr
  have HB := hide hby
  clear hn hr hby
  go_enter Tryd.func38, Tryd.ntmps38
  go_wp2
  go_loop [7, 8] (fun u i => RrRel most n zs u i) (fun _ i => 16 - (intOf i).toNat)
  case atStart => exact ⟨0, 0, Nat.zero_le _, Nat.zero_le _, rfl, rfl, hide ⟨fun _ => by simp, by omega, by simp⟩⟩
  case round =>
    obtain ⟨X, k, hkn, hkm, rfl, rfl, hin⟩ := hrel
    by_cases hlt : k < n
    · obtain ⟨z, hz⟩ : ∃ z, zs[k]? = some z := ⟨_, List.getElem?_eq_getElem (by have := HN.out; omega)⟩
      have hzb := HB.out z (List.mem_of_getElem? hz)
      obtain ⟨b, o, rfl, hb, hcell⟩ := HR.out (by have := HN.out; omega)
      have hcz : w.cell? ⟨b, o + k, none⟩ = some (.int .u8 z) := by rw [hcell k (by have := HN.out; omega)]; simp [List.getD, hz]
      obtain ⟨zn, rfl⟩ : ∃ m : Nat, z = m := ⟨z.toNat, by omega⟩
      obtain ⟨r, hrr⟩ : ∃ r, zn % 128 = r := ⟨_, rfl⟩
      have hr1 : (zn : Int).tmod 128 = (r : Int) := by rw [← hrr]; exact (Int.ofNat_tmod zn 128).symm
      have hr2 : (zn : Int) % 128 = (r : Int) := by omega
      have hdr : zs.drop k = (zn : Int) :: zs.drop (k + 1) := by
        have hkl := (List.getElem?_eq_some_iff.1 hz).1
        rw [List.drop_eq_getElem_cons hkl, (List.getElem?_eq_some_iff.1 hz).2]
      have HRR := hide hrr
      have HDR := hide hdr
      clear hcell hz hdr hrr
      by_cases hkmost : k = most
      · have HE := hide (show rd most 0 0 zs = (0, 0, 3) by
          rw [hin.out.2.2, HDR.out, hkmost, rd, if_neg (Nat.lt_irrefl _)])
        have q : ((k : Int) == (most : Int)) = true := by simp [hkmost]
        clear hkmost
        go_wp2
        go_ret3
        exact ⟨rd_out HE.out, rfl⟩
      have q : ((k : Int) == (most : Int)) = false := by first | (simp; done) | (simp; omega)
      have hkm2 : k < most := by omega
      by_cases h9 : k = 9 ∧ 1 < r
      · obtain ⟨h9a, h9b⟩ := h9
        have HE := hide (show rd most 0 0 zs = (0, 0, 3) by
          rw [hin.out.2.2, HDR.out, rd, if_pos hkm2]
          have h10 : most = 10 := by omega
          by_cases h128 : (128 : Int) ≤ zn
          · rw [if_pos h128]
            cases hd : zs.drop (k + 1) with
            | nil => rw [rd, if_neg (by omega)]
            | cons a t => rw [rd, if_neg (by omega)]
          · rw [if_neg h128, if_pos ⟨h9a, by have := HRR.out; omega⟩])
        have q9 : ((k : Int) == 9) = true := by simp [h9a]
        have h1r : (1 : Int) < (r : Int) := by omega
        clear h9a
        go_wp2
        go_ret3
        exact ⟨rd_out HE.out, rfl⟩
      have hk9 : k = 9 → r ≤ 1 := fun h => by
        apply Classical.byContradiction; intro h2; exact h9 ⟨h, by omega⟩
      have HS := hide (rr_sum hin.out.1 (by omega) (by have := HRR.out; omega) hk9)
      by_cases h128 : (128 : Int) ≤ zn
      · have HNX := hide (show (k + 1 ≤ 9 → X + r * 128 ^ k < 128 ^ (k + 1)) ∧ X + r * 128 ^ k < 18446744073709551616 ∧ rd most 0 0 zs = rd most (X + r * 128 ^ k) (k + 1) (zs.drop (k + 1)) from ⟨HS.out.2.2, HS.out.2.1, by
          rw [hin.out.2.2, HDR.out, rd, if_pos hkm2, if_pos h128]
          have : ((zn : Int) % 128).toNat = r := by have := HRR.out; omega
          rw [this]⟩)
        have hz1 : ¬ (zn : Int) < 128 := by omega
        have hz2 : ¬ zn < 128 := by omega
        by_cases hk : k = 9
        · have q9 : ((k : Int) == 9) = true := by simp [hk]
          have hr1' : ¬ (1 : Int) < (r : Int) := by have := hk9 hk; omega
          have hr2' : ¬ 1 < r := by have := hk9 hk; omega
          clear hk h9 hk9 hin
          go_wp2
          go_round
          case rel => exact ⟨X + r * 128 ^ k, k + 1, by omega, by omega, by rw [HS.out.1], by go_num, HNX⟩
          case measure => simp [intOf]; omega
        · have q9 : ((k : Int) == 9) = false := by first | (simp; done) | (simp; omega)
          clear hk h9 hk9 hin
          go_wp2
          go_round
          case rel => exact ⟨X + r * 128 ^ k, k + 1, by omega, by omega, by rw [HS.out.1], by go_num, HNX⟩
          case measure => simp [intOf]; omega
      · have hzr : zn = r := by have := HRR.out; omega
        have hz1 : (zn : Int) < 128 := by omega
        have hz2 : zn < 128 := by omega
        by_cases h0 : 0 < k ∧ zn = 0
        · obtain ⟨h0a, h0b⟩ := h0
          have HE := hide (show rd most 0 0 zs = (0, 0, 4) by
            rw [hin.out.2.2, HDR.out, rd, if_pos hkm2, if_neg h128, if_neg (fun h => by have := h.2; omega), if_pos ⟨h0a, by omega⟩])
          have hzq : ((zn : Int) == 0) = true := by simp [h0b]
          have hr0 : r = 0 := by omega
          by_cases hk : k = 9
          · have q9 : ((k : Int) == 9) = true := by simp [hk]
            have hr1' : ¬ (1 : Int) < (r : Int) := by omega
            have hr2' : ¬ 1 < r := by omega
            clear hk h9 hk9 hin hzr h0b hr0
            go_wp2
            go_ret3
            exact ⟨rd_out HE.out, rfl⟩
          · have q9 : ((k : Int) == 9) = false := by first | (simp; done) | (simp; omega)
            clear hk h9 hk9 hin hzr h0b hr0
            go_wp2
            go_ret3
            exact ⟨rd_out HE.out, rfl⟩
        · have HE := hide (show rd most 0 0 zs = (X + r * 128 ^ k, k + 1, 0) by
            rw [hin.out.2.2, HDR.out, rd, if_pos hkm2, if_neg h128, if_neg (fun h => by have := hk9 h.1; have := h.2; omega), if_neg (fun h => h0 ⟨h.1, by have := h.2; omega⟩)]
            have : (zn : Int).toNat = r := by omega
            rw [this])
          have HW := hide (show IntKind.i64.wrap ((k : Int) + 1) = ((k + 1 : Nat) : Int) from IntWalk.i64_in _ ⟨by omega, by omega⟩)
          have hend := hide (show Ending.returned (.tuple #[.int .u64 (IntKind.u64.wrap ((X : Int) + IntKind.u64.wrap ((r : Int) * 2 ^ (7 * k)))), .int .i64 ((k : Int) + 1), .int .i64 0]) = Ending.returned (.tuple #[.int .u64 (rd most 0 0 zs).1, .int .i64 (rd most 0 0 zs).2.1, .int .i64 (rd most 0 0 zs).2.2]) by
            rw [HS.out.1, HE.out]
            simp)
          by_cases hk : k = 9
          · have q9 : ((k : Int) == 9) = true := by simp [hk]
            have hr1' : ¬ (1 : Int) < (r : Int) := by have := hk9 hk; omega
            have hr2' : ¬ 1 < r := by have := hk9 hk; omega
            have hzq : ((zn : Int) == 0) = false := by
              have : ¬ zn = 0 := fun h => h0 ⟨by omega, h⟩
              first | (simp; done) | (simp; omega)
            clear hk h9 hk9 hin hzr h0
            go_wp2
            go_ret3
            exact ⟨hend.out, rfl⟩
          · have q9 : ((k : Int) == 9) = false := by first | (simp; done) | (simp; omega)
            by_cases hz0 : zn = 0
            · have hk0 : k = 0 := by omega
              have hzq : ((zn : Int) == 0) = true := by simp [hz0]
              have hkn : ¬ (0 : Int) < (k : Int) := by omega
              have hkn2 : ¬ 0 < k := by omega
              clear hk h9 hk9 hin hzr h0 hz0 hk0
              go_wp2
              go_ret3
              exact ⟨hend.out, rfl⟩
            · have hzq : ((zn : Int) == 0) = false := by first | (simp; done) | (simp; omega)
              clear hk h9 hk9 hin hzr h0 hz0
              go_wp2
              go_ret3
              exact ⟨hend.out, rfl⟩
    · have hdr : zs.drop k = [] := List.drop_eq_nil_of_le (by have := HN.out; omega)
      have hkn' : k = n := by omega
      by_cases hm : k = most
      · have HE := hide (show rd most 0 0 zs = (0, 0, 3) by rw [hin.out.2.2, hdr, rd, if_neg (by omega)])
        have q : ((n : Int) == (most : Int)) = true := by simp; omega
        clear hdr hkn' hm hin
        go_wp2
        go_ret3
        exact ⟨rd_out HE.out, rfl⟩
      · have HE := hide (show rd most 0 0 zs = (0, 0, 2) by rw [hin.out.2.2, hdr, rd, if_pos (by omega)])
        have q : ((n : Int) == (most : Int)) = false := by first | (simp; done) | (simp; omega)
        clear hdr hkn' hm hin
        go_wp2
        go_ret3
        exact ⟨rd_out HE.out, rfl⟩
theorem rget_any (A : Option Addr) (n c : Nat) (zs : List Int) (w : World) (B : Nat) (hr : Sl w B .u8 A zs) (hn : zs.length = n) (hc : n ≤ c) (hmax : n ≤ 9223372036854775807) (hby : ∀ z ∈ zs, 0 ≤ z ∧ z ≤ 255) :
    Calls Tryd.prog 24 #[.slice A n c] w fun e w' => e = .returned (.tuple #[.int .i64 (rd 9 0 0 zs).1, .int .i64 (rd 9 0 0 zs).2.1, .int .i64 (rd 9 0 0 zs).2.2]) ∧ w = w' := by
  have HC := hide (rread_any A n c 9 zs w B hr hn hc hmax (by omega) (by omega) hby)
  have HL := hide (rd_lt63 zs hby)
  clear hr hn hby
  generalize rd 9 0 0 zs = R at *
  obtain ⟨x, i, e⟩ := R
  have h1 : IntKind.i64.wrap (x : Int) = (x : Int) := IntWalk.i64_in _ ⟨by omega, by have := HL.out; simp only at this; omega⟩
  simp only at HC ⊢
  go_enter Tryd.func24, Tryd.ntmps24
  go_wp2_with (go_at_call 38; refine (HC.out).mono ?_; rintro e w2 ⟨rfl, rfl⟩)
  go_ret3
  exact ⟨rfl, rfl⟩
end Go.Proofs.YtkimocfofihjbaaDoor
