/- The contract of varint.read: whatever bytes, of at most 'most' it reads the number that they begin with. No condition. -/
import Derived.Test.YtpggjolbohffjaaDoorRows
import Derived.Test.YtpggjolbohffjaaDoorMem
import Derived.Test.YtpggjolbohffjaaDoorPlain
import Derived.RowKitTokens
set_option linter.unusedSimpArgs false
set_option linter.unusedVariables false
namespace Go.Proofs.YtpggjolbohffjaaDoor
open Go.RowKit


/-- What holds at the head of a round: k bytes are gone by, each above 127, and make up X. -/
def RdRel (most n : Nat) (zs : List Int) (x i : Value) : Prop :=
  ∃ (k X : Nat) (Y : Int), k ≤ n ∧ k ≤ most ∧ i = .int .i64 k ∧ x = .int .u64 Y ∧ (k ≤ 9 → Y = X ∧ X < 128 ^ k) ∧ rd most 0 0 zs = rd most X k (zs.drop k)

theorem rd_step {most X k : Nat} {z : Int} {zs : List Int} (hz : zs[k]? = some z) : rd most X k (zs.drop k) = rd most X k (z :: zs.drop (k + 1)) := by
  obtain ⟨hk, rfl⟩ := List.getElem?_eq_some_iff.1 hz
  rw [List.drop_eq_getElem_cons hk]

theorem or_join (X z k : Nat) (hX : X < 128 ^ k) (hz : z * 128 ^ k < 18446744073709551616) (hk : k ≤ 9) :
    bits .or .u64 (X : Int) (IntKind.u64.wrap ((z : Int) * 2 ^ (7 * k))) = ((X + z * 128 ^ k : Nat) : Int) := by
  have hp : (2 : Int) ^ (7 * k) = ((128 ^ k : Nat) : Int) := by
    rw [Int.pow_mul]; simp
  have hp' : (128 : Nat) ^ k = 2 ^ (7 * k) := by rw [Nat.pow_mul]
  have h9 : 128 ^ k ≤ 128 ^ 9 := Nat.pow_le_pow_right (by omega) hk
  have hcast : (z : Int) * ((128 ^ k : Nat) : Int) = ((z * 128 ^ k : Nat) : Int) := (Int.natCast_mul _ _).symm
  rw [hp, hcast, IntWalk.u64_in _ ⟨by omega, by omega⟩, bits_or_u64_nat _ _ (by omega) hz]
  congr 1
  rw [hp', Nat.or_comm, Nat.mul_comm, ← Nat.two_pow_add_eq_or_of_lt (by rw [← hp']; exact hX)]
  omega

/-- One way out of the loop. -/
theorem rd_out {most : Nat} {zs : List Int} {a b c : Nat} (h : rd most 0 0 zs = (a, b, c)) :
    Ending.returned (.tuple #[.int .u64 (a : Int), .int .i64 (b : Int), .int .i64 (c : Int)]) = Ending.returned (.tuple #[.int .u64 (rd most 0 0 zs).1, .int .i64 (rd most 0 0 zs).2.1, .int .i64 (rd most 0 0 zs).2.2]) := by rw [h]

theorem rd_long {most X k : Nat} {z : Int} {zs : List Int} (hd : rd most 0 0 zs = rd most X k (zs.drop k)) (hz : zs[k]? = some z) (hm : k < most) (h9 : k = 9) (h1 : 1 < z) (h2 : z < 128) : rd most 0 0 zs = (0, 0, 3) := by
  rw [hd, rd_step hz, rd, if_pos hm, if_neg (by omega), if_pos ⟨h9, h1⟩]
theorem rd_slack {most X k : Nat} {z : Int} {zs : List Int} (hd : rd most 0 0 zs = rd most X k (zs.drop k)) (hz : zs[k]? = some z) (hm : k < most) (h9 : 0 < k) (h1 : z = 0) : rd most 0 0 zs = (0, 0, 4) := by
  rw [hd, rd_step hz, rd, if_pos hm, if_neg (by omega), if_neg (by omega), if_pos ⟨h9, h1⟩]
theorem rd_ok {most X k : Nat} {z : Int} {zs : List Int} (hd : rd most 0 0 zs = rd most X k (zs.drop k)) (hz : zs[k]? = some z) (hm : k < most) (h128 : z < 128) (h9 : k = 9 → z ≤ 1) (h0 : 0 < k → z ≠ 0) :
    rd most 0 0 zs = (X + z.toNat * 128 ^ k, k + 1, 0) := by
  rw [hd, rd_step hz, rd, if_pos hm, if_neg (by omega), if_neg (fun h => by have := h9 h.1; omega), if_neg (fun h => h0 h.1 h.2)]
theorem rd_more {most X k : Nat} {z : Int} {zs : List Int} (hd : rd most 0 0 zs = rd most X k (zs.drop k)) (hz : zs[k]? = some z) (hm : k < most) (h128 : 128 ≤ z) :
    rd most 0 0 zs = rd most (X + (z % 128).toNat * 128 ^ k) (k + 1) (zs.drop (k + 1)) := by
  rw [hd, rd_step hz, rd, if_pos hm, if_pos h128]
theorem rd_end {most X k : Nat} {zs : List Int} (hd : rd most 0 0 zs = rd most X k (zs.drop k)) (hk : k = zs.length) (hm : k < most) : rd most 0 0 zs = (0, 0, 2) := by
  rw [hd, List.drop_of_length_le (by omega), rd, if_pos hm]
theorem rd_past {most X k : Nat} {zs : List Int} (hd : rd most 0 0 zs = rd most X k (zs.drop k)) (hm : ¬ k < most) : rd most 0 0 zs = (0, 0, 3) := by
  rw [hd]
  cases zs.drop k <;> rw [rd, if_neg hm]

/-- The sum of a round, as the walk spells it. -/
theorem rd_sum {X k : Nat} {Y z : Int} (hY : k ≤ 9 → Y = X ∧ X < 128 ^ k) (hz : 0 ≤ z ∧ z ≤ 255) (hk : k ≤ 9) (h9 : k = 9 → z ≤ 1) :
    bits .or .u64 Y (IntKind.u64.wrap (z % 128 * 2 ^ (7 * k))) = ((X + (z % 128).toNat * 128 ^ k : Nat) : Int) ∧ (k ≤ 8 → X + (z % 128).toNat * 128 ^ k < 128 ^ (k + 1)) := by
  obtain ⟨rfl, hX⟩ := hY hk
  have e : z % 128 = (((z % 128).toNat : Nat) : Int) := by omega
  have hb : (z % 128).toNat ≤ 127 := by omega
  have hmul : (z % 128).toNat * 128 ^ k ≤ 127 * 128 ^ k := Nat.mul_le_mul_right _ hb
  constructor
  · rw [e, Int.toNat_natCast]
    refine or_join X _ k hX ?_ hk
    by_cases h : k = 9
    · subst h
      have := h9 rfl
      have : (z % 128).toNat ≤ 1 := by omega
      have : (z % 128).toNat * 128 ^ 9 ≤ 1 * 128 ^ 9 := Nat.mul_le_mul_right _ this
      omega
    · have : 128 ^ k ≤ 128 ^ 8 := Nat.pow_le_pow_right (by omega) (by omega)
      omega
  · intro _
    rw [Nat.pow_succ]
    omega

set_option maxRecDepth 100000 in
theorem read_any (A : Option Addr) (n c most : Nat) (zs : List Int) (w : World) (B : Nat) (hr : Sl w B .u8 A zs) (hn : zs.length = n) (hc : n ≤ c) (hmax : n ≤ 9223372036854775807) (hmost : most ≤ 10) (hby : ∀ z ∈ zs, 0 ≤ z ∧ z ≤ 255) :
    Calls Tryd.prog 107 #[.slice A n c, .int .i64 most] w fun e w' =>
      e = .returned (.tuple #[.int .u64 (rd most 0 0 zs).1, .int .i64 (rd most 0 0 zs).2.1, .int .i64 (rd most 0 0 zs).2.2]) ∧ w = w' := by
  have HN := hide hn
  have HR := hide hr
  have HB := hide hby
  clear hn hr hby
  by_cases hlm : n ≤ most
  all_goals
    go_enter Tryd.func107, Tryd.ntmps107
    go_wp2
    go_loop [4, 16] (fun x i => RdRel most n zs x i) (fun _ i => 16 - (intOf i).toNat)
    case atStart => exact ⟨0, 0, 0, Nat.zero_le _, Nat.zero_le _, rfl, rfl, fun _ => ⟨rfl, by simp⟩, rfl⟩
    case round =>
      obtain ⟨k, X, Y, hkn, hkm, rfl, rfl, hY, hd⟩ := hrel
      have HY := hide hY
      have HD := hide hd
      clear hY hd
      by_cases hlt : k < n ∧ k < most
      · obtain ⟨hlt, hltm⟩ := hlt
        have hlz : k < zs.length := by have := HN.out; omega
        obtain ⟨b, o, rfl, -, hcell⟩ := HR.out (by omega)
        obtain ⟨z, hz⟩ : ∃ z, zs[k]? = some z := ⟨_, List.getElem?_eq_getElem hlz⟩
        have hcz : w.cell? ⟨b, o + k, none⟩ = some (.int .u8 z) := by rw [hcell k hlz]; simp [List.getD, hz]
        have hzb : 0 ≤ z ∧ z ≤ 255 := HB.out _ (List.mem_of_getElem? hz)
        have HZ := hide hz
        clear hcell hlz hz
        by_cases h128 : 128 ≤ z
        · have hs := hide (rd_sum HY.out hzb)
          go_wp2
          go_round
          case rel =>
            refine ⟨k + 1, _, _, by omega, by omega, by go_num, rfl, fun h => ?_, rd_more HD.out HZ.out hltm h128⟩
            have := hs.out (by omega) (by omega)
            exact ⟨this.1, this.2 (by omega)⟩
          case measure => simp [intOf]; omega
        · have h127 : z < 128 := by omega
          by_cases h9 : k = 9 ∧ 1 < z
          · have hv := hide (rd_long HD.out HZ.out hltm h9.1 h9.2 h127)
            have hk9 : 9 ≤ k := by omega
            have h1 : 1 < z := h9.2
            clear h9
            go_wp2
            go_ret3
            exact ⟨rd_out hv.out, rfl⟩
          · by_cases h0 : 0 < k ∧ z = 0
            · have hv := hide (rd_slack HD.out HZ.out hltm h0.1 h0.2)
              have hzr : (z == 0) = true := by simpa using h0.2
              have hk0 := h0.1
              have hle : z ≤ 1 := by omega
              clear h9 h0
              go_wp2
              all_goals
                go_ret3
                exact ⟨rd_out hv.out, rfl⟩
            · have hv := hide (rd_ok HD.out HZ.out hltm h127 (by omega) (by omega))
              have hs := hide (rd_sum HY.out hzb (by omega) (by omega)).1
              have hend : Ending.returned (.tuple #[.int .u64 (bits .or .u64 Y (IntKind.u64.wrap (z % 128 * 2 ^ (7 * k)))), .int .i64 ((k : Int) + 1), .int .i64 0]) = Ending.returned (.tuple #[.int .u64 (rd most 0 0 zs).1, .int .i64 (rd most 0 0 zs).2.1, .int .i64 (rd most 0 0 zs).2.2]) := by
                have hm : (z % 128).toNat = z.toNat := by omega
                rw [hs.out, hv.out, hm]
                simp
              have HE := hide hend
              clear hend hs hv
              have hzr : 0 < k → (z == 0) = false := fun h => by
                have : ¬ z = 0 := fun h' => h0 ⟨h, h'⟩
                simpa using this
              have hle : 9 ≤ k → z ≤ 1 := fun h => by omega
              clear h9 h0
              by_cases hk9 : 9 ≤ k
              · have hle' := hle hk9
                have hzr' := hzr (by omega)
                clear hle hzr
                go_wp2
                go_ret3
                have hk : k = 9 := by omega
                subst hk
                exact ⟨by simpa using HE.out, rfl⟩
              · by_cases hk0 : 0 < k
                · have hzr' := hzr (by omega)
                  clear hle hzr
                  go_wp2
                  go_ret3
                  exact ⟨HE.out, rfl⟩
                · clear hle hzr
                  go_wp2
                  go_ret3
                  exact ⟨HE.out, rfl⟩
      · by_cases hk : n < most
        · have hv := hide (rd_end HD.out (by have := HN.out; omega) (by omega))
          go_wp2
          all_goals
            go_ret3
            exact ⟨rd_out hv.out, rfl⟩
        · have hv := hide (rd_past HD.out (by omega))
          go_wp2
          go_ret3
          exact ⟨rd_out hv.out, rfl⟩
end Go.Proofs.YtpggjolbohffjaaDoor
