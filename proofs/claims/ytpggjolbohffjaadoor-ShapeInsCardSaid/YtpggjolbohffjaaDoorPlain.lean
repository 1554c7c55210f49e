/- Plain mathematics of numbers in bytes of seven bits: 'enc' (the bytes of a number), 'rd' (the number that bytes begin with). No condition. -/
import Derived.WalkKit
set_option linter.unusedSimpArgs false
set_option linter.unusedVariables false
namespace Go.Proofs.YtpggjolbohffjaaDoor

/-- A number's bytes, seven bits each, the lowest first. -/
def enc (u : Nat) : List Int := if u < 128 then [(u : Int)] else ((u % 128 + 128 : Nat) : Int) :: enc (u / 128)
  termination_by u

theorem enc_lo {u : Nat} (h : u < 128) : enc u = [(u : Int)] := by rw [enc, if_pos h]
theorem enc_hi {u : Nat} (h : ¬ u < 128) : enc u = ((u % 128 + 128 : Nat) : Int) :: enc (u / 128) := by rw [enc, if_neg h]
theorem enc_pos (u : Nat) : 1 ≤ (enc u).length := by
  by_cases h : u < 128
  · simp [enc_lo h]
  · simp [enc_hi h]
/-- No more bytes than hold it. -/
theorem enc_len : ∀ (s u : Nat), u < 128 ^ (s + 1) → (enc u).length ≤ s + 1
  | 0, u, h => by simp [enc_lo (show u < 128 by simpa using h)]
  | s + 1, u, h => by
    by_cases h1 : u < 128
    · simp [enc_lo h1]
    · have : u / 128 < 128 ^ (s + 1) := by
        rw [Nat.div_lt_iff_lt_mul (by omega)]
        rw [Nat.pow_succ] at h
        exact h
      have := enc_len s (u / 128) this
      simp [enc_hi h1]; omega
theorem enc_len10 {u : Nat} (h : u < 18446744073709551616) : (enc u).length ≤ 10 := enc_len 9 u (by omega)
theorem enc_len9 {u : Nat} (h : u < 9223372036854775808) : (enc u).length ≤ 9 := enc_len 8 u (by omega)
theorem enc_byte : ∀ (n u : Nat), u ≤ n → ∀ z ∈ enc u, 0 ≤ z ∧ z ≤ 255
  | n, u, hn, z, hz => by
    by_cases h : u < 128
    · rw [enc_lo h] at hz
      simp at hz
      omega
    · rw [enc_hi h] at hz
      rcases List.mem_cons.1 hz with rfl | hz
      · omega
      · match n, hn with
        | 0, hn => omega
        | n + 1, hn => exact enc_byte n (u / 128) (by omega) z hz
theorem enc_range (u : Nat) (j : Nat) : 0 ≤ (enc u)[j]?.getD 0 ∧ (enc u)[j]?.getD 0 ≤ 255 := by
  by_cases hj : j < (enc u).length
  · have := enc_byte u u (Nat.le_refl _) _ (List.getElem_mem hj)
    simpa [hj] using this
  · simp [List.getElem?_eq_none (by omega : (enc u).length ≤ j)]
/-- As few bytes as hold it. -/
theorem enc_fit : ∀ (n u : Nat), u ≤ n → u < 128 ^ (enc u).length ∧ (1 < (enc u).length → 128 ^ ((enc u).length - 1) ≤ u)
  | n, u, hn => by
    by_cases h : u < 128
    · simp [enc_lo h]; omega
    · match n, hn with
      | 0, hn => omega
      | n + 1, hn =>
        have ih := enc_fit n (u / 128) (by omega)
        have hp := enc_pos (u / 128)
        obtain ⟨l, hl⟩ : ∃ l, (enc (u / 128)).length = l + 1 := ⟨(enc (u / 128)).length - 1, by omega⟩
        rw [enc_hi h]
        simp only [List.length_cons, Nat.add_sub_cancel]
        rw [hl] at ih ⊢
        simp only [Nat.add_sub_cancel] at ih
        constructor
        · have h1 := ih.1
          rw [Nat.div_lt_iff_lt_mul (by omega)] at h1
          rw [Nat.pow_succ]; exact h1
        · intro _
          by_cases hl0 : l = 0
          · subst hl0; omega
          · have h2 := ih.2 (by omega)
            rw [Nat.le_div_iff_mul_le (by omega)] at h2
            rw [Nat.pow_succ]; exact h2

/-- The number that bytes begin with, once u is read of i bytes: the number, how many bytes, the error. 'most': so many bytes at most. -/
def rd (most : Nat) : Nat → Nat → List Int → Nat × Nat × Nat
  | _, i, [] => if i < most then (0, 0, 2) else (0, 0, 3)
  | u, i, z :: zs =>
    if i < most then
      if 128 ≤ z then rd most (u + (z % 128).toNat * 128 ^ i) (i + 1) zs
      else if i = 9 ∧ 1 < z then (0, 0, 3)
      else if 0 < i ∧ z = 0 then (0, 0, 4)
      else (u + z.toNat * 128 ^ i, i + 1, 0)
    else (0, 0, 3)

/-- What is written is read, whatever stands behind it. -/
theorem rd_enc (most : Nat) (hm : most ≤ 10) (tail : List Int) : ∀ (n v u i : Nat), v ≤ n → i + (enc v).length ≤ most → (0 < i → 0 < v) → (v * 128 ^ i < 18446744073709551616) →
    rd most u i (enc v ++ tail) = (u + v * 128 ^ i, i + (enc v).length, 0)
  | n, v, u, i, hn, hl, hp, hv => by
    have h1 := enc_pos v
    by_cases h : v < 128
    · rw [enc_lo h] at hl ⊢
      simp only [List.length_cons, List.length_nil, Nat.zero_add] at hl
      simp only [List.cons_append, List.nil_append, rd]
      rw [if_pos (by omega), if_neg (by omega), if_neg, if_neg]
      · simp
      · intro hh; omega
      · rintro ⟨rfl, h9⟩; omega
    · match n, hn with
      | 0, hn => omega
      | n + 1, hn =>
        rw [enc_hi h] at hl ⊢
        simp only [List.length_cons] at hl
        simp only [List.cons_append, rd]
        rw [if_pos (by omega), if_pos (by omega)]
        have hdm : v = 128 * (v / 128) + v % 128 := (Nat.div_add_mod v 128).symm
        have hpow : (v / 128) * 128 ^ (i + 1) ≤ v * 128 ^ i := by
          rw [Nat.pow_succ, Nat.mul_comm (128 ^ i), ← Nat.mul_assoc]
          exact Nat.mul_le_mul_right _ (by omega)
        rw [rd_enc most hm tail n (v / 128) _ (i + 1) (by omega) (by omega) (by intro; omega) (by omega)]
        have e1 : (((v % 128 + 128 : Nat) : Int) % 128).toNat = v % 128 := by omega
        rw [e1]
        have e2 : u + v % 128 * 128 ^ i + v / 128 * 128 ^ (i + 1) = u + v * 128 ^ i := by
          rw [Nat.pow_succ, Nat.mul_comm (128 ^ i), ← Nat.mul_assoc, Nat.add_assoc, ← Nat.add_mul]
          congr 2; omega
        rw [e2]
        simp only [List.length_cons, Prod.mk.injEq, and_true, true_and]
        omega

/-- What is read has just those bytes. -/
theorem rd_back (most : Nat) : ∀ (zs : List Int) (u i : Nat), (∀ z ∈ zs, 0 ≤ z ∧ z ≤ 255) → (rd most u i zs).2.2 = 0 →
    ∃ v, (rd most u i zs).1 = u + v * 128 ^ i ∧ (rd most u i zs).2.1 = i + (enc v).length ∧ i + (enc v).length ≤ most ∧ (enc v).length ≤ zs.length ∧ zs.take (enc v).length = enc v ∧ (0 < i → 0 < v)
  | [], u, i, _, h => by
    simp only [rd] at h
    split at h <;> simp at h
  | z :: zs, u, i, hz, h => by
    have hzb := hz z (by simp)
    simp only [rd] at h ⊢
    by_cases h0 : i < most
    · rw [if_pos h0] at h ⊢
      by_cases h1 : 128 ≤ z
      · rw [if_pos h1] at h ⊢
        obtain ⟨v, e1, e2, e3, e3', e4, e5⟩ := rd_back most zs _ (i + 1) (fun y hy => hz y (by simp [hy])) h
        have hv := e5 (by omega)
        have hd : (v * 128 + (z % 128).toNat) / 128 = v := by omega
        have hm : (v * 128 + (z % 128).toNat) % 128 = (z % 128).toNat := by omega
        have he : enc (v * 128 + (z % 128).toNat) = z :: enc v := by
          rw [enc_hi (by omega), hd, hm]
          congr 1
          omega
        refine ⟨v * 128 + (z % 128).toNat, ?_, ?_, ?_, ?_, ?_, ?_⟩
        · rw [e1, Nat.add_assoc]
          congr 1
          rw [Nat.pow_succ, Nat.mul_comm (128 ^ i), ← Nat.mul_assoc, ← Nat.add_mul]
          congr 1; omega
        · rw [e2, he]; simp; omega
        · rw [he]; simp; omega
        · rw [he]; simp; omega
        · rw [he]; simp [e4]
        · intro _; omega
      · rw [if_neg h1] at h ⊢
        by_cases h2 : i = 9 ∧ 1 < z
        · rw [if_pos h2] at h; simp at h
        · rw [if_neg h2] at h ⊢
          by_cases h3 : 0 < i ∧ z = 0
          · rw [if_pos h3] at h; simp at h
          · rw [if_neg h3] at h ⊢
            have he : enc z.toNat = [z] := by rw [enc_lo (by omega)]; simp; omega
            exact ⟨z.toNat, rfl, by rw [he]; rfl, by rw [he]; simp; omega, by rw [he]; simp, by rw [he]; simp, by omega⟩
    · rw [if_neg h0] at h; simp at h

/-- The number read is one of 64 bits. -/
theorem rd_lt (most : Nat) (hm : most ≤ 10) : ∀ (zs : List Int) (u i : Nat), (∀ z ∈ zs, 0 ≤ z ∧ z ≤ 255) → (i ≤ 9 → u < 128 ^ i) → (rd most u i zs).1 < 18446744073709551616
  | [], u, i, _, _ => by simp only [rd]; split <;> simp
  | z :: zs, u, i, hz, hu => by
    have hzb := hz z (by simp)
    simp only [rd]
    split
    · rename_i him
      have h9 : i ≤ 9 := by omega
      have hu' := hu h9
      have hz7 : (z % 128).toNat ≤ 127 := by omega
      have hmul : (z % 128).toNat * 128 ^ i ≤ 127 * 128 ^ i := Nat.mul_le_mul_right _ hz7
      split
      · refine rd_lt most hm zs _ (i + 1) (fun y hy => hz y (by simp [hy])) (fun _ => ?_)
        rw [Nat.pow_succ]; omega
      · split
        · simp
        · split
          · simp
          · rename_i h1 h2 h3
            show u + z.toNat * 128 ^ i < _
            by_cases hi : i = 9
            · subst hi
              have : z.toNat ≤ 1 := by omega
              have : z.toNat * 128 ^ 9 ≤ 1 * 128 ^ 9 := Nat.mul_le_mul_right _ this
              omega
            · have e : 128 ^ i ≤ 128 ^ 8 := Nat.pow_le_pow_right (by omega) (by omega)
              have : z.toNat ≤ 127 := by omega
              have : z.toNat * 128 ^ i ≤ 127 * 128 ^ i := Nat.mul_le_mul_right _ this
              omega
    · simp
theorem rd_lt63 (zs : List Int) (hz : ∀ z ∈ zs, 0 ≤ z ∧ z ≤ 255) : (rd 9 0 0 zs).1 < 9223372036854775808 := by
  by_cases h : (rd 9 0 0 zs).2.2 = 0
  · obtain ⟨v, e1, -, e3, -⟩ := rd_back 9 zs 0 0 hz h
    have h1 := (enc_fit v v (Nat.le_refl _)).1
    have h2 : 128 ^ (enc v).length ≤ 128 ^ 9 := Nat.pow_le_pow_right (by omega) (by omega)
    rw [e1]; simp; omega
  · have : ∀ (ys : List Int) (u i : Nat), (rd 9 u i ys).2.2 ≠ 0 → (rd 9 u i ys).1 = 0 := by
      intro ys
      induction ys with
      | nil => intro u i _; simp only [rd]; split <;> rfl
      | cons y ys ih =>
        intro u i hne
        simp only [rd] at hne ⊢
        split
        · rename_i him
          rw [if_pos him] at hne
          split
          · rename_i h1
            rw [if_pos h1] at hne
            exact ih _ _ hne
          · rename_i h1
            rw [if_neg h1] at hne
            split
            · rfl
            · rename_i h2
              rw [if_neg h2] at hne
              split
              · rfl
              · rename_i h3
                rw [if_neg h3] at hne
                exact absurd rfl hne
        · rfl
    rw [this zs 0 0 h]; omega

/-- A signed number's place, and the number of a place. -/
def zz (n : Int) : Nat := if n < 0 then ((-n - 1) * 2 + 1).toNat else (n * 2).toNat
def unz (u : Nat) : Int := if u % 2 = 1 then -((u / 2 : Nat) : Int) - 1 else ((u / 2 : Nat) : Int)
theorem unz_zz (n : Int) : unz (zz n) = n := by
  unfold zz unz
  by_cases h : n < 0
  · rw [if_pos h]
    have e : ((-n - 1) * 2 + 1).toNat % 2 = 1 := by omega
    rw [if_pos e]; omega
  · rw [if_neg h]
    have e : ¬ (n * 2).toNat % 2 = 1 := by omega
    rw [if_neg e]; omega
theorem zz_unz (u : Nat) : zz (unz u) = u := by
  unfold zz unz
  by_cases h : u % 2 = 1
  · rw [if_pos h, if_pos (by omega)]; omega
  · rw [if_neg h, if_neg (by omega)]; omega
theorem zz_lt {n : Int} (h : -9223372036854775808 ≤ n ∧ n ≤ 9223372036854775807) : zz n < 18446744073709551616 := by
  unfold zz; split <;> omega

theorem rd_put' (m : Nat) (zs : List Int) (h : m < 9223372036854775808) : rd 9 0 0 (enc m ++ zs) = (m, (enc m).length, 0) := by
  have hl := enc_len9 h
  rw [rd_enc 9 (by omega) zs m m 0 0 (Nat.le_refl _) (by omega) (by omega) (by simp; omega)]
  simp
end Go.Proofs.YtpggjolbohffjaaDoor
