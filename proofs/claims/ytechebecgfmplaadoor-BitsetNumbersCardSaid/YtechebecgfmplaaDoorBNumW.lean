/- Plain mathematics of numbers in sets: put in, taken out, asked for. No condition. -/
import Derived.Test.YtechebecgfmplaaDoorBWord
namespace Go.Proofs.YtechebecgfmplaaDoor

/-- Is a number in a set? -/
def hasB (ws : List Nat) (n : Int) : Bool := decide (0 ≤ n) && (ws.getD (n.toNat / 64) 0).testBit (n.toNat % 64)
theorem hasB_nat (ws : List Nat) (m : Nat) : hasB ws (m : Int) = (ws.getD (m / 64) 0).testBit (m % 64) := by
  unfold hasB; rw [Int.toNat_natCast]; simp
theorem hasB_out {ws : List Nat} {n : Int} (h : n < 0 ∨ (ws.length : Int) ≤ n / 64) : hasB ws n = false := by
  unfold hasB
  rcases h with h | h
  · simp; omega
  · rw [getD_none (by omega)]; simp
theorem hasB_same {a b : List Nat} (h : ∀ i, a.getD i 0 = b.getD i 0) (n : Int) : hasB a n = hasB b n := by unfold hasB; rw [h]

theorem pow_lt {k : Nat} (h : k < 64) : 2 ^ k < 18446744073709551616 := Nat.pow_lt_pow_right (by omega) h
/-- A number's bit, in its word. -/
def bitAt (n : Int) (i : Nat) : Nat := if 0 ≤ n ∧ n < 4096 ∧ i = n.toNat / 64 then 2 ^ (n.toNat % 64) else 0
def bitsOf (l : List Int) (i : Nat) : Nat := l.foldl (fun x n => x ||| bitAt n i) 0
theorem bitAt_lt (n : Int) (i : Nat) : bitAt n i < 18446744073709551616 := by
  unfold bitAt; split
  · exact pow_lt (Nat.mod_lt _ (by omega))
  · omega
theorem bitsOf_snoc (l : List Int) (n : Int) (i : Nat) : bitsOf (l ++ [n]) i = bitsOf l i ||| bitAt n i := by simp [bitsOf]
theorem snoc_ind {P : List Int → Prop} (h0 : P []) (h1 : ∀ l n, P l → P (l ++ [n])) (l : List Int) : P l := by
  have h : ∀ k, ∀ l : List Int, l.length = k → P l := by
    intro k
    induction k with
    | zero => intro l hl; rw [List.eq_nil_of_length_eq_zero hl]; exact h0
    | succ k ih =>
      intro l hl
      have hne : l ≠ [] := by intro h; rw [h] at hl; simp at hl
      rw [← List.dropLast_concat_getLast hne]
      exact h1 _ _ (ih _ (by rw [List.length_dropLast, hl]; rfl))
  exact h l.length l rfl
theorem bitsOf_lt (i : Nat) (l : List Int) : bitsOf l i < 18446744073709551616 := by
  induction l using snoc_ind with
  | h0 => simp [bitsOf]
  | h1 l n ih => rw [bitsOf_snoc]; exact or_lt ih (bitAt_lt n i)
/-- What is put in is in. -/
theorem bitAt_bit (n : Int) (m : Nat) : (bitAt n (m / 64)).testBit (m % 64) = decide (n = (m : Int) ∧ m < 4096) := by
  unfold bitAt
  split
  · rename_i h
    rw [Nat.testBit_two_pow]
    rw [Bool.eq_iff_iff]
    simp only [decide_eq_true_eq]
    omega
  · rename_i h
    rw [Nat.zero_testBit]
    symm
    rw [decide_eq_false_iff_not]
    intro h2
    exact h ⟨by omega, by omega, by omega⟩
theorem bitsOf_bit (m : Nat) (l : List Int) : (bitsOf l (m / 64)).testBit (m % 64) = decide ((m : Int) ∈ l ∧ m < 4096) := by
  induction l using snoc_ind with
  | h0 => simp [bitsOf]
  | h1 l n ih =>
    rw [bitsOf_snoc, Nat.testBit_or, ih, bitAt_bit, Bool.eq_iff_iff]
    simp only [Bool.or_eq_true, decide_eq_true_eq, List.mem_append, List.mem_singleton]
    constructor
    · rintro (⟨h, h2⟩ | ⟨h, h2⟩)
      · exact ⟨.inl h, h2⟩
      · exact ⟨.inr h.symm, h2⟩
    · rintro ⟨h | h, h2⟩
      · exact .inl ⟨h, h2⟩
      · exact .inr ⟨h.symm, h2⟩

/-- So many words of 0 more. -/
def padW (s : List Nat) (j : Nat) : List Nat := s ++ List.replicate j 0
theorem padW_len (s : List Nat) (j : Nat) : (padW s j).length = s.length + j := by simp [padW]
theorem padW_getD (s : List Nat) (j i : Nat) : (padW s j).getD i 0 = s.getD i 0 := by
  unfold padW
  by_cases h : i < s.length
  · simp [List.getD, List.getElem?_append_left h]
  · rw [getD_none (by omega : s.length ≤ i)]
    simp only [List.getD, List.getElem?_append_right (by omega : s.length ≤ i), List.getElem?_replicate]
    split <;> simp
theorem padW_zero (s : List Nat) : padW s 0 = s := by simp [padW]
theorem padW_succ (s : List Nat) (j : Nat) : padW s (j + 1) = padW s j ++ [0] := by simp [padW, List.replicate_succ']
theorem padW_w64 {s : List Nat} (h : W64 s) (j : Nat) : W64 (padW s j) := W64.of_getD fun i => by rw [padW_getD]; exact h.getD i
/-- A set with one number more. -/
def putW (s : List Nat) (m : Nat) : List Nat := (padW s (m / 64 + 1 - s.length)).set (m / 64) (s.getD (m / 64) 0 ||| 2 ^ (m % 64))
theorem putW_len (s : List Nat) (m : Nat) : (putW s m).length = max s.length (m / 64 + 1) := by
  rw [putW, List.length_set, padW_len]; omega
theorem putW_getD (s : List Nat) (m i : Nat) : (putW s m).getD i 0 = s.getD i 0 ||| (if i = m / 64 then 2 ^ (m % 64) else 0) := by
  rw [putW, set_getD _ _ _ _ (by rw [padW_len]; omega), padW_getD]
  by_cases h : i = m / 64
  · subst h; simp
  · simp [h]
theorem putW_w64 {s : List Nat} (h : W64 s) (m : Nat) : W64 (putW s m) := W64.of_getD fun i => by
  rw [putW_getD]
  refine or_lt (h.getD i) ?_
  split
  · exact pow_lt (Nat.mod_lt _ (by omega))
  · omega
theorem putW_tidy {s : List Nat} (h : Tidy s) (m : Nat) : Tidy (putW s m) := fun _ => by
  rw [putW_len, putW_getD]
  have hp : 0 < 2 ^ (m % 64) := Nat.two_pow_pos _
  by_cases h1 : s.length ≤ m / 64 + 1
  · rw [if_pos (by omega)]
    intro h0
    have := (Nat.or_eq_zero_iff.1 h0).2
    omega
  · have hl := h (by omega)
    rw [show max s.length (m / 64 + 1) - 1 = s.length - 1 by omega]
    intro h0
    exact hl (Nat.or_eq_zero_iff.1 h0).1
/-- One number more, if it is one of sets. -/
def putI (s : List Nat) (n : Int) : List Nat := if 0 ≤ n ∧ n < 4096 then putW s n.toNat else s
theorem putI_getD (s : List Nat) (n : Int) (i : Nat) : (putI s n).getD i 0 = s.getD i 0 ||| bitAt n i := by
  unfold putI bitAt
  by_cases h : 0 ≤ n ∧ n < 4096
  · rw [if_pos h, putW_getD]
    by_cases h2 : i = n.toNat / 64
    · rw [if_pos h2, if_pos ⟨h.1, h.2, h2⟩]
    · rw [if_neg h2, if_neg (fun h3 => h2 h3.2.2)]
  · rw [if_neg h, if_neg (fun h3 => h ⟨h3.1, h3.2.1⟩), Nat.or_zero]
def putsL (s : List Nat) (l : List Int) : List Nat := l.foldl putI s
theorem putsL_snoc (s : List Nat) (l : List Int) (n : Int) : putsL s (l ++ [n]) = putI (putsL s l) n := by simp [putsL]
theorem putsL_getD (s : List Nat) (i : Nat) (l : List Int) : (putsL s l).getD i 0 = s.getD i 0 ||| bitsOf l i := by
  induction l using snoc_ind with
  | h0 => simp [putsL, bitsOf]
  | h1 l n ih => rw [putsL_snoc, putI_getD, ih, bitsOf_snoc, Nat.or_assoc]
theorem putI_w64 {s : List Nat} (h : W64 s) (n : Int) : W64 (putI s n) := by
  unfold putI; split
  · exact putW_w64 h _
  · exact h
theorem putsL_w64 {s : List Nat} (h : W64 s) (l : List Int) : W64 (putsL s l) := by
  induction l using snoc_ind with
  | h0 => exact h
  | h1 l n ih => rw [putsL_snoc]; exact putI_w64 ih n
theorem putI_len (s : List Nat) (n : Int) : (putI s n).length ≤ max s.length 64 := by
  unfold putI; split
  · rw [putW_len]; omega
  · omega
theorem putsL_len (s : List Nat) (l : List Int) : (putsL s l).length ≤ max s.length 64 := by
  induction l using snoc_ind with
  | h0 => exact Nat.le_max_left _ _
  | h1 l n ih => rw [putsL_snoc]; have := putI_len (putsL s l) n; omega
theorem putsL_tidy {s : List Nat} (h : Tidy s) (l : List Int) : Tidy (putsL s l) := by
  induction l using snoc_ind with
  | h0 => exact h
  | h1 l n ih =>
    rw [putsL_snoc]
    unfold putI; split
    · exact putW_tidy ih _
    · exact ih
/-- A set of numbers. -/
def ofL (l : List Int) : List Nat := putsL [] l
theorem tidy_nil : Tidy [] := fun h => by simp at h
theorem ofL_tidy (l : List Int) : Tidy (ofL l) := putsL_tidy tidy_nil l
theorem ofL_getD (l : List Int) (i : Nat) : (ofL l).getD i 0 = bitsOf l i := by rw [ofL, putsL_getD]; simp
theorem ofL_w64 (l : List Int) : W64 (ofL l) := putsL_w64 W64.nil l
theorem ofL_len (l : List Int) : (ofL l).length ≤ 64 := by have := putsL_len [] l; simpa [ofL] using this
theorem ofL_neat (l : List Int) : neat (putsL [] l) = ofL l := neat_of_tidy (ofL_tidy l)
/-- With numbers: joined with their set, or put in one by one. -/
theorem with_both (s : List Nat) (l : List Int) : joinL [s, ofL l] = neat (putsL s l) :=
  tidy_ext (neat_tidy _) (neat_tidy _) fun i => by
    show (joinL [s, ofL l]).getD i 0 = _
    rw [joinL_getD, orAll_two, ofL_getD, neat_getD, putsL_getD]

/-- One number less. -/
def remI (s : List Nat) (n : Int) : List Nat := if 0 ≤ n ∧ n / 64 < (s.length : Int) then s.set (n.toNat / 64) (andN (s.getD (n.toNat / 64) 0) (2 ^ (n.toNat % 64))) else s
def remsL (s : List Nat) (l : List Int) : List Nat := l.foldl remI s
theorem remsL_snoc (s : List Nat) (l : List Int) (n : Int) : remsL s (l ++ [n]) = remI (remsL s l) n := by simp [remsL]
theorem remI_len (s : List Nat) (n : Int) : (remI s n).length = s.length := by
  unfold remI; split <;> simp
theorem remsL_len (s : List Nat) (l : List Int) : (remsL s l).length = s.length := by
  induction l using snoc_ind with
  | h0 => rfl
  | h1 l n ih => rw [remsL_snoc, remI_len, ih]
theorem remI_w64 {s : List Nat} (h : W64 s) (n : Int) : W64 (remI s n) := by
  unfold remI
  split
  · rename_i hh
    exact W64.of_getD fun i => by
      rw [set_getD _ _ _ _ (by omega)]
      split
      · exact andN_lt (h.getD _) _
      · exact h.getD i
  · exact h
theorem remsL_w64 {s : List Nat} (h : W64 s) (l : List Int) : W64 (remsL s l) := by
  induction l using snoc_ind with
  | h0 => exact h
  | h1 l n ih => rw [remsL_snoc]; exact remI_w64 ih n
theorem remI_bit {s : List Nat} (h : W64 s) (n : Int) (m : Nat) : ((remI s n).getD (m / 64) 0).testBit (m % 64) = ((s.getD (m / 64) 0).testBit (m % 64) && !decide (n = (m : Int))) := by
  unfold remI
  split
  · rename_i hh
    rw [set_getD _ _ _ _ (by omega)]
    split
    · rename_i h2
      rw [← h2, andN_bit (h.getD _) (pow_lt (Nat.mod_lt _ (by omega))), Nat.testBit_two_pow]
      congr 2
      rw [Bool.eq_iff_iff]
      simp only [decide_eq_true_eq]
      omega
    · rename_i h2
      have : ¬ n = (m : Int) := by omega
      simp [this]
  · rename_i hh
    by_cases h2 : n = (m : Int)
    · subst h2
      rw [getD_none (by omega)]
      simp
    · simp [h2]
theorem remsL_bit {s : List Nat} (h : W64 s) (m : Nat) (l : List Int) : ((remsL s l).getD (m / 64) 0).testBit (m % 64) = ((s.getD (m / 64) 0).testBit (m % 64) && !decide ((m : Int) ∈ l)) := by
  induction l using snoc_ind with
  | h0 => simp [remsL]
  | h1 l n ih =>
    rw [remsL_snoc, remI_bit (remsL_w64 h l), ih]
    by_cases h1 : (m : Int) ∈ l
    · simp [h1]
    · by_cases h2 : n = (m : Int)
      · simp [h2]
      · have h3 : ¬ (m : Int) = n := fun e => h2 e.symm
        simp [h1, h2, h3]
/-- A set without numbers. -/
def withoutL (s : List Nat) (l : List Int) : List Nat := neat (remsL s l)
theorem hasB_with (s : List Nat) (l : List Int) (m : Nat) : hasB (joinL [s, ofL l]) (m : Int) = (hasB s (m : Int) || decide ((m : Int) ∈ l ∧ m < 4096)) := by
  rw [hasB_nat, hasB_nat, joinL_getD, orAll_two, ofL_getD, Nat.testBit_or, bitsOf_bit]
theorem hasB_without {s : List Nat} (h : W64 s) (l : List Int) (m : Nat) : hasB (withoutL s l) (m : Int) = (hasB s (m : Int) && !decide ((m : Int) ∈ l)) := by
  rw [hasB_nat, hasB_nat, withoutL, neat_getD, remsL_bit h]
theorem withoutL_w64 {s : List Nat} (h : W64 s) (l : List Int) : W64 (withoutL s l) := (remsL_w64 h l).neat
theorem withoutL_len (s : List Nat) (l : List Int) : (withoutL s l).length ≤ s.length := by
  have := neat_le (remsL s l)
  rwa [remsL_len] at this
end Go.Proofs.YtechebecgfmplaaDoor
