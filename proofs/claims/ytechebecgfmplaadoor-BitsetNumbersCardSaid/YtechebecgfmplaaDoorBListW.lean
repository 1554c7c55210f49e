/- Plain mathematics of a set's numbers, rising: word by word, bit by bit. No condition. -/
import Derived.Test.YtechebecgfmplaaDoorBNumW
import Derived.Lib.TrailingZeros
namespace Go.Proofs.YtechebecgfmplaaDoor

/-- The bits of a word from place i on, of so many places. -/
def bitsF : Nat → Nat → Nat → List Nat
  | 0, _, _ => []
  | n + 1, i, x => if x.testBit i then i :: bitsF n (i + 1) x else bitsF n (i + 1) x
theorem bitsF_snoc (x : Nat) : ∀ n i, bitsF (n + 1) i x = bitsF n i x ++ (if x.testBit (i + n) then [i + n] else [])
  | 0, i => by simp [bitsF]
  | n + 1, i => by
    rw [bitsF, bitsF_snoc x n (i + 1), bitsF, show i + 1 + n = i + (n + 1) by omega]
    split <;> simp
theorem bitsF_congr {x y : Nat} : ∀ n i, (∀ j, i ≤ j → x.testBit j = y.testBit j) → bitsF n i x = bitsF n i y
  | 0, _, _ => rfl
  | n + 1, i, h => by
    rw [bitsF, bitsF, h i (Nat.le_refl _), bitsF_congr n (i + 1) fun j hj => h j (by omega)]
theorem bitsF_zero : ∀ n i, bitsF n i 0 = []
  | 0, _ => rfl
  | n + 1, i => by rw [bitsF, bitsF_zero n (i + 1)]; simp
/-- The lowest bit first, then the others. -/
theorem bitsF_low {x y k : Nat} (hk : x.testBit k = true) (hlo : ∀ j, j < k → x.testBit j = false) (hy : ∀ j, j ≤ k → y.testBit j = false) (hxy : ∀ j, k < j → x.testBit j = y.testBit j) :
    ∀ n i, i ≤ k → k < i + n → bitsF n i x = k :: bitsF n i y
  | 0, i, h1, h2 => by omega
  | n + 1, i, h1, h2 => by
    by_cases h : i = k
    · subst h
      rw [bitsF, bitsF, hk, hy i (Nat.le_refl _), bitsF_congr n (i + 1) fun j hj => hxy j (by omega)]
      simp
    · rw [bitsF, bitsF, hlo i (by omega), hy i (by omega), bitsF_low hk hlo hy hxy n (i + 1) (by omega) (by omega)]
      simp
theorem pow_cut (k m j : Nat) : (2 ^ k * (2 * m + 1)).testBit j = if j < k then false else if j = k then true else m.testBit (j - k - 1) := by
  rw [Nat.testBit_two_pow_mul]
  by_cases h : j < k
  · simp [h]; omega
  · rw [if_neg h]
    by_cases h2 : j = k
    · subst h2; simp
    · rw [if_neg h2, show j - k = (j - k - 1) + 1 by omega, Nat.testBit_succ, show (2 * m + 1) / 2 = m by omega]
      simp; omega
theorem pow_less (k m j : Nat) : (2 ^ k * (2 * m + 1) - 1).testBit j = if j < k then true else if j = k then false else m.testBit (j - k - 1) := by
  have hp : 0 < 2 ^ k := Nat.two_pow_pos _
  have e : 2 ^ k * (2 * m + 1) - 1 = 2 ^ k * (2 * m) + (2 ^ k - 1) := by
    rw [Nat.mul_add, Nat.mul_one]; omega
  rw [e, Nat.testBit_two_pow_mul_add _ (by omega)]
  by_cases h : j < k
  · rw [if_pos h, if_pos h, Nat.testBit_two_pow_sub_one]; simpa using h
  · rw [if_neg h, if_neg h]
    by_cases h2 : j = k
    · subst h2; simp
    · rw [if_neg h2, show (2 * m).testBit (j - k) = (2 * m).testBit ((j - k - 1) + 1) by rw [show j - k - 1 + 1 = j - k by omega], Nat.testBit_succ, show (2 * m) / 2 = m by omega]
/-- A round of the walk through a word. -/
theorem bits_round {x : Nat} (h0 : x ≠ 0) (hx : x < 18446744073709551616) : bitsF 64 0 x = Lib.ctz 64 x :: bitsF 64 0 (x &&& (x - 1)) ∧ Lib.ctz 64 x < 64 ∧ (x &&& (x - 1)) < x := by
  obtain ⟨m, hm, hk⟩ := Lib.ctzFrom_spec 64 x (by omega) (by omega)
  have hc : Lib.ctz 64 x = Lib.ctzFrom 64 x := by unfold Lib.ctz; rw [if_neg h0]
  rw [hc]
  generalize Lib.ctzFrom 64 x = k at *
  have b1 : ∀ j, x.testBit j = if j < k then false else if j = k then true else m.testBit (j - k - 1) := fun j => by rw [hm, pow_cut]
  have b2 : ∀ j, (x &&& (x - 1)).testBit j = if j ≤ k then false else m.testBit (j - k - 1) := fun j => by
    rw [Nat.testBit_and, b1 j, hm, pow_less]
    by_cases h : j < k
    · rw [if_pos h, if_pos (by omega : j ≤ k)]; rfl
    · rw [if_neg h, if_neg h]
      by_cases h2 : j = k
      · rw [if_pos h2, if_pos h2, if_pos (by omega)]; simp
      · rw [if_neg h2, if_neg h2, if_neg (by omega)]; simp
  refine ⟨bitsF_low (by rw [b1]; simp) (fun j hj => by rw [b1, if_pos hj]) (fun j hj => by rw [b2, if_pos hj]) (fun j hj => by rw [b1, b2, if_neg (by omega), if_neg (by omega), if_neg (by omega)]) 64 0 (by omega) (by omega), hk, ?_⟩
  have hle : x &&& (x - 1) ≤ x - 1 := Nat.and_le_right
  omega

/-- The numbers below K that are in a set. -/
def listN (s : List Nat) : Nat → List Int
  | 0 => []
  | K + 1 => listN s K ++ (if hasB s (K : Int) then [(K : Int)] else [])
theorem listN_len (s : List Nat) : ∀ K, (listN s K).length ≤ K
  | 0 => Nat.le_refl _
  | K + 1 => by
    have := listN_len s K
    rw [listN, List.length_append]
    split <;> simp <;> omega
theorem listN_mem (s : List Nat) (z : Int) : ∀ K, z ∈ listN s K ↔ (0 ≤ z ∧ z < (K : Int) ∧ hasB s z = true)
  | 0 => by simp [listN]; omega
  | K + 1 => by
    rw [listN, List.mem_append, listN_mem s z K]
    by_cases hz : z = (K : Int)
    · subst hz
      split
      · rename_i h; simp [h]; omega
      · rename_i h; simp [h]
    · have hz2 : z ∈ (if hasB s (K : Int) then [(K : Int)] else []) ↔ False := by
        split
        · simp [hz]
        · simp
      rw [hz2, or_false]
      constructor
      · rintro ⟨h1, h2, h3⟩; exact ⟨h1, by omega, h3⟩
      · rintro ⟨h1, h2, h3⟩; exact ⟨h1, by omega, h3⟩
theorem listN_rises (s : List Nat) : ∀ K, (listN s K).Pairwise (· < ·)
  | 0 => List.Pairwise.nil
  | K + 1 => by
    rw [listN, List.pairwise_append]
    refine ⟨listN_rises s K, ?_, fun a ha b hb => ?_⟩
    · split
      · exact List.pairwise_singleton _ _
      · exact List.Pairwise.nil
    · have h1 := (listN_mem s a K).1 ha
      split at hb
      · simp at hb; omega
      · simp at hb
/-- A word's numbers, from where the words ahead of it end. -/
theorem listN_word (s : List Nat) (i : Nat) : ∀ j, j ≤ 64 → listN s (64 * i + j) = listN s (64 * i) ++ (bitsF j 0 (s.getD i 0)).map fun (b : Nat) => ((64 * i + b : Nat) : Int)
  | 0, _ => by simp [bitsF]
  | j + 1, hj => by
    rw [← Nat.add_assoc, listN, listN_word s i j (by omega), bitsF_snoc, List.map_append, List.append_assoc]
    congr 2
    have h : hasB s ((64 * i + j : Nat) : Int) = (s.getD i 0).testBit (0 + j) := by
      rw [hasB_nat, show (64 * i + j) / 64 = i by omega, show (64 * i + j) % 64 = j by omega, Nat.zero_add]
    rw [h]
    split <;> simp
theorem listN_next (s : List Nat) (i : Nat) : listN s (64 * (i + 1)) = listN s (64 * i) ++ (bitsF 64 0 (s.getD i 0)).map fun (b : Nat) => ((64 * i + b : Nat) : Int) := by
  rw [show 64 * (i + 1) = 64 * i + 64 by omega, listN_word s i 64 (Nat.le_refl _)]
theorem bitsF_pop (x : Nat) : ∀ j, (bitsF j 0 x).length = cntF (fun i => (x.testBit i).toNat) j
  | 0 => rfl
  | j + 1 => by
    rw [bitsF_snoc, List.length_append, bitsF_pop x j, cntF, Nat.zero_add]
    cases x.testBit j <;> simp
/-- A set's numbers. -/
def listL (s : List Nat) : List Int := listN s (64 * s.length)
theorem listN_cnt (s : List Nat) : ∀ i, (listN s (64 * i)).length = cntF (fun i => pop (s.getD i 0)) i
  | 0 => rfl
  | i + 1 => by rw [listN_next, List.length_append, listN_cnt s i, List.length_map, bitsF_pop]; rfl
theorem listL_cnt (s : List Nat) : (listL s).length = cnt s := listN_cnt s s.length
theorem listL_mem {s : List Nat} {z : Int} : z ∈ listL s ↔ hasB s z = true := by
  rw [listL, listN_mem]
  constructor
  · rintro ⟨-, -, h⟩; exact h
  · intro h
    refine ⟨?_, ?_, h⟩
    · unfold hasB at h; simp at h; omega
    · rcases Int.lt_or_le z ((64 * s.length : Nat) : Int) with h2 | h2
      · exact h2
      · rw [hasB_out (.inr (by omega))] at h; cases h
/-- A set is the set of its numbers. -/
theorem of_list {s : List Nat} (hs : W64 s) (hl : s.length ≤ 64) : neat (ofL (listL s)) = neat s := neat_eq fun i => by
  rw [ofL_getD]
  apply Nat.eq_of_testBit_eq
  intro j
  by_cases hj : j < 64
  · have h := bitsOf_bit (64 * i + j) (listL s)
    rw [show (64 * i + j) / 64 = i by omega, show (64 * i + j) % 64 = j by omega] at h
    rw [h, Bool.eq_iff_iff, decide_eq_true_eq, listL_mem, hasB_nat, show (64 * i + j) / 64 = i by omega, show (64 * i + j) % 64 = j by omega]
    constructor
    · rintro ⟨h1, -⟩; exact h1
    · intro h1
      refine ⟨h1, ?_⟩
      by_cases hi : i < s.length
      · omega
      · rw [getD_none (by omega)] at h1; simp at h1
  · rw [bit64 (bitsOf_lt i _) (by omega), bit64 (hs.getD i) (by omega)]
/-- What the walks meet of a list that rises. -/
theorem listL_at {s : List Nat} {k : Nat} {z : Int} (h : (listL s)[k]? = some z) : hasB s z = true ∧ 0 ≤ z ∧ z < ((64 * s.length : Nat) : Int) := by
  have h1 := (listN_mem s z _).1 (List.mem_of_getElem? h)
  exact ⟨h1.2.2, h1.1, h1.2.1⟩
theorem listL_lt {s : List Nat} {k : Nat} {y z : Int} (h1 : (listL s)[k]? = some y) (h2 : (listL s)[k + 1]? = some z) : y < z := by
  obtain ⟨hk1, rfl⟩ := List.getElem?_eq_some_iff.1 h1
  obtain ⟨hk2, rfl⟩ := List.getElem?_eq_some_iff.1 h2
  exact List.pairwise_iff_getElem.1 (listN_rises s _) k (k + 1) hk1 hk2 (by omega)
theorem listL_len (s : List Nat) : (listL s).length ≤ 64 * s.length := listN_len s _
end Go.Proofs.YtechebecgfmplaaDoor
