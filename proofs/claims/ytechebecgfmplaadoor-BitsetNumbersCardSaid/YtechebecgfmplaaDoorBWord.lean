/- Plain mathematics of sets as words of 64 bits: lists of words, one way of them, joined, met, taken away, counted. No condition. -/
import Derived.WalkKit
import Derived.Laws.BitsAllLaws
namespace Go.Proofs.YtechebecgfmplaaDoor

/-- Words as the numbers that memory holds. -/
def nI (l : List Nat) : List Int := l.map fun (n : Nat) => (n : Int)
theorem nI_len (l : List Nat) : (nI l).length = l.length := by simp [nI]
theorem nI_getD (l : List Nat) (j : Nat) : (nI l).getD j 0 = ((l.getD j 0 : Nat) : Int) := by
  simp only [nI, List.getD, List.getElem?_map]
  cases l[j]? <;> simp
theorem nI_take (l : List Nat) (k : Nat) : nI (l.take k) = (nI l).take k := by simp [nI]
theorem nI_set (l : List Nat) (k x : Nat) : nI (l.set k x) = (nI l).set k (x : Int) := by simp [nI, List.map_set]
theorem nI_append (a b : List Nat) : nI (a ++ b) = nI a ++ nI b := by simp [nI]
theorem nI_of (zs : List Int) (h : ∀ z ∈ zs, 0 ≤ z) : zs = nI (zs.map Int.toNat) := by
  induction zs with
  | nil => rfl
  | cons z zs ih =>
    have h0 := h z (List.mem_cons_self ..)
    have h1 := ih fun y hy => h y (List.mem_cons_of_mem _ hy)
    simp only [nI, List.map_cons, List.cons.injEq]
    exact ⟨by omega, h1⟩

/-- All words of 64 bits. -/
def W64 (l : List Nat) : Prop := ∀ x ∈ l, x < 18446744073709551616
theorem W64.getD {l : List Nat} (h : W64 l) (i : Nat) : l.getD i 0 < 18446744073709551616 := by
  by_cases hi : i < l.length
  · have := h _ (List.getElem_mem hi)
    simpa [List.getD, List.getElem?_eq_getElem hi] using this
  · simp [List.getD, List.getElem?_eq_none (by omega : l.length ≤ i)]
theorem W64.nil : W64 [] := by simp [W64]
theorem W64.of_getD {l : List Nat} (h : ∀ i, l.getD i 0 < 18446744073709551616) : W64 l := fun x hx => by
  obtain ⟨i, hi, rfl⟩ := List.getElem_of_mem hx
  have := h i
  simpa [List.getD, List.getElem?_eq_getElem hi] using this
theorem W64.take {l : List Nat} (h : W64 l) (k : Nat) : W64 (l.take k) := fun x hx => h x (List.mem_of_mem_take hx)

theorem getD_none {l : List Nat} {i : Nat} (h : l.length ≤ i) : l.getD i 0 = 0 := by simp [List.getD, List.getElem?_eq_none h]
theorem getD_some {l : List Nat} {i : Nat} {x : Nat} (h : l[i]? = some x) : l.getD i 0 = x := by simp [List.getD, h]
theorem get_some {l : List Nat} {i : Nat} (h : i < l.length) : l[i]? = some (l.getD i 0) := by simp [List.getD, List.getElem?_eq_getElem h]
theorem ext_getD {a b : List Nat} (hl : a.length = b.length) (h : ∀ i, i < a.length → a.getD i 0 = b.getD i 0) : a = b := by
  apply List.ext_getElem? 
  intro i
  by_cases hi : i < a.length
  · rw [get_some hi, get_some (hl ▸ hi), h i hi]
  · rw [List.getElem?_eq_none (by omega), List.getElem?_eq_none (by omega)]
theorem take_getD (l : List Nat) (k i : Nat) : (l.take k).getD i 0 = if i < k then l.getD i 0 else 0 := by
  by_cases h : i < k <;> simp [List.getD, List.getElem?_take, h]
theorem set_getD (l : List Nat) (k x i : Nat) (hk : k < l.length) : (l.set k x).getD i 0 = if i = k then x else l.getD i 0 := by
  by_cases h : k = i
  · subst h; simp [List.getD, hk]
  · simp [List.getD, List.getElem?_set, h, Ne.symm h]

/-- So many of the first k words remain once words of 0 at their end are gone. -/
def nlen (l : List Nat) : Nat → Nat
  | 0 => 0
  | k + 1 => if l.getD k 0 = 0 then nlen l k else k + 1
theorem nlen_le (l : List Nat) : ∀ k, nlen l k ≤ k
  | 0 => Nat.le_refl _
  | k + 1 => by
    have := nlen_le l k
    unfold nlen; split <;> omega
theorem nlen_zero (l : List Nat) : ∀ k i, nlen l k ≤ i → i < k → l.getD i 0 = 0
  | 0, i, _, h => by omega
  | k + 1, i, h1, h2 => by
    unfold nlen at h1
    split at h1
    · by_cases hi : i = k
      · subst hi; assumption
      · exact nlen_zero l k i h1 (by omega)
    · omega
theorem nlen_last (l : List Nat) : ∀ k, 0 < nlen l k → l.getD (nlen l k - 1) 0 ≠ 0
  | 0, h => by simp [nlen] at h
  | k + 1, h => by
    unfold nlen at h ⊢
    split
    · rename_i h0
      rw [if_pos h0] at h
      exact nlen_last l k h
    · simpa using ‹¬ _›
theorem nlen_stop {l : List Nat} {k x : Nat} (h : l[k]? = some x) (hx : x ≠ 0) : nlen l (k + 1) = k + 1 := by
  unfold nlen; rw [getD_some h, if_neg hx]
theorem nlen_go {l : List Nat} {k : Nat} (h : l[k]? = some 0) : nlen l (k + 1) = nlen l k := by
  rw [nlen, getD_some h, if_pos rfl]
/-- A set in one way. -/
def neat (l : List Nat) : List Nat := l.take (nlen l l.length)
def Tidy (l : List Nat) : Prop := 0 < l.length → l.getD (l.length - 1) 0 ≠ 0
theorem neat_len (l : List Nat) : (neat l).length = nlen l l.length := by
  have := nlen_le l l.length
  simp [neat]; omega
theorem neat_le (l : List Nat) : (neat l).length ≤ l.length := by rw [neat_len]; exact nlen_le l _
theorem neat_getD (l : List Nat) (i : Nat) : (neat l).getD i 0 = l.getD i 0 := by
  rw [neat, take_getD]
  split
  · rfl
  · by_cases hi : i < l.length
    · rw [nlen_zero l l.length i (by omega) hi]
    · rw [getD_none (by omega)]
theorem neat_tidy (l : List Nat) : Tidy (neat l) := fun h => by
  rw [neat_getD, neat_len]
  rw [neat_len] at h
  exact nlen_last l _ h
theorem tidy_le {a b : List Nat} (ha : Tidy a) (h : ∀ i, a.getD i 0 = b.getD i 0) : a.length ≤ b.length := by
  by_cases h0 : 0 < a.length
  · have h1 := ha h0
    rw [h] at h1
    rcases Nat.lt_or_ge (a.length - 1) b.length with h2 | h2
    · omega
    · exact absurd (getD_none h2) h1
  · omega
theorem tidy_ext {a b : List Nat} (ha : Tidy a) (hb : Tidy b) (h : ∀ i, a.getD i 0 = b.getD i 0) : a = b :=
  ext_getD (Nat.le_antisymm (tidy_le ha h) (tidy_le hb fun i => (h i).symm)) fun i _ => h i
theorem neat_eq {a b : List Nat} (h : ∀ i, a.getD i 0 = b.getD i 0) : neat a = neat b :=
  tidy_ext (neat_tidy a) (neat_tidy b) fun i => by rw [neat_getD, neat_getD, h]
theorem neat_of_tidy {a : List Nat} (h : Tidy a) : neat a = a := tidy_ext (neat_tidy a) h (neat_getD a)
theorem neat_iff {a b : List Nat} : neat a = neat b ↔ ∀ i, a.getD i 0 = b.getD i 0 :=
  ⟨fun h i => by rw [← neat_getD a, ← neat_getD b, h], neat_eq⟩
theorem neat_nil_iff {a : List Nat} : (neat a).length = 0 ↔ ∀ i, a.getD i 0 = 0 := by
  constructor
  · intro h i
    rw [← neat_getD, List.eq_nil_of_length_eq_zero h]; simp
  · intro h
    rcases Nat.eq_zero_or_pos (neat a).length with h0 | h0
    · exact h0
    · exact absurd (by rw [neat_getD, h]) (neat_tidy a h0)
theorem W64.neat {l : List Nat} (h : W64 l) : W64 (neat l) := h.take _

/-- Words by their places. -/
def mapR (m : Nat) (f : Nat → Nat) : List Nat := (List.range m).map f
theorem mapR_len (m : Nat) (f : Nat → Nat) : (mapR m f).length = m := by simp [mapR]
theorem mapR_getD (m : Nat) (f : Nat → Nat) (i : Nat) : (mapR m f).getD i 0 = if i < m then f i else 0 := by
  by_cases h : i < m <;> simp [mapR, List.getD, List.getElem?_map, List.getElem?_range, h]
theorem mapR_snoc (m : Nat) (f : Nat → Nat) : mapR (m + 1) f = mapR m f ++ [f m] := by simp [mapR, List.range_succ]
theorem mapR_getD_all {m : Nat} {f : Nat → Nat} (h : ∀ i, m ≤ i → f i = 0) (i : Nat) : (mapR m f).getD i 0 = f i := by
  rw [mapR_getD]; split
  · rfl
  · exact (h i (by omega)).symm

/-- What is in the first one alone: of two words. -/
def andN (x y : Nat) : Nat := x &&& (18446744073709551615 - y)
theorem bit64 {x i : Nat} (hx : x < 18446744073709551616) (hi : 64 ≤ i) : x.testBit i = false :=
  Nat.testBit_lt_two_pow (Nat.lt_of_lt_of_le (show x < 2 ^ 64 by omega) (Nat.pow_le_pow_right (by omega) hi))
theorem andN_bit {x y : Nat} (hx : x < 18446744073709551616) (hy : y < 18446744073709551616) (i : Nat) : (andN x y).testBit i = (x.testBit i && !y.testBit i) := by
  have h2 : 18446744073709551615 - y = 2 ^ 64 - (y + 1) := by omega
  rw [andN, h2, Nat.testBit_and, Nat.testBit_two_pow_sub_succ (by omega)]
  by_cases hi : i < 64
  · simp [hi]
  · simp [bit64 hx (by omega : 64 ≤ i)]
theorem or_lt {x y : Nat} (hx : x < 18446744073709551616) (hy : y < 18446744073709551616) : x ||| y < 18446744073709551616 := Nat.or_lt_two_pow (n := 64) (by omega) (by omega)
theorem and_lt {x : Nat} (hx : x < 18446744073709551616) (y : Nat) : x &&& y < 18446744073709551616 := Nat.lt_of_le_of_lt Nat.and_le_left hx
theorem andN_lt {x : Nat} (hx : x < 18446744073709551616) (y : Nat) : andN x y < 18446744073709551616 := and_lt hx _
theorem andN_zero_r {x : Nat} (hx : x < 18446744073709551616) : andN x 0 = x := Nat.eq_of_testBit_eq fun i => by rw [andN_bit hx (by omega)]; simp
theorem andN_zero_l (y : Nat) : andN 0 y = 0 := by simp [andN]

/-- The first k words made one by a way, the others as they were: what a walk through two sets makes of the first one. -/
def foldW (f : Nat → Nat → Nat) (a b : List Nat) (k : Nat) : List Nat := mapR a.length fun i => if i < k then f (a.getD i 0) (b.getD i 0) else a.getD i 0
theorem foldW_len (f : Nat → Nat → Nat) (a b : List Nat) (k : Nat) : (foldW f a b k).length = a.length := mapR_len _ _
theorem foldW_zero (f : Nat → Nat → Nat) (a b : List Nat) : foldW f a b 0 = a := ext_getD (foldW_len ..) fun i hi => by
  rw [foldW_len] at hi
  rw [foldW, mapR_getD, if_pos hi, if_neg (by omega)]
theorem foldW_getD (f : Nat → Nat → Nat) (a b : List Nat) (k i : Nat) : (foldW f a b k).getD i 0 = if i < a.length then (if i < k then f (a.getD i 0) (b.getD i 0) else a.getD i 0) else 0 := mapR_getD _ _ _
theorem foldW_get {f : Nat → Nat → Nat} {a b : List Nat} {k : Nat} (hk : k < a.length) : (foldW f a b k)[k]? = some (a.getD k 0) := by
  rw [get_some (by rw [foldW_len]; exact hk), foldW_getD, if_pos hk, if_neg (by omega)]
theorem foldW_step {f : Nat → Nat → Nat} {a b : List Nat} {k : Nat} (hk : k < a.length) : (foldW f a b k).set k (f (a.getD k 0) (b.getD k 0)) = foldW f a b (k + 1) := ext_getD (by simp [foldW_len]) fun i hi => by
  rw [List.length_set, foldW_len] at hi
  rw [set_getD _ _ _ _ (by rw [foldW_len]; exact hk), foldW_getD, foldW_getD, if_pos hi, if_pos hi]
  by_cases h : i = k
  · subst h; simp
  · rw [if_neg h]
    by_cases h2 : i < k
    · rw [if_pos h2, if_pos (by omega)]
    · rw [if_neg h2, if_neg (by omega)]
theorem foldW_w64 {f : Nat → Nat → Nat} {a b : List Nat} (k : Nat) (hf : ∀ x y, x < 18446744073709551616 → y < 18446744073709551616 → f x y < 18446744073709551616) (ha : W64 a) (hb : W64 b) : W64 (foldW f a b k) := W64.of_getD fun i => by
  rw [foldW_getD]
  have h1 := ha.getD i
  have h2 := hf _ _ (ha.getD i) (hb.getD i)
  split
  · split
    · exact h2
    · exact h1
  · omega

/-- What is in one of them, by its place. -/
def orAll (ls : List (List Nat)) (i : Nat) : Nat := ls.foldl (fun x l => x ||| l.getD i 0) 0
theorem orAll_snoc (ls : List (List Nat)) (l : List Nat) (i : Nat) : orAll (ls ++ [l]) i = orAll ls i ||| l.getD i 0 := by simp [orAll]
theorem orAll_two (a b : List Nat) (i : Nat) : orAll [a, b] i = a.getD i 0 ||| b.getD i 0 := by simp [orAll]
theorem orAll_three (a b c : List Nat) (i : Nat) : orAll [a, b, c] i = a.getD i 0 ||| b.getD i 0 ||| c.getD i 0 := by simp [orAll]
theorem orAll_lt : ∀ (ls : List (List Nat)) (i : Nat), (∀ l ∈ ls, W64 l) → orAll ls i < 18446744073709551616 := by
  intro ls i
  suffices h : ∀ (ls : List (List Nat)) (x : Nat), x < 18446744073709551616 → (∀ l ∈ ls, W64 l) → ls.foldl (fun x l => x ||| l.getD i 0) x < 18446744073709551616 from fun hw => h ls 0 (by omega) hw
  intro ls
  induction ls with
  | nil => intro x hx _; exact hx
  | cons l ls ih =>
    intro x hx hw
    rw [List.foldl_cons]
    exact ih _ (or_lt hx ((hw l (List.mem_cons_self ..)).getD i)) fun m hm => hw m (List.mem_cons_of_mem _ hm)
def maxLenL (ls : List (List Nat)) : Nat := ls.foldl (fun m l => max m l.length) 0
theorem maxLenL_snoc (ls : List (List Nat)) (l : List Nat) : maxLenL (ls ++ [l]) = max (maxLenL ls) l.length := by simp [maxLenL]
theorem maxLenL_ge {ls : List (List Nat)} {l : List Nat} (h : l ∈ ls) : l.length ≤ maxLenL ls := by
  suffices h2 : ∀ (ls : List (List Nat)) (m : Nat), m ≤ ls.foldl (fun m l => max m l.length) m ∧ (l ∈ ls → l.length ≤ ls.foldl (fun m l => max m l.length) m) from (h2 ls 0).2 h
  intro ls
  induction ls with
  | nil => intro m; exact ⟨Nat.le_refl _, by simp⟩
  | cons k ls ih =>
    intro m
    have h1 := ih (max m k.length)
    rw [List.foldl_cons]
    refine ⟨by omega, fun hm => ?_⟩
    rcases List.mem_cons.1 hm with rfl | hm
    · omega
    · exact h1.2 hm
theorem orAll_far {ls : List (List Nat)} {i : Nat} (h : maxLenL ls ≤ i) : orAll ls i = 0 := by
  suffices h2 : ∀ (ls : List (List Nat)), (∀ l ∈ ls, l.length ≤ i) → orAll ls i = 0 from h2 ls fun l hl => Nat.le_trans (maxLenL_ge hl) h
  intro ls
  suffices h3 : ∀ (ls : List (List Nat)) (x : Nat), (∀ l ∈ ls, l.length ≤ i) → ls.foldl (fun x l => x ||| l.getD i 0) x = x from fun hl => h3 ls 0 hl
  intro ls
  induction ls with
  | nil => intros; rfl
  | cons l ls ih =>
    intro x hl
    rw [List.foldl_cons, getD_none (hl l (List.mem_cons_self ..)), Nat.or_zero]
    exact ih x fun m hm => hl m (List.mem_cons_of_mem _ hm)
/-- So far joined: in as many words as the longest has. -/
def joinTo (m : Nat) (ls : List (List Nat)) : List Nat := mapR m (orAll ls)
theorem joinTo_nil (m : Nat) : joinTo m [] = List.replicate m 0 := ext_getD (by simp [joinTo, mapR_len]) fun i hi => by
  rw [joinTo, mapR_getD]
  by_cases h : i < m <;> simp [h, orAll, List.getD]
theorem joinTo_step {m : Nat} {ls : List (List Nat)} {l : List Nat} (hl : l.length ≤ m) : foldW (· ||| ·) (joinTo m ls) l (min m l.length) = joinTo m (ls ++ [l]) := ext_getD (by simp [joinTo, foldW_len, mapR_len]) fun i hi => by
  rw [foldW_len, joinTo, mapR_len] at hi
  rw [foldW_getD, joinTo, mapR_len, if_pos hi, mapR_getD, if_pos hi, joinTo, mapR_getD, if_pos hi, orAll_snoc]
  split
  · rfl
  · rw [getD_none (by omega : l.length ≤ i), Nat.or_zero]
/-- The sets that the document speaks of. -/
def joinL (ls : List (List Nat)) : List Nat := neat (joinTo (maxLenL ls) ls)
def meetL (a b : List Nat) : List Nat := neat (mapR (max a.length b.length) fun i => a.getD i 0 &&& b.getD i 0)
def lessL (a b : List Nat) : List Nat := neat (mapR (max a.length b.length) fun i => andN (a.getD i 0) (b.getD i 0))
theorem joinL_getD (ls : List (List Nat)) (i : Nat) : (joinL ls).getD i 0 = orAll ls i := by
  rw [joinL, neat_getD, joinTo, mapR_getD_all fun i => orAll_far]
theorem meetL_getD (a b : List Nat) (i : Nat) : (meetL a b).getD i 0 = a.getD i 0 &&& b.getD i 0 := by
  rw [meetL, neat_getD, mapR_getD_all]
  intro i hi
  show a.getD i 0 &&& b.getD i 0 = 0
  rw [getD_none (by omega : a.length ≤ i), Nat.zero_and]
theorem lessL_getD (a b : List Nat) (i : Nat) : (lessL a b).getD i 0 = andN (a.getD i 0) (b.getD i 0) := by
  rw [lessL, neat_getD, mapR_getD_all]
  intro i hi; rw [getD_none (by omega : a.length ≤ i), andN_zero_l]
theorem joinL_w64 {ls : List (List Nat)} (h : ∀ l ∈ ls, W64 l) : W64 (joinL ls) := W64.of_getD fun i => by rw [joinL_getD]; exact orAll_lt ls i h
theorem meetL_w64 {a b : List Nat} (h : W64 a) : W64 (meetL a b) := W64.of_getD fun i => by rw [meetL_getD]; exact and_lt (h.getD i) _
theorem lessL_w64 {a b : List Nat} (h : W64 a) : W64 (lessL a b) := W64.of_getD fun i => by rw [lessL_getD]; exact andN_lt (h.getD i) _
theorem joinL_le {ls : List (List Nat)} {m : Nat} (h : maxLenL ls ≤ m) : (joinL ls).length ≤ m := by
  have := neat_le (joinTo (maxLenL ls) ls)
  rw [joinTo, mapR_len] at this
  exact Nat.le_trans this h
theorem meetL_le (a b : List Nat) : (meetL a b).length ≤ max a.length b.length := by
  have := neat_le (mapR (max a.length b.length) fun i => a.getD i 0 &&& b.getD i 0)
  rwa [mapR_len] at this
theorem lessL_le (a b : List Nat) : (lessL a b).length ≤ max a.length b.length := by
  have := neat_le (mapR (max a.length b.length) fun i => andN (a.getD i 0) (b.getD i 0))
  rwa [mapR_len] at this

/-- What the walks make of a copy: met, and taken away. -/
theorem meet_walk (a b : List Nat) : neat (foldW (· &&& ·) (a.take (min a.length b.length)) b (min (a.take (min a.length b.length)).length b.length)) = meetL a b :=
  tidy_ext (neat_tidy _) (neat_tidy _) fun i => by
    show (neat _).getD i 0 = (meetL a b).getD i 0
    rw [neat_getD, meetL_getD, foldW_getD, List.length_take, take_getD]
    by_cases h : i < a.length
    · by_cases h2 : i < b.length
      · rw [if_pos (by omega), if_pos (by omega), if_pos (by omega)]
      · rw [if_neg (by omega), getD_none (by omega : b.length ≤ i), Nat.and_zero]
    · rw [if_neg (by omega), getD_none (by omega : a.length ≤ i), Nat.zero_and]
theorem less_walk {a b : List Nat} (ha : W64 a) : neat (foldW andN a b (min a.length b.length)) = lessL a b :=
  tidy_ext (neat_tidy _) (neat_tidy _) fun i => by
    show (neat _).getD i 0 = (lessL a b).getD i 0
    rw [neat_getD, lessL_getD, foldW_getD]
    by_cases h : i < a.length
    · by_cases h2 : i < b.length
      · rw [if_pos h, if_pos (by omega)]
      · rw [if_pos h, if_neg (by omega), getD_none (by omega : b.length ≤ i), andN_zero_r (ha.getD i)]
    · rw [if_neg h, getD_none (by omega : a.length ≤ i), andN_zero_l]

/-- A sum over places. -/
def cntF (f : Nat → Nat) : Nat → Nat
  | 0 => 0
  | m + 1 => cntF f m + f m
theorem cntF_add (f g : Nat → Nat) : ∀ m, cntF (fun i => f i + g i) m = cntF f m + cntF g m
  | 0 => rfl
  | m + 1 => by simp only [cntF, cntF_add f g m]; omega
theorem cntF_congr {f g : Nat → Nat} : ∀ {m}, (∀ i, i < m → f i = g i) → cntF f m = cntF g m
  | 0, _ => rfl
  | m + 1, h => by rw [cntF, cntF, cntF_congr (m := m) fun i hi => h i (by omega), h m (by omega)]
theorem cntF_far {f : Nat → Nat} {m : Nat} (h : ∀ i, m ≤ i → f i = 0) : ∀ n, m ≤ n → cntF f n = cntF f m
  | 0, hn => by rw [show m = 0 by omega]
  | n + 1, hn => by
    by_cases h0 : m = n + 1
    · rw [h0]
    · rw [cntF, cntF_far h n (by omega), h n (by omega), Nat.add_zero]
theorem cntF_le {f : Nat → Nat} {b : Nat} (h : ∀ i, f i ≤ b) : ∀ m, cntF f m ≤ b * m
  | 0 => by simp [cntF]
  | m + 1 => by
    have := cntF_le h m
    have := h m
    rw [cntF, Nat.mul_succ]; omega
/-- How many bits of a word are 1. -/
def pop (x : Nat) : Nat := cntF (fun i => (x.testBit i).toNat) 64
theorem pop_zero : pop 0 = 0 := by decide
theorem pop_le (x : Nat) : pop x ≤ 64 := cntF_le (b := 1) (fun i => by cases x.testBit i <;> simp) 64
theorem pop_both (x y : Nat) : pop (x ||| y) + pop (x &&& y) = pop x + pop y := by
  unfold pop
  rw [← cntF_add, ← cntF_add]
  apply cntF_congr
  intro i _
  rw [Nat.testBit_or, Nat.testBit_and]
  cases x.testBit i <;> cases y.testBit i <;> rfl
/-- How many numbers a set has. -/
def cnt (l : List Nat) : Nat := cntF (fun i => pop (l.getD i 0)) l.length
theorem cnt_far (l : List Nat) {m : Nat} (h : l.length ≤ m) : cntF (fun i => pop (l.getD i 0)) m = cnt l :=
  cntF_far (fun i hi => by rw [getD_none hi, pop_zero]) m h
theorem cnt_same {a b : List Nat} (h : ∀ i, a.getD i 0 = b.getD i 0) : cnt a = cnt b := by
  rw [← cnt_far a (m := max a.length b.length) (by omega), ← cnt_far b (m := max a.length b.length) (by omega)]
  exact cntF_congr fun i _ => by rw [h]
theorem cnt_le (l : List Nat) : cnt l ≤ 64 * l.length := cntF_le (fun i => pop_le _) _
theorem cnt_part_le (l : List Nat) (k : Nat) : cntF (fun i => pop (l.getD i 0)) k ≤ 64 * k := cntF_le (fun i => pop_le _) _
theorem cnt_both (a b : List Nat) : cnt a + cnt b = cnt (joinL [a, b]) + cnt (meetL a b) := by
  have h1 : (joinL [a, b]).length ≤ max a.length b.length := joinL_le (by simp [maxLenL])
  have h2 := meetL_le a b
  rw [← cnt_far a (m := max a.length b.length) (by omega), ← cnt_far b (m := max a.length b.length) (by omega), ← cnt_far _ h1, ← cnt_far _ h2, ← cntF_add, ← cntF_add]
  exact cntF_congr fun i _ => by rw [joinL_getD, meetL_getD, orAll_two, pop_both]

/-- The laws of sets. -/
theorem join_comm (a b : List Nat) : neat (joinL [a, b]) = neat (joinL [b, a]) := neat_eq fun i => by rw [joinL_getD, joinL_getD, orAll_two, orAll_two, Nat.or_comm]
theorem meet_comm (a b : List Nat) : neat (meetL a b) = neat (meetL b a) := neat_eq fun i => by rw [meetL_getD, meetL_getD, Nat.and_comm]
theorem join_assoc (a b c : List Nat) : neat (joinL [a, b, c]) = neat (joinL [joinL [a, b], c]) := neat_eq fun i => by rw [joinL_getD, joinL_getD, orAll_three, orAll_two, joinL_getD, orAll_two]
theorem join_holds {a b : List Nat} (ha : W64 a) (hb : W64 b) : (lessL a (joinL [a, b])).length = 0 := neat_nil_iff.2 fun i => by
  have h := lessL_getD a (joinL [a, b]) i
  rw [lessL, neat_getD] at h
  rw [h, joinL_getD, orAll_two]
  apply Nat.eq_of_testBit_eq
  intro j
  rw [andN_bit (ha.getD i) (or_lt (ha.getD i) (hb.getD i)), Nat.testBit_or]
  cases (a.getD i 0).testBit j <;> simp
theorem meet_held {a b : List Nat} (ha : W64 a) : (lessL (meetL a b) a).length = 0 := neat_nil_iff.2 fun i => by
  have h := lessL_getD (meetL a b) a i
  rw [lessL, neat_getD] at h
  rw [h, meetL_getD]
  apply Nat.eq_of_testBit_eq
  intro j
  rw [andN_bit (and_lt (ha.getD i) _) (ha.getD i), Nat.testBit_and]
  cases (a.getD i 0).testBit j <;> simp
theorem less_join {a b : List Nat} (ha : W64 a) (hb : W64 b) : neat (joinL [lessL a b, meetL a b]) = neat a := neat_eq fun i => by
  rw [joinL_getD, orAll_two, lessL_getD, meetL_getD]
  apply Nat.eq_of_testBit_eq
  intro j
  rw [Nat.testBit_or, andN_bit (ha.getD i) (hb.getD i), Nat.testBit_and]
  cases (a.getD i 0).testBit j <;> cases (b.getD i 0).testBit j <;> rfl
theorem less_self {a : List Nat} (ha : W64 a) : (lessL a a).length = 0 := neat_nil_iff.2 fun i => by
  have h := lessL_getD a a i
  rw [lessL, neat_getD] at h
  rw [h]
  apply Nat.eq_of_testBit_eq
  intro j
  rw [andN_bit (ha.getD i) (ha.getD i)]
  cases (a.getD i 0).testBit j <;> simp
end Go.Proofs.YtechebecgfmplaaDoor
