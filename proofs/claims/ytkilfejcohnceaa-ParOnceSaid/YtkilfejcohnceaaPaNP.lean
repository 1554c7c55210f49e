/- Plain mathematics of sets as words of 64 bits: lists of words, one way of them, joined, met, taken away, counted. No condition. -/
import Derived.Test.YtkilfejcohnceaaPaMA
import Derived.Test.YtkilfejcohnceaaRows
import Derived.Test.YtkilfejcohnceaaProg
import Derived.WalkKit
import Derived.Laws.BitsAllLaws
import Derived.BigQuiet
import Derived.Deep.QuietTactic
import Derived.WalkSpells
import Derived.Deep.RegionWith
import Derived.BigRegion
import Derived.Deep.RegionHeld3
set_option linter.unusedSimpArgs false
set_option linter.unusedVariables false
namespace Go.Proofs.Ytkilfejcohnceaa

/-- Words as the numbers that memory holds. -/
def nI (l : List Nat) : List Int := l.map fun (n : Nat) => (n : Int)
theorem nI_len (l : List Nat) : (nI l).length = l.length := by simp [nI]
/-- All words of 64 bits. -/
def W64 (l : List Nat) : Prop := ∀ x ∈ l, x < 18446744073709551616
theorem W64.getD {l : List Nat} (h : W64 l) (i : Nat) : l.getD i 0 < 18446744073709551616 := by
  by_cases hi : i < l.length
  · have := h _ (List.getElem_mem hi)
    simpa [List.getD, List.getElem?_eq_getElem hi] using this
  · simp [List.getD, List.getElem?_eq_none (by omega : l.length ≤ i)]
theorem W64.nil : W64 [] := by simp [W64]
theorem W64.of_getD {l : List Nat} (h : ∀ i, l.getD i 0 < 18446744073709551616) : W64 l := fun x hx => by
  obtain ⟨i, hi, rfl⟩ := List.getElem_of_mem hx
  have := h i
  simpa [List.getD, List.getElem?_eq_getElem hi] using this
theorem W64.take {l : List Nat} (h : W64 l) (k : Nat) : W64 (l.take k) := fun x hx => h x (List.mem_of_mem_take hx)

theorem getD_none {l : List Nat} {i : Nat} (h : l.length ≤ i) : l.getD i 0 = 0 := by simp [List.getD, List.getElem?_eq_none h]
theorem getD_some {l : List Nat} {i : Nat} {x : Nat} (h : l[i]? = some x) : l.getD i 0 = x := by simp [List.getD, h]
theorem get_some {l : List Nat} {i : Nat} (h : i < l.length) : l[i]? = some (l.getD i 0) := by simp [List.getD, List.getElem?_eq_getElem h]
theorem ext_getD {a b : List Nat} (hl : a.length = b.length) (h : ∀ i, i < a.length → a.getD i 0 = b.getD i 0) : a = b := by
  apply List.ext_getElem? 
  intro i
  by_cases hi : i < a.length
  · rw [get_some hi, get_some (hl ▸ hi), h i hi]
  · rw [List.getElem?_eq_none (by omega), List.getElem?_eq_none (by omega)]
theorem take_getD (l : List Nat) (k i : Nat) : (l.take k).getD i 0 = if i < k then l.getD i 0 else 0 := by
  by_cases h : i < k <;> simp [List.getD, List.getElem?_take, h]
theorem set_getD (l : List Nat) (k x i : Nat) (hk : k < l.length) : (l.set k x).getD i 0 = if i = k then x else l.getD i 0 := by
  by_cases h : k = i
  · subst h; simp [List.getD, hk]
  · simp [List.getD, List.getElem?_set, h, Ne.symm h]

/-- So many of the first k words remain once words of 0 at their end are gone. -/
def nlen (l : List Nat) : Nat → Nat
  | 0 => 0
  | k + 1 => if l.getD k 0 = 0 then nlen l k else k + 1
theorem nlen_le (l : List Nat) : ∀ k, nlen l k ≤ k
  | 0 => Nat.le_refl _
  | k + 1 => by
    have := nlen_le l k
    unfold nlen; split <;> omega
theorem nlen_zero (l : List Nat) : ∀ k i, nlen l k ≤ i → i < k → l.getD i 0 = 0
  | 0, i, _, h => by omega
  | k + 1, i, h1, h2 => by
    unfold nlen at h1
    split at h1
    · by_cases hi : i = k
      · subst hi; assumption
      · exact nlen_zero l k i h1 (by omega)
    · omega
theorem nlen_last (l : List Nat) : ∀ k, 0 < nlen l k → l.getD (nlen l k - 1) 0 ≠ 0
  | 0, h => by simp [nlen] at h
  | k + 1, h => by
    unfold nlen at h ⊢
    split
    · rename_i h0
      rw [if_pos h0] at h
      exact nlen_last l k h
    · simpa using ‹¬ _›
/-- A set in one way. -/
def neat (l : List Nat) : List Nat := l.take (nlen l l.length)
def Tidy (l : List Nat) : Prop := 0 < l.length → l.getD (l.length - 1) 0 ≠ 0
theorem neat_len (l : List Nat) : (neat l).length = nlen l l.length := by
  have := nlen_le l l.length
  simp [neat]; omega
theorem neat_le (l : List Nat) : (neat l).length ≤ l.length := by rw [neat_len]; exact nlen_le l _
theorem neat_getD (l : List Nat) (i : Nat) : (neat l).getD i 0 = l.getD i 0 := by
  rw [neat, take_getD]
  split
  · rfl
  · by_cases hi : i < l.length
    · rw [nlen_zero l l.length i (by omega) hi]
    · rw [getD_none (by omega)]
theorem neat_tidy (l : List Nat) : Tidy (neat l) := fun h => by
  rw [neat_getD, neat_len]
  rw [neat_len] at h
  exact nlen_last l _ h
theorem tidy_le {a b : List Nat} (ha : Tidy a) (h : ∀ i, a.getD i 0 = b.getD i 0) : a.length ≤ b.length := by
  by_cases h0 : 0 < a.length
  · have h1 := ha h0
    rw [h] at h1
    rcases Nat.lt_or_ge (a.length - 1) b.length with h2 | h2
    · omega
    · exact absurd (getD_none h2) h1
  · omega
theorem tidy_ext {a b : List Nat} (ha : Tidy a) (hb : Tidy b) (h : ∀ i, a.getD i 0 = b.getD i 0) : a = b :=
  ext_getD (Nat.le_antisymm (tidy_le ha h) (tidy_le hb fun i => (h i).symm)) fun i _ => h i
theorem W64.neat {l : List Nat} (h : W64 l) : W64 (neat l) := h.take _

/-- Words by their places. -/
def mapR (m : Nat) (f : Nat → Nat) : List Nat := (List.range m).map f
theorem mapR_len (m : Nat) (f : Nat → Nat) : (mapR m f).length = m := by simp [mapR]
theorem mapR_getD (m : Nat) (f : Nat → Nat) (i : Nat) : (mapR m f).getD i 0 = if i < m then f i else 0 := by
  by_cases h : i < m <;> simp [mapR, List.getD, List.getElem?_map, List.getElem?_range, h]
theorem mapR_getD_all {m : Nat} {f : Nat → Nat} (h : ∀ i, m ≤ i → f i = 0) (i : Nat) : (mapR m f).getD i 0 = f i := by
  rw [mapR_getD]; split
  · rfl
  · exact (h i (by omega)).symm

/-- What is in the first one alone: of two words. -/
def andN (x y : Nat) : Nat := x &&& (18446744073709551615 - y)
theorem bit64 {x i : Nat} (hx : x < 18446744073709551616) (hi : 64 ≤ i) : x.testBit i = false :=
  Nat.testBit_lt_two_pow (Nat.lt_of_lt_of_le (show x < 2 ^ 64 by omega) (Nat.pow_le_pow_right (by omega) hi))
theorem andN_bit {x y : Nat} (hx : x < 18446744073709551616) (hy : y < 18446744073709551616) (i : Nat) : (andN x y).testBit i = (x.testBit i && !y.testBit i) := by
  have h2 : 18446744073709551615 - y = 2 ^ 64 - (y + 1) := by omega
  rw [andN, h2, Nat.testBit_and, Nat.testBit_two_pow_sub_succ (by omega)]
  by_cases hi : i < 64
  · simp [hi]
  · simp [bit64 hx (by omega : 64 ≤ i)]
theorem or_lt {x y : Nat} (hx : x < 18446744073709551616) (hy : y < 18446744073709551616) : x ||| y < 18446744073709551616 := Nat.or_lt_two_pow (n := 64) (by omega) (by omega)
theorem and_lt {x : Nat} (hx : x < 18446744073709551616) (y : Nat) : x &&& y < 18446744073709551616 := Nat.lt_of_le_of_lt Nat.and_le_left hx
theorem andN_lt {x : Nat} (hx : x < 18446744073709551616) (y : Nat) : andN x y < 18446744073709551616 := and_lt hx _
/-- What is in one of them, by its place. -/
def orAll (ls : List (List Nat)) (i : Nat) : Nat := ls.foldl (fun x l => x ||| l.getD i 0) 0
theorem orAll_two (a b : List Nat) (i : Nat) : orAll [a, b] i = a.getD i 0 ||| b.getD i 0 := by simp [orAll]
theorem orAll_lt : ∀ (ls : List (List Nat)) (i : Nat), (∀ l ∈ ls, W64 l) → orAll ls i < 18446744073709551616 := by
  intro ls i
  suffices h : ∀ (ls : List (List Nat)) (x : Nat), x < 18446744073709551616 → (∀ l ∈ ls, W64 l) → ls.foldl (fun x l => x ||| l.getD i 0) x < 18446744073709551616 from fun hw => h ls 0 (by omega) hw
  intro ls
  induction ls with
  | nil => intro x hx _; exact hx
  | cons l ls ih =>
    intro x hx hw
    rw [List.foldl_cons]
    exact ih _ (or_lt hx ((hw l (List.mem_cons_self ..)).getD i)) fun m hm => hw m (List.mem_cons_of_mem _ hm)
def maxLenL (ls : List (List Nat)) : Nat := ls.foldl (fun m l => max m l.length) 0
theorem maxLenL_ge {ls : List (List Nat)} {l : List Nat} (h : l ∈ ls) : l.length ≤ maxLenL ls := by
  suffices h2 : ∀ (ls : List (List Nat)) (m : Nat), m ≤ ls.foldl (fun m l => max m l.length) m ∧ (l ∈ ls → l.length ≤ ls.foldl (fun m l => max m l.length) m) from (h2 ls 0).2 h
  intro ls
  induction ls with
  | nil => intro m; exact ⟨Nat.le_refl _, by simp⟩
  | cons k ls ih =>
    intro m
    have h1 := ih (max m k.length)
    rw [List.foldl_cons]
    refine ⟨by omega, fun hm => ?_⟩
    rcases List.mem_cons.1 hm with rfl | hm
    · omega
    · exact h1.2 hm
theorem orAll_far {ls : List (List Nat)} {i : Nat} (h : maxLenL ls ≤ i) : orAll ls i = 0 := by
  suffices h2 : ∀ (ls : List (List Nat)), (∀ l ∈ ls, l.length ≤ i) → orAll ls i = 0 from h2 ls fun l hl => Nat.le_trans (maxLenL_ge hl) h
  intro ls
  suffices h3 : ∀ (ls : List (List Nat)) (x : Nat), (∀ l ∈ ls, l.length ≤ i) → ls.foldl (fun x l => x ||| l.getD i 0) x = x from fun hl => h3 ls 0 hl
  intro ls
  induction ls with
  | nil => intros; rfl
  | cons l ls ih =>
    intro x hl
    rw [List.foldl_cons, getD_none (hl l (List.mem_cons_self ..)), Nat.or_zero]
    exact ih x fun m hm => hl m (List.mem_cons_of_mem _ hm)
/-- So far joined: in as many words as the longest has. -/
def joinTo (m : Nat) (ls : List (List Nat)) : List Nat := mapR m (orAll ls)
/-- The sets that the document speaks of. -/
def joinL (ls : List (List Nat)) : List Nat := neat (joinTo (maxLenL ls) ls)
def meetL (a b : List Nat) : List Nat := neat (mapR (max a.length b.length) fun i => a.getD i 0 &&& b.getD i 0)
theorem joinL_getD (ls : List (List Nat)) (i : Nat) : (joinL ls).getD i 0 = orAll ls i := by
  rw [joinL, neat_getD, joinTo, mapR_getD_all fun i => orAll_far]
theorem meetL_getD (a b : List Nat) (i : Nat) : (meetL a b).getD i 0 = a.getD i 0 &&& b.getD i 0 := by
  rw [meetL, neat_getD, mapR_getD_all]
  intro i hi
  show a.getD i 0 &&& b.getD i 0 = 0
  rw [getD_none (by omega : a.length ≤ i), Nat.zero_and]
theorem joinL_w64 {ls : List (List Nat)} (h : ∀ l ∈ ls, W64 l) : W64 (joinL ls) := W64.of_getD fun i => by rw [joinL_getD]; exact orAll_lt ls i h
theorem meetL_w64 {a b : List Nat} (h : W64 a) : W64 (meetL a b) := W64.of_getD fun i => by rw [meetL_getD]; exact and_lt (h.getD i) _
theorem meetL_le (a b : List Nat) : (meetL a b).length ≤ max a.length b.length := by
  have := neat_le (mapR (max a.length b.length) fun i => a.getD i 0 &&& b.getD i 0)
  rwa [mapR_len] at this
/-- A sum over places. -/
def cntF (f : Nat → Nat) : Nat → Nat
  | 0 => 0
  | m + 1 => cntF f m + f m
/-- How many bits of a word are 1. -/
def pop (x : Nat) : Nat := cntF (fun i => (x.testBit i).toNat) 64
/-- How many numbers a set has. -/
def cnt (l : List Nat) : Nat := cntF (fun i => pop (l.getD i 0)) l.length
end Go.Proofs.Ytkilfejcohnceaa
namespace Go.Proofs.Ytkilfejcohnceaa
open Go.RowKit

def lenOf : Value → Nat | .slice _ n _ => n | _ => 0
section
variable {w w' : World} {base : Nat} {e : TypeId} {k : IntKind} {zs : List Int}
/-- What the call owns, cell by cell. -/
theorem Ow.block {A : Option Addr} {n c : Nat} (h : Ow w base e k (.slice A n c) zs) (hp : 0 < zs.length) :
    ∃ g, A = some ⟨g, 0, none⟩ ∧ base ≤ g ∧ g < w.heap.size ∧ (∀ j x, zs[j]? = some x → w.cell? ⟨g, j, none⟩ = some (.int k x)) ∧ (∀ j, w.frozen? ⟨g, j, none⟩ = false) := by
  obtain ⟨h1, h2⟩ := h
  rcases h2 with ⟨h2, h0⟩ | ⟨g, cap, cur, hv, hg, hh, hnc, hcm, hsz, htake⟩
  · omega
  · injection hv with hA hn hc
    subst hA
    subst hn
    subst hc
    have hO : w.ownsRow base e 1 (.slice (some ⟨g, 0, none⟩) zs.length c) zs.length (zs.map (Value.int k)) := ⟨h1, .inr ⟨g, c, cur, rfl, hg, hh, hnc, hcm, hsz, htake⟩⟩
    refine ⟨g, rfl, hg, (Array.getElem?_eq_some_iff.1 hh).1, fun j x hx => ?_, fun j => World.ownsRow.frozenAt hO j⟩
    have hj : j < zs.length := (List.getElem?_eq_some_iff.1 hx).1
    rw [World.ownsRow.cellAt hO j (by omega), List.getElem?_map, hx]; rfl
theorem Ow.len {A : Option Addr} {n c : Nat} (h : Ow w base e k (.slice A n c) zs) : zs.length = n ∧ n ≤ c ∧ c ≤ maxLen := by
  rcases h.2 with ⟨h2, h0⟩ | ⟨g, cap, cur, hv, hg, hh, hnc, hcm, hsz, htake⟩
  · injection h2 with hA hn hc
    subst hn
    subst hc
    exact ⟨h0, Nat.le_refl _, by simp [maxLen]⟩
  · injection hv with hA hn hc
    subst hn
    subst hc
    exact ⟨rfl, hnc, hcm⟩
theorem Ow.stored {g n c : Nat} (h : Ow w base e k (.slice (some ⟨g, 0, none⟩) n c) zs) (j : Nat) (x : Int) :
    Ow (w.setCell ⟨g, j, none⟩ (.int k x)) base e k (.slice (some ⟨g, 0, none⟩) n c) (zs.set j x) := by
  obtain ⟨rfl, -, -⟩ := h.len
  have := (World.ownsRow.stored h j (.int k x)).1
  unfold Ow
  rw [List.map_set, List.length_set]
  exact this
end

end Go.Proofs.Ytkilfejcohnceaa
namespace Go.Proofs.Ytkilfejcohnceaa
open Go.RowKit

end Go.Proofs.Ytkilfejcohnceaa
namespace Go.Proofs.Ytkilfejcohnceaa
open Go.RowKit

end Go.Proofs.Ytkilfejcohnceaa
namespace Go.Proofs.Ytkilfejcohnceaa

def g1 (m x : Nat) : Nat := ((x / 2) &&& m) + (x &&& m)
def g2 (m x : Nat) : Nat := ((x / 4) &&& m) + (x &&& m)
def g3 (m x : Nat) : Nat := (x / 16 + x) &&& m
theorem b1 : ∀ d, d < 256 → ∀ r, r < 2 → ((d / 2 + 128 * r) &&& 85) + (d &&& 85) = g1 85 d ∧ g1 85 d < 256 := by decide +kernel
theorem b2 : ∀ d, d < 256 → ∀ r, r < 4 → ((g1 85 d / 4 + 64 * r) &&& 51) + (g1 85 d &&& 51) = g2 51 (g1 85 d) ∧ g2 51 (g1 85 d) < 69 ∧ g2 51 (g1 85 d) % 16 < 5 := by decide +kernel
theorem b3 : ∀ d, d < 256 → ∀ r, r < 5 → (g2 51 (g1 85 d) / 16 + 16 * r + g2 51 (g1 85 d)) < 256 ∧ (g2 51 (g1 85 d) / 16 + 16 * r + g2 51 (g1 85 d)) &&& 15 = cntF (fun i => (d.testBit i).toNat) 8 := by decide +kernel

end Go.Proofs.Ytkilfejcohnceaa
namespace Go.Proofs.Ytkilfejcohnceaa
open Go.RowKit

end Go.Proofs.Ytkilfejcohnceaa
namespace Go.Proofs.Ytkilfejcohnceaa

/-- Is a number in a set? -/
def hasB (ws : List Nat) (n : Int) : Bool := decide (0 ≤ n) && (ws.getD (n.toNat / 64) 0).testBit (n.toNat % 64)
theorem hasB_nat (ws : List Nat) (m : Nat) : hasB ws (m : Int) = (ws.getD (m / 64) 0).testBit (m % 64) := by
  unfold hasB; rw [Int.toNat_natCast]; simp
theorem pow_lt {k : Nat} (h : k < 64) : 2 ^ k < 18446744073709551616 := Nat.pow_lt_pow_right (by omega) h
/-- A number's bit, in its word. -/
def bitAt (n : Int) (i : Nat) : Nat := if 0 ≤ n ∧ n < 4096 ∧ i = n.toNat / 64 then 2 ^ (n.toNat % 64) else 0
def bitsOf (l : List Int) (i : Nat) : Nat := l.foldl (fun x n => x ||| bitAt n i) 0
theorem bitsOf_snoc (l : List Int) (n : Int) (i : Nat) : bitsOf (l ++ [n]) i = bitsOf l i ||| bitAt n i := by simp [bitsOf]
theorem snoc_ind {P : List Int → Prop} (h0 : P []) (h1 : ∀ l n, P l → P (l ++ [n])) (l : List Int) : P l := by
  have h : ∀ k, ∀ l : List Int, l.length = k → P l := by
    intro k
    induction k with
    | zero => intro l hl; rw [List.eq_nil_of_length_eq_zero hl]; exact h0
    | succ k ih =>
      intro l hl
      have hne : l ≠ [] := by intro h; rw [h] at hl; simp at hl
      rw [← List.dropLast_concat_getLast hne]
      exact h1 _ _ (ih _ (by rw [List.length_dropLast, hl]; rfl))
  exact h l.length l rfl
/-- What is put in is in. -/
theorem bitAt_bit (n : Int) (m : Nat) : (bitAt n (m / 64)).testBit (m % 64) = decide (n = (m : Int) ∧ m < 4096) := by
  unfold bitAt
  split
  · rename_i h
    rw [Nat.testBit_two_pow]
    rw [Bool.eq_iff_iff]
    simp only [decide_eq_true_eq]
    omega
  · rename_i h
    rw [Nat.zero_testBit]
    symm
    rw [decide_eq_false_iff_not]
    intro h2
    exact h ⟨by omega, by omega, by omega⟩
theorem bitsOf_bit (m : Nat) (l : List Int) : (bitsOf l (m / 64)).testBit (m % 64) = decide ((m : Int) ∈ l ∧ m < 4096) := by
  induction l using snoc_ind with
  | h0 => simp [bitsOf]
  | h1 l n ih =>
    rw [bitsOf_snoc, Nat.testBit_or, ih, bitAt_bit, Bool.eq_iff_iff]
    simp only [Bool.or_eq_true, decide_eq_true_eq, List.mem_append, List.mem_singleton]
    constructor
    · rintro (⟨h, h2⟩ | ⟨h, h2⟩)
      · exact ⟨.inl h, h2⟩
      · exact ⟨.inr h.symm, h2⟩
    · rintro ⟨h | h, h2⟩
      · exact .inl ⟨h, h2⟩
      · exact .inr ⟨h.symm, h2⟩

/-- So many words of 0 more. -/
def padW (s : List Nat) (j : Nat) : List Nat := s ++ List.replicate j 0
theorem padW_len (s : List Nat) (j : Nat) : (padW s j).length = s.length + j := by simp [padW]
theorem padW_getD (s : List Nat) (j i : Nat) : (padW s j).getD i 0 = s.getD i 0 := by
  unfold padW
  by_cases h : i < s.length
  · simp [List.getD, List.getElem?_append_left h]
  · rw [getD_none (by omega : s.length ≤ i)]
    simp only [List.getD, List.getElem?_append_right (by omega : s.length ≤ i), List.getElem?_replicate]
    split <;> simp
/-- A set with one number more. -/
def putW (s : List Nat) (m : Nat) : List Nat := (padW s (m / 64 + 1 - s.length)).set (m / 64) (s.getD (m / 64) 0 ||| 2 ^ (m % 64))
theorem putW_len (s : List Nat) (m : Nat) : (putW s m).length = max s.length (m / 64 + 1) := by
  rw [putW, List.length_set, padW_len]; omega
theorem putW_getD (s : List Nat) (m i : Nat) : (putW s m).getD i 0 = s.getD i 0 ||| (if i = m / 64 then 2 ^ (m % 64) else 0) := by
  rw [putW, set_getD _ _ _ _ (by rw [padW_len]; omega), padW_getD]
  by_cases h : i = m / 64
  · subst h; simp
  · simp [h]
theorem putW_w64 {s : List Nat} (h : W64 s) (m : Nat) : W64 (putW s m) := W64.of_getD fun i => by
  rw [putW_getD]
  refine or_lt (h.getD i) ?_
  split
  · exact pow_lt (Nat.mod_lt _ (by omega))
  · omega
theorem putW_tidy {s : List Nat} (h : Tidy s) (m : Nat) : Tidy (putW s m) := fun _ => by
  rw [putW_len, putW_getD]
  have hp : 0 < 2 ^ (m % 64) := Nat.two_pow_pos _
  by_cases h1 : s.length ≤ m / 64 + 1
  · rw [if_pos (by omega)]
    intro h0
    have := (Nat.or_eq_zero_iff.1 h0).2
    omega
  · have hl := h (by omega)
    rw [show max s.length (m / 64 + 1) - 1 = s.length - 1 by omega]
    intro h0
    exact hl (Nat.or_eq_zero_iff.1 h0).1
/-- One number more, if it is one of sets. -/
def putI (s : List Nat) (n : Int) : List Nat := if 0 ≤ n ∧ n < 4096 then putW s n.toNat else s
theorem putI_getD (s : List Nat) (n : Int) (i : Nat) : (putI s n).getD i 0 = s.getD i 0 ||| bitAt n i := by
  unfold putI bitAt
  by_cases h : 0 ≤ n ∧ n < 4096
  · rw [if_pos h, putW_getD]
    by_cases h2 : i = n.toNat / 64
    · rw [if_pos h2, if_pos ⟨h.1, h.2, h2⟩]
    · rw [if_neg h2, if_neg (fun h3 => h2 h3.2.2)]
  · rw [if_neg h, if_neg (fun h3 => h ⟨h3.1, h3.2.1⟩), Nat.or_zero]
def putsL (s : List Nat) (l : List Int) : List Nat := l.foldl putI s
theorem putsL_snoc (s : List Nat) (l : List Int) (n : Int) : putsL s (l ++ [n]) = putI (putsL s l) n := by simp [putsL]
theorem putsL_getD (s : List Nat) (i : Nat) (l : List Int) : (putsL s l).getD i 0 = s.getD i 0 ||| bitsOf l i := by
  induction l using snoc_ind with
  | h0 => simp [putsL, bitsOf]
  | h1 l n ih => rw [putsL_snoc, putI_getD, ih, bitsOf_snoc, Nat.or_assoc]
theorem putI_w64 {s : List Nat} (h : W64 s) (n : Int) : W64 (putI s n) := by
  unfold putI; split
  · exact putW_w64 h _
  · exact h
theorem putsL_w64 {s : List Nat} (h : W64 s) (l : List Int) : W64 (putsL s l) := by
  induction l using snoc_ind with
  | h0 => exact h
  | h1 l n ih => rw [putsL_snoc]; exact putI_w64 ih n
theorem putI_len (s : List Nat) (n : Int) : (putI s n).length ≤ max s.length 64 := by
  unfold putI; split
  · rw [putW_len]; omega
  · omega
theorem putsL_len (s : List Nat) (l : List Int) : (putsL s l).length ≤ max s.length 64 := by
  induction l using snoc_ind with
  | h0 => exact Nat.le_max_left _ _
  | h1 l n ih => rw [putsL_snoc]; have := putI_len (putsL s l) n; omega
theorem putsL_tidy {s : List Nat} (h : Tidy s) (l : List Int) : Tidy (putsL s l) := by
  induction l using snoc_ind with
  | h0 => exact h
  | h1 l n ih =>
    rw [putsL_snoc]
    unfold putI; split
    · exact putW_tidy ih _
    · exact ih
/-- A set of numbers. -/
def ofL (l : List Int) : List Nat := putsL [] l
theorem tidy_nil : Tidy [] := fun h => by simp at h
theorem ofL_tidy (l : List Int) : Tidy (ofL l) := putsL_tidy tidy_nil l
theorem ofL_getD (l : List Int) (i : Nat) : (ofL l).getD i 0 = bitsOf l i := by rw [ofL, putsL_getD]; simp
theorem ofL_w64 (l : List Int) : W64 (ofL l) := putsL_w64 W64.nil l
theorem ofL_len (l : List Int) : (ofL l).length ≤ 64 := by have := putsL_len [] l; simpa [ofL] using this
/-- With numbers: joined with their set, or put in one by one. -/
theorem with_both (s : List Nat) (l : List Int) : joinL [s, ofL l] = neat (putsL s l) :=
  tidy_ext (neat_tidy _) (neat_tidy _) fun i => by
    show (joinL [s, ofL l]).getD i 0 = _
    rw [joinL_getD, orAll_two, ofL_getD, neat_getD, putsL_getD]

/-- One number less. -/
def remI (s : List Nat) (n : Int) : List Nat := if 0 ≤ n ∧ n / 64 < (s.length : Int) then s.set (n.toNat / 64) (andN (s.getD (n.toNat / 64) 0) (2 ^ (n.toNat % 64))) else s
def remsL (s : List Nat) (l : List Int) : List Nat := l.foldl remI s
theorem remsL_snoc (s : List Nat) (l : List Int) (n : Int) : remsL s (l ++ [n]) = remI (remsL s l) n := by simp [remsL]
theorem remI_len (s : List Nat) (n : Int) : (remI s n).length = s.length := by
  unfold remI; split <;> simp
theorem remsL_len (s : List Nat) (l : List Int) : (remsL s l).length = s.length := by
  induction l using snoc_ind with
  | h0 => rfl
  | h1 l n ih => rw [remsL_snoc, remI_len, ih]
theorem remI_w64 {s : List Nat} (h : W64 s) (n : Int) : W64 (remI s n) := by
  unfold remI
  split
  · rename_i hh
    exact W64.of_getD fun i => by
      rw [set_getD _ _ _ _ (by omega)]
      split
      · exact andN_lt (h.getD _) _
      · exact h.getD i
  · exact h
theorem remsL_w64 {s : List Nat} (h : W64 s) (l : List Int) : W64 (remsL s l) := by
  induction l using snoc_ind with
  | h0 => exact h
  | h1 l n ih => rw [remsL_snoc]; exact remI_w64 ih n
theorem remI_bit {s : List Nat} (h : W64 s) (n : Int) (m : Nat) : ((remI s n).getD (m / 64) 0).testBit (m % 64) = ((s.getD (m / 64) 0).testBit (m % 64) && !decide (n = (m : Int))) := by
  unfold remI
  split
  · rename_i hh
    rw [set_getD _ _ _ _ (by omega)]
    split
    · rename_i h2
      rw [← h2, andN_bit (h.getD _) (pow_lt (Nat.mod_lt _ (by omega))), Nat.testBit_two_pow]
      congr 2
      rw [Bool.eq_iff_iff]
      simp only [decide_eq_true_eq]
      omega
    · rename_i h2
      have : ¬ n = (m : Int) := by omega
      simp [this]
  · rename_i hh
    by_cases h2 : n = (m : Int)
    · subst h2
      rw [getD_none (by omega)]
      simp
    · simp [h2]
theorem remsL_bit {s : List Nat} (h : W64 s) (m : Nat) (l : List Int) : ((remsL s l).getD (m / 64) 0).testBit (m % 64) = ((s.getD (m / 64) 0).testBit (m % 64) && !decide ((m : Int) ∈ l)) := by
  induction l using snoc_ind with
  | h0 => simp [remsL]
  | h1 l n ih =>
    rw [remsL_snoc, remI_bit (remsL_w64 h l), ih]
    by_cases h1 : (m : Int) ∈ l
    · simp [h1]
    · by_cases h2 : n = (m : Int)
      · simp [h2]
      · have h3 : ¬ (m : Int) = n := fun e => h2 e.symm
        simp [h1, h2, h3]
/-- A set without numbers. -/
def withoutL (s : List Nat) (l : List Int) : List Nat := neat (remsL s l)
theorem hasB_with (s : List Nat) (l : List Int) (m : Nat) : hasB (joinL [s, ofL l]) (m : Int) = (hasB s (m : Int) || decide ((m : Int) ∈ l ∧ m < 4096)) := by
  rw [hasB_nat, hasB_nat, joinL_getD, orAll_two, ofL_getD, Nat.testBit_or, bitsOf_bit]
theorem hasB_without {s : List Nat} (h : W64 s) (l : List Int) (m : Nat) : hasB (withoutL s l) (m : Int) = (hasB s (m : Int) && !decide ((m : Int) ∈ l)) := by
  rw [hasB_nat, hasB_nat, withoutL, neat_getD, remsL_bit h]
theorem withoutL_w64 {s : List Nat} (h : W64 s) (l : List Int) : W64 (withoutL s l) := (remsL_w64 h l).neat
theorem withoutL_len (s : List Nat) (l : List Int) : (withoutL s l).length ≤ s.length := by
  have := neat_le (remsL s l)
  rwa [remsL_len] at this
end Go.Proofs.Ytkilfejcohnceaa
namespace Go.Proofs.Ytkilfejcohnceaa
open Go.RowKit

/-- What a call answers: a set in memory. -/
def MadeB (W : World) (r : List Nat) (e : Ending) (w' : World) : Prop := ∃ A c, e = .returned (.slice A r.length c) ∧ r.length ≤ c ∧ c ≤ 9223372036854775807 ∧ Sl w' w'.heap.size .u64 A (nI r) ∧ Below W.heap.size W w'
/-- A slice of sets in memory: of each its address, its room, its words. -/
def Sls (w : World) (B : Nat) (L : Option Addr) (ls : List (Option Addr × Nat × List Nat)) : Prop :=
  0 < ls.length → ∃ b o, L = some ⟨b, o, none⟩ ∧ b < B ∧ ∀ (j : Nat) (t : Option Addr × Nat × List Nat), ls[j]? = some t → w.cell? ⟨b, o + j, none⟩ = some (.slice t.1 t.2.2.length t.2.1)
def Good (w : World) (B : Nat) (t : Option Addr × Nat × List Nat) : Prop := Sl w B .u64 t.1 (nI t.2.2) ∧ W64 t.2.2 ∧ t.2.2.length ≤ t.2.1 ∧ t.2.1 ≤ 9223372036854775807
end Go.Proofs.Ytkilfejcohnceaa
namespace Go.Proofs.Ytkilfejcohnceaa
open Go.RowKit

end Go.Proofs.Ytkilfejcohnceaa
namespace Go.Proofs.Ytkilfejcohnceaa
open Go.RowKit

/-- A slice of sets that is written out: a new block. -/
theorem Sls.lit (w : World) (e : TypeId) (cs : Array Value) (ls : List (Option Addr × Nat × List Nat)) (h : cs.toList = ls.map fun t => .slice t.1 t.2.2.length t.2.1) : Sls (w.alloc (.cells cs e)) (w.heap.size + 1) (some ⟨w.heap.size, 0, none⟩) ls := fun _ => by
  refine ⟨w.heap.size, 0, rfl, by omega, fun j t ht => ?_⟩
  rw [cell_of_row (w.alloc (.cells cs e)) w.heap.size (0 + j) cs e (0, 0) (heap_alloc_new w _), ← Array.getElem?_toList, h, Nat.zero_add, List.getElem?_map, ht]
  rfl
theorem Good.alloc {w : World} {t : Option Addr × Nat × List Nat} (h : Good w w.heap.size t) (o : Obj) : Good (w.alloc o) (w.heap.size + 1) t := ⟨(h.1.alloc (Nat.le_refl _) o).more (by omega), h.2⟩
end Go.Proofs.Ytkilfejcohnceaa
namespace Go.Proofs.Ytkilfejcohnceaa
open Go.RowKit

end Go.Proofs.Ytkilfejcohnceaa
