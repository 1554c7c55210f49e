/- Plain mathematics of sets as words of 64 bits: lists of words, one way of them, joined, met, taken away, counted. No condition. -/
import Derived.Test.YteoopilmdlhkhaaDoorPaMA
import Derived.Test.YteoopilmdlhkhaaDoorRows
import Derived.Test.YteoopilmdlhkhaaDoorProg
import Derived.WalkKit
import Derived.Laws.BitsAllLaws
import Derived.BigQuiet
import Derived.Deep.QuietTactic
import Derived.WalkSpells
import Derived.Deep.RegionWith
import Derived.BigRegion
import Derived.Deep.RegionHeld3
set_option linter.unusedSimpArgs false
set_option linter.unusedVariables false
namespace Go.Proofs.YteoopilmdlhkhaaDoor

/-- Words as the numbers that memory holds. -/
def nI (l : List Nat) : List Int := l.map fun (n : Nat) => (n : Int)
theorem nI_len (l : List Nat) : (nI l).length = l.length := by simp [nI]
theorem nI_getD (l : List Nat) (j : Nat) : (nI l).getD j 0 = ((l.getD j 0 : Nat) : Int) := by
  simp only [nI, List.getD, List.getElem?_map]
  cases l[j]? <;> simp
theorem nI_take (l : List Nat) (k : Nat) : nI (l.take k) = (nI l).take k := by simp [nI]
theorem nI_set (l : List Nat) (k x : Nat) : nI (l.set k x) = (nI l).set k (x : Int) := by simp [nI, List.map_set]
theorem nI_append (a b : List Nat) : nI (a ++ b) = nI a ++ nI b := by simp [nI]
/-- All words of 64 bits. -/
def W64 (l : List Nat) : Prop := ∀ x ∈ l, x < 18446744073709551616
theorem W64.getD {l : List Nat} (h : W64 l) (i : Nat) : l.getD i 0 < 18446744073709551616 := by
  by_cases hi : i < l.length
  · have := h _ (List.getElem_mem hi)
    simpa [List.getD, List.getElem?_eq_getElem hi] using this
  · simp [List.getD, List.getElem?_eq_none (by omega : l.length ≤ i)]
theorem W64.nil : W64 [] := by simp [W64]
theorem W64.of_getD {l : List Nat} (h : ∀ i, l.getD i 0 < 18446744073709551616) : W64 l := fun x hx => by
  obtain ⟨i, hi, rfl⟩ := List.getElem_of_mem hx
  have := h i
  simpa [List.getD, List.getElem?_eq_getElem hi] using this
theorem W64.take {l : List Nat} (h : W64 l) (k : Nat) : W64 (l.take k) := fun x hx => h x (List.mem_of_mem_take hx)

theorem getD_none {l : List Nat} {i : Nat} (h : l.length ≤ i) : l.getD i 0 = 0 := by simp [List.getD, List.getElem?_eq_none h]
theorem getD_some {l : List Nat} {i : Nat} {x : Nat} (h : l[i]? = some x) : l.getD i 0 = x := by simp [List.getD, h]
theorem get_some {l : List Nat} {i : Nat} (h : i < l.length) : l[i]? = some (l.getD i 0) := by simp [List.getD, List.getElem?_eq_getElem h]
theorem ext_getD {a b : List Nat} (hl : a.length = b.length) (h : ∀ i, i < a.length → a.getD i 0 = b.getD i 0) : a = b := by
  apply List.ext_getElem? 
  intro i
  by_cases hi : i < a.length
  · rw [get_some hi, get_some (hl ▸ hi), h i hi]
  · rw [List.getElem?_eq_none (by omega), List.getElem?_eq_none (by omega)]
theorem take_getD (l : List Nat) (k i : Nat) : (l.take k).getD i 0 = if i < k then l.getD i 0 else 0 := by
  by_cases h : i < k <;> simp [List.getD, List.getElem?_take, h]
theorem set_getD (l : List Nat) (k x i : Nat) (hk : k < l.length) : (l.set k x).getD i 0 = if i = k then x else l.getD i 0 := by
  by_cases h : k = i
  · subst h; simp [List.getD, hk]
  · simp [List.getD, List.getElem?_set, h, Ne.symm h]

/-- So many of the first k words remain once words of 0 at their end are gone. -/
def nlen (l : List Nat) : Nat → Nat
  | 0 => 0
  | k + 1 => if l.getD k 0 = 0 then nlen l k else k + 1
theorem nlen_le (l : List Nat) : ∀ k, nlen l k ≤ k
  | 0 => Nat.le_refl _
  | k + 1 => by
    have := nlen_le l k
    unfold nlen; split <;> omega
theorem nlen_zero (l : List Nat) : ∀ k i, nlen l k ≤ i → i < k → l.getD i 0 = 0
  | 0, i, _, h => by omega
  | k + 1, i, h1, h2 => by
    unfold nlen at h1
    split at h1
    · by_cases hi : i = k
      · subst hi; assumption
      · exact nlen_zero l k i h1 (by omega)
    · omega
theorem nlen_last (l : List Nat) : ∀ k, 0 < nlen l k → l.getD (nlen l k - 1) 0 ≠ 0
  | 0, h => by simp [nlen] at h
  | k + 1, h => by
    unfold nlen at h ⊢
    split
    · rename_i h0
      rw [if_pos h0] at h
      exact nlen_last l k h
    · simpa using ‹¬ _›
theorem nlen_stop {l : List Nat} {k x : Nat} (h : l[k]? = some x) (hx : x ≠ 0) : nlen l (k + 1) = k + 1 := by
  unfold nlen; rw [getD_some h, if_neg hx]
theorem nlen_go {l : List Nat} {k : Nat} (h : l[k]? = some 0) : nlen l (k + 1) = nlen l k := by
  rw [nlen, getD_some h, if_pos rfl]
/-- A set in one way. -/
def neat (l : List Nat) : List Nat := l.take (nlen l l.length)
def Tidy (l : List Nat) : Prop := 0 < l.length → l.getD (l.length - 1) 0 ≠ 0
theorem neat_len (l : List Nat) : (neat l).length = nlen l l.length := by
  have := nlen_le l l.length
  simp [neat]; omega
theorem neat_le (l : List Nat) : (neat l).length ≤ l.length := by rw [neat_len]; exact nlen_le l _
theorem neat_getD (l : List Nat) (i : Nat) : (neat l).getD i 0 = l.getD i 0 := by
  rw [neat, take_getD]
  split
  · rfl
  · by_cases hi : i < l.length
    · rw [nlen_zero l l.length i (by omega) hi]
    · rw [getD_none (by omega)]
theorem neat_tidy (l : List Nat) : Tidy (neat l) := fun h => by
  rw [neat_getD, neat_len]
  rw [neat_len] at h
  exact nlen_last l _ h
theorem tidy_le {a b : List Nat} (ha : Tidy a) (h : ∀ i, a.getD i 0 = b.getD i 0) : a.length ≤ b.length := by
  by_cases h0 : 0 < a.length
  · have h1 := ha h0
    rw [h] at h1
    rcases Nat.lt_or_ge (a.length - 1) b.length with h2 | h2
    · omega
    · exact absurd (getD_none h2) h1
  · omega
theorem tidy_ext {a b : List Nat} (ha : Tidy a) (hb : Tidy b) (h : ∀ i, a.getD i 0 = b.getD i 0) : a = b :=
  ext_getD (Nat.le_antisymm (tidy_le ha h) (tidy_le hb fun i => (h i).symm)) fun i _ => h i
theorem W64.neat {l : List Nat} (h : W64 l) : W64 (neat l) := h.take _

/-- Words by their places. -/
def mapR (m : Nat) (f : Nat → Nat) : List Nat := (List.range m).map f
theorem mapR_len (m : Nat) (f : Nat → Nat) : (mapR m f).length = m := by simp [mapR]
theorem mapR_getD (m : Nat) (f : Nat → Nat) (i : Nat) : (mapR m f).getD i 0 = if i < m then f i else 0 := by
  by_cases h : i < m <;> simp [mapR, List.getD, List.getElem?_map, List.getElem?_range, h]
theorem mapR_getD_all {m : Nat} {f : Nat → Nat} (h : ∀ i, m ≤ i → f i = 0) (i : Nat) : (mapR m f).getD i 0 = f i := by
  rw [mapR_getD]; split
  · rfl
  · exact (h i (by omega)).symm

/-- What is in the first one alone: of two words. -/
def andN (x y : Nat) : Nat := x &&& (18446744073709551615 - y)
theorem bit64 {x i : Nat} (hx : x < 18446744073709551616) (hi : 64 ≤ i) : x.testBit i = false :=
  Nat.testBit_lt_two_pow (Nat.lt_of_lt_of_le (show x < 2 ^ 64 by omega) (Nat.pow_le_pow_right (by omega) hi))
theorem andN_bit {x y : Nat} (hx : x < 18446744073709551616) (hy : y < 18446744073709551616) (i : Nat) : (andN x y).testBit i = (x.testBit i && !y.testBit i) := by
  have h2 : 18446744073709551615 - y = 2 ^ 64 - (y + 1) := by omega
  rw [andN, h2, Nat.testBit_and, Nat.testBit_two_pow_sub_succ (by omega)]
  by_cases hi : i < 64
  · simp [hi]
  · simp [bit64 hx (by omega : 64 ≤ i)]
theorem or_lt {x y : Nat} (hx : x < 18446744073709551616) (hy : y < 18446744073709551616) : x ||| y < 18446744073709551616 := Nat.or_lt_two_pow (n := 64) (by omega) (by omega)
theorem and_lt {x : Nat} (hx : x < 18446744073709551616) (y : Nat) : x &&& y < 18446744073709551616 := Nat.lt_of_le_of_lt Nat.and_le_left hx
theorem andN_lt {x : Nat} (hx : x < 18446744073709551616) (y : Nat) : andN x y < 18446744073709551616 := and_lt hx _
theorem andN_zero_r {x : Nat} (hx : x < 18446744073709551616) : andN x 0 = x := Nat.eq_of_testBit_eq fun i => by rw [andN_bit hx (by omega)]; simp
theorem andN_zero_l (y : Nat) : andN 0 y = 0 := by simp [andN]

/-- The first k words made one by a way, the others as they were: what a walk through two sets makes of the first one. -/
def foldW (f : Nat → Nat → Nat) (a b : List Nat) (k : Nat) : List Nat := mapR a.length fun i => if i < k then f (a.getD i 0) (b.getD i 0) else a.getD i 0
theorem foldW_len (f : Nat → Nat → Nat) (a b : List Nat) (k : Nat) : (foldW f a b k).length = a.length := mapR_len _ _
theorem foldW_zero (f : Nat → Nat → Nat) (a b : List Nat) : foldW f a b 0 = a := ext_getD (foldW_len ..) fun i hi => by
  rw [foldW_len] at hi
  rw [foldW, mapR_getD, if_pos hi, if_neg (by omega)]
theorem foldW_getD (f : Nat → Nat → Nat) (a b : List Nat) (k i : Nat) : (foldW f a b k).getD i 0 = if i < a.length then (if i < k then f (a.getD i 0) (b.getD i 0) else a.getD i 0) else 0 := mapR_getD _ _ _
theorem foldW_get {f : Nat → Nat → Nat} {a b : List Nat} {k : Nat} (hk : k < a.length) : (foldW f a b k)[k]? = some (a.getD k 0) := by
  rw [get_some (by rw [foldW_len]; exact hk), foldW_getD, if_pos hk, if_neg (by omega)]
theorem foldW_step {f : Nat → Nat → Nat} {a b : List Nat} {k : Nat} (hk : k < a.length) : (foldW f a b k).set k (f (a.getD k 0) (b.getD k 0)) = foldW f a b (k + 1) := ext_getD (by simp [foldW_len]) fun i hi => by
  rw [List.length_set, foldW_len] at hi
  rw [set_getD _ _ _ _ (by rw [foldW_len]; exact hk), foldW_getD, foldW_getD, if_pos hi, if_pos hi]
  by_cases h : i = k
  · subst h; simp
  · rw [if_neg h]
    by_cases h2 : i < k
    · rw [if_pos h2, if_pos (by omega)]
    · rw [if_neg h2, if_neg (by omega)]
/-- What is in one of them, by its place. -/
def orAll (ls : List (List Nat)) (i : Nat) : Nat := ls.foldl (fun x l => x ||| l.getD i 0) 0
theorem orAll_snoc (ls : List (List Nat)) (l : List Nat) (i : Nat) : orAll (ls ++ [l]) i = orAll ls i ||| l.getD i 0 := by simp [orAll]
theorem orAll_two (a b : List Nat) (i : Nat) : orAll [a, b] i = a.getD i 0 ||| b.getD i 0 := by simp [orAll]
theorem orAll_lt : ∀ (ls : List (List Nat)) (i : Nat), (∀ l ∈ ls, W64 l) → orAll ls i < 18446744073709551616 := by
  intro ls i
  suffices h : ∀ (ls : List (List Nat)) (x : Nat), x < 18446744073709551616 → (∀ l ∈ ls, W64 l) → ls.foldl (fun x l => x ||| l.getD i 0) x < 18446744073709551616 from fun hw => h ls 0 (by omega) hw
  intro ls
  induction ls with
  | nil => intro x hx _; exact hx
  | cons l ls ih =>
    intro x hx hw
    rw [List.foldl_cons]
    exact ih _ (or_lt hx ((hw l (List.mem_cons_self ..)).getD i)) fun m hm => hw m (List.mem_cons_of_mem _ hm)
def maxLenL (ls : List (List Nat)) : Nat := ls.foldl (fun m l => max m l.length) 0
theorem maxLenL_snoc (ls : List (List Nat)) (l : List Nat) : maxLenL (ls ++ [l]) = max (maxLenL ls) l.length := by simp [maxLenL]
theorem maxLenL_ge {ls : List (List Nat)} {l : List Nat} (h : l ∈ ls) : l.length ≤ maxLenL ls := by
  suffices h2 : ∀ (ls : List (List Nat)) (m : Nat), m ≤ ls.foldl (fun m l => max m l.length) m ∧ (l ∈ ls → l.length ≤ ls.foldl (fun m l => max m l.length) m) from (h2 ls 0).2 h
  intro ls
  induction ls with
  | nil => intro m; exact ⟨Nat.le_refl _, by simp⟩
  | cons k ls ih =>
    intro m
    have h1 := ih (max m k.length)
    rw [List.foldl_cons]
    refine ⟨by omega, fun hm => ?_⟩
    rcases List.mem_cons.1 hm with rfl | hm
    · omega
    · exact h1.2 hm
theorem orAll_far {ls : List (List Nat)} {i : Nat} (h : maxLenL ls ≤ i) : orAll ls i = 0 := by
  suffices h2 : ∀ (ls : List (List Nat)), (∀ l ∈ ls, l.length ≤ i) → orAll ls i = 0 from h2 ls fun l hl => Nat.le_trans (maxLenL_ge hl) h
  intro ls
  suffices h3 : ∀ (ls : List (List Nat)) (x : Nat), (∀ l ∈ ls, l.length ≤ i) → ls.foldl (fun x l => x ||| l.getD i 0) x = x from fun hl => h3 ls 0 hl
  intro ls
  induction ls with
  | nil => intros; rfl
  | cons l ls ih =>
    intro x hl
    rw [List.foldl_cons, getD_none (hl l (List.mem_cons_self ..)), Nat.or_zero]
    exact ih x fun m hm => hl m (List.mem_cons_of_mem _ hm)
/-- So far joined: in as many words as the longest has. -/
def joinTo (m : Nat) (ls : List (List Nat)) : List Nat := mapR m (orAll ls)
theorem joinTo_nil (m : Nat) : joinTo m [] = List.replicate m 0 := ext_getD (by simp [joinTo, mapR_len]) fun i hi => by
  rw [joinTo, mapR_getD]
  by_cases h : i < m <;> simp [h, orAll, List.getD]
theorem joinTo_step {m : Nat} {ls : List (List Nat)} {l : List Nat} (hl : l.length ≤ m) : foldW (· ||| ·) (joinTo m ls) l (min m l.length) = joinTo m (ls ++ [l]) := ext_getD (by simp [joinTo, foldW_len, mapR_len]) fun i hi => by
  rw [foldW_len, joinTo, mapR_len] at hi
  rw [foldW_getD, joinTo, mapR_len, if_pos hi, mapR_getD, if_pos hi, joinTo, mapR_getD, if_pos hi, orAll_snoc]
  split
  · rfl
  · rw [getD_none (by omega : l.length ≤ i), Nat.or_zero]
/-- The sets that the document speaks of. -/
def joinL (ls : List (List Nat)) : List Nat := neat (joinTo (maxLenL ls) ls)
def meetL (a b : List Nat) : List Nat := neat (mapR (max a.length b.length) fun i => a.getD i 0 &&& b.getD i 0)
def lessL (a b : List Nat) : List Nat := neat (mapR (max a.length b.length) fun i => andN (a.getD i 0) (b.getD i 0))
theorem joinL_getD (ls : List (List Nat)) (i : Nat) : (joinL ls).getD i 0 = orAll ls i := by
  rw [joinL, neat_getD, joinTo, mapR_getD_all fun i => orAll_far]
theorem meetL_getD (a b : List Nat) (i : Nat) : (meetL a b).getD i 0 = a.getD i 0 &&& b.getD i 0 := by
  rw [meetL, neat_getD, mapR_getD_all]
  intro i hi
  show a.getD i 0 &&& b.getD i 0 = 0
  rw [getD_none (by omega : a.length ≤ i), Nat.zero_and]
theorem lessL_getD (a b : List Nat) (i : Nat) : (lessL a b).getD i 0 = andN (a.getD i 0) (b.getD i 0) := by
  rw [lessL, neat_getD, mapR_getD_all]
  intro i hi; rw [getD_none (by omega : a.length ≤ i), andN_zero_l]
theorem joinL_w64 {ls : List (List Nat)} (h : ∀ l ∈ ls, W64 l) : W64 (joinL ls) := W64.of_getD fun i => by rw [joinL_getD]; exact orAll_lt ls i h
theorem meetL_w64 {a b : List Nat} (h : W64 a) : W64 (meetL a b) := W64.of_getD fun i => by rw [meetL_getD]; exact and_lt (h.getD i) _
theorem lessL_w64 {a b : List Nat} (h : W64 a) : W64 (lessL a b) := W64.of_getD fun i => by rw [lessL_getD]; exact andN_lt (h.getD i) _
theorem meetL_le (a b : List Nat) : (meetL a b).length ≤ max a.length b.length := by
  have := neat_le (mapR (max a.length b.length) fun i => a.getD i 0 &&& b.getD i 0)
  rwa [mapR_len] at this
theorem less_walk {a b : List Nat} (ha : W64 a) : neat (foldW andN a b (min a.length b.length)) = lessL a b :=
  tidy_ext (neat_tidy _) (neat_tidy _) fun i => by
    show (neat _).getD i 0 = (lessL a b).getD i 0
    rw [neat_getD, lessL_getD, foldW_getD]
    by_cases h : i < a.length
    · by_cases h2 : i < b.length
      · rw [if_pos h, if_pos (by omega)]
      · rw [if_pos h, if_neg (by omega), getD_none (by omega : b.length ≤ i), andN_zero_r (ha.getD i)]
    · rw [if_neg h, getD_none (by omega : a.length ≤ i), andN_zero_l]

/-- A sum over places. -/
def cntF (f : Nat → Nat) : Nat → Nat
  | 0 => 0
  | m + 1 => cntF f m + f m
/-- How many bits of a word are 1. -/
def pop (x : Nat) : Nat := cntF (fun i => (x.testBit i).toNat) 64
/-- How many numbers a set has. -/
def cnt (l : List Nat) : Nat := cntF (fun i => pop (l.getD i 0)) l.length
end Go.Proofs.YteoopilmdlhkhaaDoor
namespace Go.Proofs.YteoopilmdlhkhaaDoor
open Go.RowKit

theorem ret_slice {A : Option Addr} {n m c : Nat} (h : n = m) : Ending.returned (.slice A n c) = .returned (.slice A m c) := by rw [h]
def lenOf : Value → Nat | .slice _ n _ => n | _ => 0
theorem info_u64 : (Tryd.prog.info? 63).map (fun i => (i.zero, i.size, i.bytes)) = some (some (.int .u64 0), 1, 8) := by kernel_rfl

section
variable {w w' : World} {base : Nat} {e : TypeId} {k : IntKind} {zs : List Int}
/-- What the call owns, cell by cell. -/
theorem Ow.block {A : Option Addr} {n c : Nat} (h : Ow w base e k (.slice A n c) zs) (hp : 0 < zs.length) :
    ∃ g, A = some ⟨g, 0, none⟩ ∧ base ≤ g ∧ g < w.heap.size ∧ (∀ j x, zs[j]? = some x → w.cell? ⟨g, j, none⟩ = some (.int k x)) ∧ (∀ j, w.frozen? ⟨g, j, none⟩ = false) := by
  obtain ⟨h1, h2⟩ := h
  rcases h2 with ⟨h2, h0⟩ | ⟨g, cap, cur, hv, hg, hh, hnc, hcm, hsz, htake⟩
  · omega
  · injection hv with hA hn hc
    subst hA
    subst hn
    subst hc
    have hO : w.ownsRow base e 1 (.slice (some ⟨g, 0, none⟩) zs.length c) zs.length (zs.map (Value.int k)) := ⟨h1, .inr ⟨g, c, cur, rfl, hg, hh, hnc, hcm, hsz, htake⟩⟩
    refine ⟨g, rfl, hg, (Array.getElem?_eq_some_iff.1 hh).1, fun j x hx => ?_, fun j => World.ownsRow.frozenAt hO j⟩
    have hj : j < zs.length := (List.getElem?_eq_some_iff.1 hx).1
    rw [World.ownsRow.cellAt hO j (by omega), List.getElem?_map, hx]; rfl
theorem Ow.len {A : Option Addr} {n c : Nat} (h : Ow w base e k (.slice A n c) zs) : zs.length = n ∧ n ≤ c ∧ c ≤ maxLen := by
  rcases h.2 with ⟨h2, h0⟩ | ⟨g, cap, cur, hv, hg, hh, hnc, hcm, hsz, htake⟩
  · injection h2 with hA hn hc
    subst hn
    subst hc
    exact ⟨h0, Nat.le_refl _, by simp [maxLen]⟩
  · injection hv with hA hn hc
    subst hn
    subst hc
    exact ⟨rfl, hnc, hcm⟩
theorem Ow.stored {g n c : Nat} (h : Ow w base e k (.slice (some ⟨g, 0, none⟩) n c) zs) (j : Nat) (x : Int) :
    Ow (w.setCell ⟨g, j, none⟩ (.int k x)) base e k (.slice (some ⟨g, 0, none⟩) n c) (zs.set j x) := by
  obtain ⟨rfl, -, -⟩ := h.len
  have := (World.ownsRow.stored h j (.int k x)).1
  unfold Ow
  rw [List.map_set, List.length_set]
  exact this
end

set_option maxRecDepth 100000 in
theorem trim_any (A : Option Addr) (n c : Nat) (ws : List Nat) (w : World) (B : Nat) (hr : Sl w B .u64 A (nI ws)) (hn : ws.length = n) (hc : n ≤ c) (hmax : c ≤ 9223372036854775807) :
    Calls Tryd.prog 57 #[.slice A n c] w fun e w' => e = .returned (.slice A (neat ws).length c) ∧ w = w' := by
  have HL := hide (neat_len ws)
  rw [hn] at HL
  have HN := hide hn
  have HR := hide hr
  clear hn hr
  go_enter Tryd.func57, Tryd.ntmps57
  go_wp2
  go_loop [0] (fun s => ∃ k : Nat, k ≤ n ∧ s = .slice A k c ∧ Hid (nlen ws k = nlen ws n)) (fun s => lenOf s)
  case atStart => exact ⟨n, Nat.le_refl _, rfl, hide rfl⟩
  case round =>
    obtain ⟨k, hk, rfl, hl⟩ := hrel
    by_cases h0 : 0 < k
    · obtain ⟨j, rfl⟩ : ∃ j, k = j + 1 := ⟨k - 1, by omega⟩
      have hjl : j < ws.length := by have := HN.out; omega
      obtain ⟨b, o, rfl, -, hcell⟩ := HR.out (by rw [nI_len]; omega)
      obtain ⟨x, hx⟩ : ∃ x, ws[j]? = some x := ⟨_, List.getElem?_eq_getElem hjl⟩
      have hcx : w.cell? ⟨b, o + j, none⟩ = some (.int .u64 (x : Int)) := by rw [hcell j (by rw [nI_len]; exact hjl), nI_getD, getD_some hx]
      have HX := hide hx
      clear hcell hx hjl
      by_cases hx0 : x = 0
      · subst hx0
        have hz := hide (nlen_go HX.out)
        go_wp2
        go_round
        case rel => exact ⟨j, by omega, rfl, hide (by rw [← hl.out, hz.out])⟩
        case measure => simp [lenOf]
      · have hz := hide (nlen_stop HX.out hx0)
        have hxb : ((x : Int) == 0) = false := by simpa using hx0
        clear hx0
        go_wp2
        go_ret
        exact ⟨ret_slice (by rw [HL.out, ← hl.out, hz.out]), rfl⟩
    · have hk0 : k = 0 := by omega
      subst hk0
      go_wp2
      go_ret
      exact ⟨ret_slice (by rw [HL.out, ← hl.out]; rfl), rfl⟩

set_option maxRecDepth 100000 in
theorem clone_any (A : Option Addr) (n c : Nat) (ws : List Nat) (w : World) (B : Nat) (hr : Sl w B .u64 A (nI ws)) (hn : ws.length = n) (hB : B ≤ w.heap.size) (hmax : n ≤ 1099511627776) :
    Calls Tryd.prog 56 #[.slice A n c] w fun e w' => ∃ v, e = .returned v ∧ Ow w' w.heap.size 63 .u64 v (nI ws) ∧ Below w.heap.size w w' := by
  obtain ⟨i0, hi0, hz0, hz1, hz2⟩ := info_parts info_u64
  have HI := hide hi0
  have HN := hide hn
  have HR := hide hr
  clear hn hr hi0
  rcases A with _ | ad
  · have hz : ws = [] := by
      rcases ws with _ | ⟨x, xs⟩
      · rfl
      · obtain ⟨b, o, h, -⟩ := HR.out (by simp [nI])
        cases h
    have HZ := hide hz
    clear hz
    have q22 : ∀ (w : World) (a : Option Addr) (n c n' c' : Nat), (binOp .eql 39 (.slice a n c) (.slice none n' c')).run Tryd.prog w = .ok (.bool a.isNone) w := fun w a n c n' c' => Lib.run_eql_slice_nil w _ _ a n c n' c' Tryd.underlying39
    go_enter Tryd.func56, Tryd.ntmps56
    go_wp2
    go_ret
    exact ⟨_, rfl, by rw [HZ.out]; exact Ow.nil _ _ _ _, Below.refl _ _⟩
  · have ho0 : Ow (w.alloc (.cells #[] 63)) w.heap.size 63 .u64 (.slice (some ⟨w.heap.size, 0, none⟩) 0 0) [] := World.ownsRow_lit w #[] 0 (Nat.le_refl _) (by simp [maxLen]) (by simp)
    have HO := hide ho0
    clear ho0
    have q22 : ∀ (w : World) (a : Option Addr) (n c n' c' : Nat), (binOp .eql 39 (.slice a n c) (.slice none n' c')).run Tryd.prog w = .ok (.bool a.isNone) w := fun w a n c n' c' => Lib.run_eql_slice_nil w _ _ a n c n' c' Tryd.underlying39
    go_enter Tryd.func56, Tryd.ntmps56
    go_wp2_with (at_builtin; refine wpList_append_sl _ rfl (.tmp 5) (.tmp 6) _ rfl w.heap.size 63 .u64 i0 _ 8 Tryd.underlying39 HI.out hz0 hz1 hz2 rfl (by omega) (.slice (some ⟨w.heap.size, 0, none⟩) 0 0) [] rfl HO.out _ (some ad) n c (nI ws) rfl (by rw [nI_len]; exact HN.out) (HR.out.alloc hB _) (by simp; omega) (by simp) ?_; intro v1 w1 ho1 hb1)
    go_ret
    exact ⟨v1, rfl, by simpa using ho1, ((Below.refl _ _).alloc (Nat.le_refl _) _).trans hb1⟩

end Go.Proofs.YteoopilmdlhkhaaDoor
namespace Go.Proofs.YteoopilmdlhkhaaDoor
open Go.RowKit

theorem or_word (x y : Nat) (w : World) (hx : x < 18446744073709551616) (hy : y < 18446744073709551616) :
    Calls Tryd.prog 74 #[.int .u64 (x : Int), .int .u64 (y : Int)] w fun e w' => e = .returned (.int .u64 ((x ||| y : Nat) : Int)) ∧ w = w' := by
  have h := hide (u64_or_nat x y hx hy)
  go_enter Tryd.func74, Tryd.ntmps74
  go_wp2
  go_ret
  exact ⟨ret_int h.out, rfl⟩
theorem andN_word (x y : Nat) (w : World) (hx : x < 18446744073709551616) (hy : y < 18446744073709551616) :
    Calls Tryd.prog 93 #[.int .u64 (x : Int), .int .u64 (y : Int)] w fun e w' => e = .returned (.int .u64 ((andN x y : Nat) : Int)) ∧ w = w' := by
  have h := hide (u64_andNot_nat x y hx hy)
  go_enter Tryd.func93, Tryd.ntmps93
  go_wp2
  go_ret
  exact ⟨ret_int h.out, rfl⟩

set_option maxRecDepth 100000 in
theorem fold_or
    (A T : Option Addr) (n c m d : Nat) (xs ys : List Nat) (w : World) (base : Nat) (ho : Ow w base 63 .u64 (.slice A n c) (nI xs)) (hr : Sl w base .u64 T (nI ys)) (hm : ys.length = m) (hmd : m ≤ d) (hmax : d ≤ 9223372036854775807) (hmax2 : n ≤ 4611686018427387904) (ha : W64 xs) (hb : W64 ys) :
    Calls Tryd.prog 73 #[.slice A n c, .slice T m d, .func (.func 74) #[] #[]] w fun e w' => e = .returned (.tuple #[]) ∧ Ow w' base 63 .u64 (.slice A n c) (nI (foldW (· ||| ·) xs ys (min n m))) ∧ Below base w w' := by
  have hn : xs.length = n := by have := ho.len.1; rwa [nI_len] at this
  have HN := hide hn
  have HM := hide hm
  have HO := hide ho
  have HR := hide hr
  have HA := hide ha
  have HB := hide hb
  clear hn hm ho hr ha hb
  go_enter Tryd.func73, Tryd.ntmps73
  go_wp2
  all_goals
    go_loopw [16] (fun i wr => ∃ k : Nat, k ≤ min n m ∧ i = .int .i64 (k : Int) ∧ Ow wr base 63 .u64 (.slice A n c) (nI (foldW (· ||| ·) xs ys k)) ∧ Below base w wr) (fun i _ => min n m - (intOf i).toNat)
    case atStart => exact ⟨0, Nat.zero_le _, rfl, by rw [foldW_zero]; exact HO.out, Below.refl _ _⟩
    case round =>
      obtain ⟨k, hk, rfl, hok, hbk⟩ := hrel
      by_cases hlt : k < min n m
      · obtain ⟨g, rfl, hg1, hg2, hcell, hfrz⟩ := hok.block (by rw [nI_len, foldW_len]; have := HN.out; omega)
        obtain ⟨b2, o2, rfl, hb2, hc2⟩ := HR.out (by rw [nI_len]; have := HM.out; omega)
        have hkx : k < xs.length := by have := HN.out; omega
        have hky : k < ys.length := by have := HM.out; omega
        have hx := HA.out.getD k
        have hy := HB.out.getD k
        have g1 : wr.cell? ⟨g, k, none⟩ = some (.int .u64 ((xs.getD k 0 : Nat) : Int)) := hcell k _ (by rw [nI, List.getElem?_map, foldW_get hkx]; rfl)
        have g2 : wr.cell? ⟨b2, o2 + k, none⟩ = some (.int .u64 ((ys.getD k 0 : Nat) : Int)) := by rw [hbk.cell hb2, hc2 k (by rw [nI_len]; exact hky), nI_getD]
        have g3 : wr.frozen? ⟨g, k, none⟩ = false := hfrz k
        have hst := hok.stored k ((xs.getD k 0 ||| ys.getD k 0 : Nat) : Int)
        rw [← nI_set, foldW_step (f := (· ||| ·)) hkx] at hst
        have hbst := hbk.setCell (p := ⟨g, k, none⟩) hg1 (.int .u64 ((xs.getD k 0 ||| ys.getD k 0 : Nat) : Int))
        generalize hgx : xs.getD k 0 = x at *
        generalize hgy : ys.getD k 0 = y at *
        have HST := hide hst
        have HBST := hide hbst
        clear hcell hfrz hc2 hkx hky hgx hgy hst hbst hok hbk
        go_wp2_with (go_at_call 74; refine (or_word x y _ hx hy).mono ?_; rintro e w' ⟨rfl, rfl⟩)
        go_roundw
        case rel => exact ⟨k + 1, by omega, by go_num, HST.out, HBST.out⟩
        case measure => simp [intOf]; omega
      · have hk2 : min n m = k := by omega
        have HK := hide hk2
        have HOK := hide hok
        clear hk2 hok
        go_wp2
        go_end0
        exact ⟨rfl, by rw [HK.out]; exact HOK.out, hbk⟩

set_option maxRecDepth 100000 in
theorem fold_less
    (A T : Option Addr) (n c m d : Nat) (xs ys : List Nat) (w : World) (base : Nat) (ho : Ow w base 63 .u64 (.slice A n c) (nI xs)) (hr : Sl w base .u64 T (nI ys)) (hm : ys.length = m) (hmd : m ≤ d) (hmax : d ≤ 9223372036854775807) (hmax2 : n ≤ 4611686018427387904) (ha : W64 xs) (hb : W64 ys) :
    Calls Tryd.prog 73 #[.slice A n c, .slice T m d, .func (.func 93) #[] #[]] w fun e w' => e = .returned (.tuple #[]) ∧ Ow w' base 63 .u64 (.slice A n c) (nI (foldW andN xs ys (min n m))) ∧ Below base w w' := by
  have hn : xs.length = n := by have := ho.len.1; rwa [nI_len] at this
  have HN := hide hn
  have HM := hide hm
  have HO := hide ho
  have HR := hide hr
  have HA := hide ha
  have HB := hide hb
  clear hn hm ho hr ha hb
  go_enter Tryd.func73, Tryd.ntmps73
  go_wp2
  all_goals
    go_loopw [16] (fun i wr => ∃ k : Nat, k ≤ min n m ∧ i = .int .i64 (k : Int) ∧ Ow wr base 63 .u64 (.slice A n c) (nI (foldW andN xs ys k)) ∧ Below base w wr) (fun i _ => min n m - (intOf i).toNat)
    case atStart => exact ⟨0, Nat.zero_le _, rfl, by rw [foldW_zero]; exact HO.out, Below.refl _ _⟩
    case round =>
      obtain ⟨k, hk, rfl, hok, hbk⟩ := hrel
      by_cases hlt : k < min n m
      · obtain ⟨g, rfl, hg1, hg2, hcell, hfrz⟩ := hok.block (by rw [nI_len, foldW_len]; have := HN.out; omega)
        obtain ⟨b2, o2, rfl, hb2, hc2⟩ := HR.out (by rw [nI_len]; have := HM.out; omega)
        have hkx : k < xs.length := by have := HN.out; omega
        have hky : k < ys.length := by have := HM.out; omega
        have hx := HA.out.getD k
        have hy := HB.out.getD k
        have g1 : wr.cell? ⟨g, k, none⟩ = some (.int .u64 ((xs.getD k 0 : Nat) : Int)) := hcell k _ (by rw [nI, List.getElem?_map, foldW_get hkx]; rfl)
        have g2 : wr.cell? ⟨b2, o2 + k, none⟩ = some (.int .u64 ((ys.getD k 0 : Nat) : Int)) := by rw [hbk.cell hb2, hc2 k (by rw [nI_len]; exact hky), nI_getD]
        have g3 : wr.frozen? ⟨g, k, none⟩ = false := hfrz k
        have hst := hok.stored k ((andN (xs.getD k 0) (ys.getD k 0) : Nat) : Int)
        rw [← nI_set, foldW_step (f := andN) hkx] at hst
        have hbst := hbk.setCell (p := ⟨g, k, none⟩) hg1 (.int .u64 ((andN (xs.getD k 0) (ys.getD k 0) : Nat) : Int))
        generalize hgx : xs.getD k 0 = x at *
        generalize hgy : ys.getD k 0 = y at *
        have HST := hide hst
        have HBST := hide hbst
        clear hcell hfrz hc2 hkx hky hgx hgy hst hbst hok hbk
        go_wp2_with (go_at_call 93; refine (andN_word x y _ hx hy).mono ?_; rintro e w' ⟨rfl, rfl⟩)
        go_roundw
        case rel => exact ⟨k + 1, by omega, by go_num, HST.out, HBST.out⟩
        case measure => simp [intOf]; omega
      · have hk2 : min n m = k := by omega
        have HK := hide hk2
        have HOK := hide hok
        clear hk2 hok
        go_wp2
        go_end0
        exact ⟨rfl, by rw [HK.out]; exact HOK.out, hbk⟩
end Go.Proofs.YteoopilmdlhkhaaDoor
namespace Go.Proofs.YteoopilmdlhkhaaDoor
open Go.RowKit

end Go.Proofs.YteoopilmdlhkhaaDoor
namespace Go.Proofs.YteoopilmdlhkhaaDoor

def g1 (m x : Nat) : Nat := ((x / 2) &&& m) + (x &&& m)
def g2 (m x : Nat) : Nat := ((x / 4) &&& m) + (x &&& m)
def g3 (m x : Nat) : Nat := (x / 16 + x) &&& m
theorem b1 : ∀ d, d < 256 → ∀ r, r < 2 → ((d / 2 + 128 * r) &&& 85) + (d &&& 85) = g1 85 d ∧ g1 85 d < 256 := by decide +kernel
theorem b2 : ∀ d, d < 256 → ∀ r, r < 4 → ((g1 85 d / 4 + 64 * r) &&& 51) + (g1 85 d &&& 51) = g2 51 (g1 85 d) ∧ g2 51 (g1 85 d) < 69 ∧ g2 51 (g1 85 d) % 16 < 5 := by decide +kernel
theorem b3 : ∀ d, d < 256 → ∀ r, r < 5 → (g2 51 (g1 85 d) / 16 + 16 * r + g2 51 (g1 85 d)) < 256 ∧ (g2 51 (g1 85 d) / 16 + 16 * r + g2 51 (g1 85 d)) &&& 15 = cntF (fun i => (d.testBit i).toNat) 8 := by decide +kernel

end Go.Proofs.YteoopilmdlhkhaaDoor
namespace Go.Proofs.YteoopilmdlhkhaaDoor
open Go.RowKit

theorem wrap_in {x : Nat} (h : x < 18446744073709551616) : IntKind.u64.wrap (x : Int) = (x : Int) := by rw [IntKind.wrap_u64]; omega
end Go.Proofs.YteoopilmdlhkhaaDoor
namespace Go.Proofs.YteoopilmdlhkhaaDoor

/-- Is a number in a set? -/
def hasB (ws : List Nat) (n : Int) : Bool := decide (0 ≤ n) && (ws.getD (n.toNat / 64) 0).testBit (n.toNat % 64)
theorem hasB_nat (ws : List Nat) (m : Nat) : hasB ws (m : Int) = (ws.getD (m / 64) 0).testBit (m % 64) := by
  unfold hasB; rw [Int.toNat_natCast]; simp
theorem hasB_out {ws : List Nat} {n : Int} (h : n < 0 ∨ (ws.length : Int) ≤ n / 64) : hasB ws n = false := by
  unfold hasB
  rcases h with h | h
  · simp; omega
  · rw [getD_none (by omega)]; simp
theorem pow_lt {k : Nat} (h : k < 64) : 2 ^ k < 18446744073709551616 := Nat.pow_lt_pow_right (by omega) h
/-- A number's bit, in its word. -/
def bitAt (n : Int) (i : Nat) : Nat := if 0 ≤ n ∧ n < 4096 ∧ i = n.toNat / 64 then 2 ^ (n.toNat % 64) else 0
def bitsOf (l : List Int) (i : Nat) : Nat := l.foldl (fun x n => x ||| bitAt n i) 0
theorem bitsOf_snoc (l : List Int) (n : Int) (i : Nat) : bitsOf (l ++ [n]) i = bitsOf l i ||| bitAt n i := by simp [bitsOf]
theorem snoc_ind {P : List Int → Prop} (h0 : P []) (h1 : ∀ l n, P l → P (l ++ [n])) (l : List Int) : P l := by
  have h : ∀ k, ∀ l : List Int, l.length = k → P l := by
    intro k
    induction k with
    | zero => intro l hl; rw [List.eq_nil_of_length_eq_zero hl]; exact h0
    | succ k ih =>
      intro l hl
      have hne : l ≠ [] := by intro h; rw [h] at hl; simp at hl
      rw [← List.dropLast_concat_getLast hne]
      exact h1 _ _ (ih _ (by rw [List.length_dropLast, hl]; rfl))
  exact h l.length l rfl
/-- What is put in is in. -/
theorem bitAt_bit (n : Int) (m : Nat) : (bitAt n (m / 64)).testBit (m % 64) = decide (n = (m : Int) ∧ m < 4096) := by
  unfold bitAt
  split
  · rename_i h
    rw [Nat.testBit_two_pow]
    rw [Bool.eq_iff_iff]
    simp only [decide_eq_true_eq]
    omega
  · rename_i h
    rw [Nat.zero_testBit]
    symm
    rw [decide_eq_false_iff_not]
    intro h2
    exact h ⟨by omega, by omega, by omega⟩
theorem bitsOf_bit (m : Nat) (l : List Int) : (bitsOf l (m / 64)).testBit (m % 64) = decide ((m : Int) ∈ l ∧ m < 4096) := by
  induction l using snoc_ind with
  | h0 => simp [bitsOf]
  | h1 l n ih =>
    rw [bitsOf_snoc, Nat.testBit_or, ih, bitAt_bit, Bool.eq_iff_iff]
    simp only [Bool.or_eq_true, decide_eq_true_eq, List.mem_append, List.mem_singleton]
    constructor
    · rintro (⟨h, h2⟩ | ⟨h, h2⟩)
      · exact ⟨.inl h, h2⟩
      · exact ⟨.inr h.symm, h2⟩
    · rintro ⟨h | h, h2⟩
      · exact .inl ⟨h, h2⟩
      · exact .inr ⟨h.symm, h2⟩

/-- So many words of 0 more. -/
def padW (s : List Nat) (j : Nat) : List Nat := s ++ List.replicate j 0
theorem padW_len (s : List Nat) (j : Nat) : (padW s j).length = s.length + j := by simp [padW]
theorem padW_getD (s : List Nat) (j i : Nat) : (padW s j).getD i 0 = s.getD i 0 := by
  unfold padW
  by_cases h : i < s.length
  · simp [List.getD, List.getElem?_append_left h]
  · rw [getD_none (by omega : s.length ≤ i)]
    simp only [List.getD, List.getElem?_append_right (by omega : s.length ≤ i), List.getElem?_replicate]
    split <;> simp
theorem padW_zero (s : List Nat) : padW s 0 = s := by simp [padW]
theorem padW_succ (s : List Nat) (j : Nat) : padW s (j + 1) = padW s j ++ [0] := by simp [padW, List.replicate_succ']
/-- A set with one number more. -/
def putW (s : List Nat) (m : Nat) : List Nat := (padW s (m / 64 + 1 - s.length)).set (m / 64) (s.getD (m / 64) 0 ||| 2 ^ (m % 64))
theorem putW_len (s : List Nat) (m : Nat) : (putW s m).length = max s.length (m / 64 + 1) := by
  rw [putW, List.length_set, padW_len]; omega
theorem putW_getD (s : List Nat) (m i : Nat) : (putW s m).getD i 0 = s.getD i 0 ||| (if i = m / 64 then 2 ^ (m % 64) else 0) := by
  rw [putW, set_getD _ _ _ _ (by rw [padW_len]; omega), padW_getD]
  by_cases h : i = m / 64
  · subst h; simp
  · simp [h]
theorem putW_w64 {s : List Nat} (h : W64 s) (m : Nat) : W64 (putW s m) := W64.of_getD fun i => by
  rw [putW_getD]
  refine or_lt (h.getD i) ?_
  split
  · exact pow_lt (Nat.mod_lt _ (by omega))
  · omega
theorem putW_tidy {s : List Nat} (h : Tidy s) (m : Nat) : Tidy (putW s m) := fun _ => by
  rw [putW_len, putW_getD]
  have hp : 0 < 2 ^ (m % 64) := Nat.two_pow_pos _
  by_cases h1 : s.length ≤ m / 64 + 1
  · rw [if_pos (by omega)]
    intro h0
    have := (Nat.or_eq_zero_iff.1 h0).2
    omega
  · have hl := h (by omega)
    rw [show max s.length (m / 64 + 1) - 1 = s.length - 1 by omega]
    intro h0
    exact hl (Nat.or_eq_zero_iff.1 h0).1
/-- One number more, if it is one of sets. -/
def putI (s : List Nat) (n : Int) : List Nat := if 0 ≤ n ∧ n < 4096 then putW s n.toNat else s
theorem putI_getD (s : List Nat) (n : Int) (i : Nat) : (putI s n).getD i 0 = s.getD i 0 ||| bitAt n i := by
  unfold putI bitAt
  by_cases h : 0 ≤ n ∧ n < 4096
  · rw [if_pos h, putW_getD]
    by_cases h2 : i = n.toNat / 64
    · rw [if_pos h2, if_pos ⟨h.1, h.2, h2⟩]
    · rw [if_neg h2, if_neg (fun h3 => h2 h3.2.2)]
  · rw [if_neg h, if_neg (fun h3 => h ⟨h3.1, h3.2.1⟩), Nat.or_zero]
def putsL (s : List Nat) (l : List Int) : List Nat := l.foldl putI s
theorem putsL_snoc (s : List Nat) (l : List Int) (n : Int) : putsL s (l ++ [n]) = putI (putsL s l) n := by simp [putsL]
theorem putsL_getD (s : List Nat) (i : Nat) (l : List Int) : (putsL s l).getD i 0 = s.getD i 0 ||| bitsOf l i := by
  induction l using snoc_ind with
  | h0 => simp [putsL, bitsOf]
  | h1 l n ih => rw [putsL_snoc, putI_getD, ih, bitsOf_snoc, Nat.or_assoc]
theorem putI_w64 {s : List Nat} (h : W64 s) (n : Int) : W64 (putI s n) := by
  unfold putI; split
  · exact putW_w64 h _
  · exact h
theorem putsL_w64 {s : List Nat} (h : W64 s) (l : List Int) : W64 (putsL s l) := by
  induction l using snoc_ind with
  | h0 => exact h
  | h1 l n ih => rw [putsL_snoc]; exact putI_w64 ih n
theorem putI_len (s : List Nat) (n : Int) : (putI s n).length ≤ max s.length 64 := by
  unfold putI; split
  · rw [putW_len]; omega
  · omega
theorem putsL_len (s : List Nat) (l : List Int) : (putsL s l).length ≤ max s.length 64 := by
  induction l using snoc_ind with
  | h0 => exact Nat.le_max_left _ _
  | h1 l n ih => rw [putsL_snoc]; have := putI_len (putsL s l) n; omega
theorem putsL_tidy {s : List Nat} (h : Tidy s) (l : List Int) : Tidy (putsL s l) := by
  induction l using snoc_ind with
  | h0 => exact h
  | h1 l n ih =>
    rw [putsL_snoc]
    unfold putI; split
    · exact putW_tidy ih _
    · exact ih
/-- A set of numbers. -/
def ofL (l : List Int) : List Nat := putsL [] l
theorem tidy_nil : Tidy [] := fun h => by simp at h
theorem ofL_tidy (l : List Int) : Tidy (ofL l) := putsL_tidy tidy_nil l
theorem ofL_getD (l : List Int) (i : Nat) : (ofL l).getD i 0 = bitsOf l i := by rw [ofL, putsL_getD]; simp
theorem ofL_w64 (l : List Int) : W64 (ofL l) := putsL_w64 W64.nil l
theorem ofL_len (l : List Int) : (ofL l).length ≤ 64 := by have := putsL_len [] l; simpa [ofL] using this
/-- With numbers: joined with their set, or put in one by one. -/
theorem with_both (s : List Nat) (l : List Int) : joinL [s, ofL l] = neat (putsL s l) :=
  tidy_ext (neat_tidy _) (neat_tidy _) fun i => by
    show (joinL [s, ofL l]).getD i 0 = _
    rw [joinL_getD, orAll_two, ofL_getD, neat_getD, putsL_getD]

/-- One number less. -/
def remI (s : List Nat) (n : Int) : List Nat := if 0 ≤ n ∧ n / 64 < (s.length : Int) then s.set (n.toNat / 64) (andN (s.getD (n.toNat / 64) 0) (2 ^ (n.toNat % 64))) else s
def remsL (s : List Nat) (l : List Int) : List Nat := l.foldl remI s
theorem remsL_snoc (s : List Nat) (l : List Int) (n : Int) : remsL s (l ++ [n]) = remI (remsL s l) n := by simp [remsL]
theorem remI_len (s : List Nat) (n : Int) : (remI s n).length = s.length := by
  unfold remI; split <;> simp
theorem remsL_len (s : List Nat) (l : List Int) : (remsL s l).length = s.length := by
  induction l using snoc_ind with
  | h0 => rfl
  | h1 l n ih => rw [remsL_snoc, remI_len, ih]
theorem remI_w64 {s : List Nat} (h : W64 s) (n : Int) : W64 (remI s n) := by
  unfold remI
  split
  · rename_i hh
    exact W64.of_getD fun i => by
      rw [set_getD _ _ _ _ (by omega)]
      split
      · exact andN_lt (h.getD _) _
      · exact h.getD i
  · exact h
theorem remsL_w64 {s : List Nat} (h : W64 s) (l : List Int) : W64 (remsL s l) := by
  induction l using snoc_ind with
  | h0 => exact h
  | h1 l n ih => rw [remsL_snoc]; exact remI_w64 ih n
theorem remI_bit {s : List Nat} (h : W64 s) (n : Int) (m : Nat) : ((remI s n).getD (m / 64) 0).testBit (m % 64) = ((s.getD (m / 64) 0).testBit (m % 64) && !decide (n = (m : Int))) := by
  unfold remI
  split
  · rename_i hh
    rw [set_getD _ _ _ _ (by omega)]
    split
    · rename_i h2
      rw [← h2, andN_bit (h.getD _) (pow_lt (Nat.mod_lt _ (by omega))), Nat.testBit_two_pow]
      congr 2
      rw [Bool.eq_iff_iff]
      simp only [decide_eq_true_eq]
      omega
    · rename_i h2
      have : ¬ n = (m : Int) := by omega
      simp [this]
  · rename_i hh
    by_cases h2 : n = (m : Int)
    · subst h2
      rw [getD_none (by omega)]
      simp
    · simp [h2]
theorem remsL_bit {s : List Nat} (h : W64 s) (m : Nat) (l : List Int) : ((remsL s l).getD (m / 64) 0).testBit (m % 64) = ((s.getD (m / 64) 0).testBit (m % 64) && !decide ((m : Int) ∈ l)) := by
  induction l using snoc_ind with
  | h0 => simp [remsL]
  | h1 l n ih =>
    rw [remsL_snoc, remI_bit (remsL_w64 h l), ih]
    by_cases h1 : (m : Int) ∈ l
    · simp [h1]
    · by_cases h2 : n = (m : Int)
      · simp [h2]
      · have h3 : ¬ (m : Int) = n := fun e => h2 e.symm
        simp [h1, h2, h3]
/-- A set without numbers. -/
def withoutL (s : List Nat) (l : List Int) : List Nat := neat (remsL s l)
theorem hasB_with (s : List Nat) (l : List Int) (m : Nat) : hasB (joinL [s, ofL l]) (m : Int) = (hasB s (m : Int) || decide ((m : Int) ∈ l ∧ m < 4096)) := by
  rw [hasB_nat, hasB_nat, joinL_getD, orAll_two, ofL_getD, Nat.testBit_or, bitsOf_bit]
theorem hasB_without {s : List Nat} (h : W64 s) (l : List Int) (m : Nat) : hasB (withoutL s l) (m : Int) = (hasB s (m : Int) && !decide ((m : Int) ∈ l)) := by
  rw [hasB_nat, hasB_nat, withoutL, neat_getD, remsL_bit h]
theorem withoutL_w64 {s : List Nat} (h : W64 s) (l : List Int) : W64 (withoutL s l) := (remsL_w64 h l).neat
theorem withoutL_len (s : List Nat) (l : List Int) : (withoutL s l).length ≤ s.length := by
  have := neat_le (remsL s l)
  rwa [remsL_len] at this
end Go.Proofs.YteoopilmdlhkhaaDoor
namespace Go.Proofs.YteoopilmdlhkhaaDoor
open Go.RowKit

theorem reaches_yes (A : Option Addr) (n c m : Nat) (w : World) (h : m / 64 < n) (hm : m ≤ 9223372036854775807) (hn : n ≤ 4611686018427387904) :
    Calls Tryd.prog 26 #[.slice A n c, .int .i64 (m : Int)] w fun e w' => e = .returned (.bool true) ∧ w = w' := by
  have hq2 : decide ((m : Int) / 64 < (n : Int)) = true := by simp; omega
  go_enter Tryd.func26, Tryd.ntmps26
  go_wp2
  go_ret
  exact ⟨rfl, rfl⟩
theorem reaches_no (A : Option Addr) (n c : Nat) (m : Int) (w : World) (h : m < 0 ∨ (n : Int) ≤ m / 64) (hm : -9223372036854775808 ≤ m ∧ m ≤ 9223372036854775807) (hn : n ≤ 4611686018427387904) :
    Calls Tryd.prog 26 #[.slice A n c, .int .i64 m] w fun e w' => e = .returned (.bool false) ∧ w = w' := by
  by_cases h0 : m < 0
  · clear h
    go_enter Tryd.func26, Tryd.ntmps26
    go_wp2
    go_ret
    exact ⟨rfl, rfl⟩
  · have hq2 : decide (m / 64 < (n : Int)) = false := by simp; omega
    clear h
    go_enter Tryd.func26, Tryd.ntmps26
    go_wp2
    go_ret
    exact ⟨rfl, rfl⟩
theorem pow_word (k : Nat) (h : k < 64) : IntKind.u64.wrap ((2 : Int) ^ k) = ((2 ^ k : Nat) : Int) := by
  have e : ((2 : Int) ^ k) = ((2 ^ k : Nat) : Int) := by simp
  rw [e, wrap_in (pow_lt h)]
theorem bit_any (m : Nat) (w : World) (hm : m ≤ 9223372036854775807) :
    Calls Tryd.prog 27 #[.int .i64 (m : Int)] w fun e w' => e = .returned (.int .u64 ((2 ^ (m % 64) : Nat) : Int)) ∧ w = w' := by
  have H := hide (pow_word (m % 64) (Nat.mod_lt _ (by omega)))
  go_enter Tryd.func27, Tryd.ntmps27
  go_wp2
  go_ret
  exact ⟨ret_int H.out, rfl⟩

/-- What a call answers: a set in memory. -/
def MadeB (W : World) (r : List Nat) (e : Ending) (w' : World) : Prop := ∃ A c, e = .returned (.slice A r.length c) ∧ r.length ≤ c ∧ c ≤ 9223372036854775807 ∧ Sl w' w'.heap.size .u64 A (nI r) ∧ Below W.heap.size W w'
/-- .. in a block that the call has made. -/
def MadeN (W : World) (r : List Nat) (e : Ending) (w' : World) : Prop := ∃ A c, e = .returned (.slice A r.length c) ∧ r.length ≤ c ∧ c ≤ 9223372036854775807 ∧ Sl w' w'.heap.size .u64 A (nI r) ∧ Below W.heap.size W w' ∧ ∀ b o, A = some ⟨b, o, none⟩ → W.heap.size ≤ b
theorem MadeN.made {W : World} {r : List Nat} {e : Ending} {w' : World} (h : MadeN W r e w') : MadeB W r e w' := let ⟨A, c, h1, h2, h3, h4, h5, _⟩ := h; ⟨A, c, h1, h2, h3, h4, h5⟩
theorem Ow.newB {w : World} {base : Nat} {e : TypeId} {k : IntKind} {A : Option Addr} {n c : Nat} {zs : List Int} (h : Ow w base e k (.slice A n c) zs) {b o : Nat} (hA : A = some ⟨b, o, none⟩) : base ≤ b := by
  rcases h.2 with ⟨h2, -⟩ | ⟨g, cap, cur, hv, hg, -⟩
  · injection h2 with h2 _ _
    rw [hA] at h2
    cases h2
  · injection hv with h2 _ _
    rw [hA] at h2
    cases h2
    exact hg
theorem Ow.trimmed {w : World} {base : Nat} {e : TypeId} {A : Option Addr} {n c : Nat} {ws : List Nat} (h : Ow w base e .u64 (.slice A n c) (nI ws)) : ws.length = n ∧ n ≤ c ∧ c ≤ 9223372036854775807 ∧ Sl w w.heap.size .u64 A (nI ws) ∧ Sl w w.heap.size .u64 A (nI (neat ws)) := by
  obtain ⟨h1, h2, h3⟩ := h.len
  rw [nI_len] at h1
  simp only [maxLen] at h3
  obtain ⟨A', c', hv, -, -, hs⟩ := h.sl
  injection hv with hA _ _
  subst hA
  exact ⟨h1, h2, by omega, hs, by rw [neat, nI_take]; exact hs.take _⟩

set_option maxRecDepth 100000 in
theorem less_any (A T : Option Addr) (n c m d : Nat) (xs ys : List Nat) (w : World) (hx : Sl w w.heap.size .u64 A (nI xs)) (hy : Sl w w.heap.size .u64 T (nI ys)) (hn : xs.length = n) (hm : ys.length = m) (hmd : m ≤ d) (hd : d ≤ 9223372036854775807) (hmax : n ≤ 1099511627776) (wx : W64 xs) (wy : W64 ys) :
    Calls Tryd.prog 86 #[.slice A n c, .slice T m d] w (MadeB w (lessL xs ys)) := by
  have HX := hide hx
  have HY := hide hy
  have HN := hide hn
  have HM := hide hm
  have WX := hide wx
  have WY := hide wy
  have HF := hide (less_walk (b := ys) wx)
  rw [hn, hm] at HF
  clear hx hy hn hm wx wy
  go_enter Tryd.func86, Tryd.ntmps86
  go_wp2_with (first
    | (go_at_call 56; refine (clone_any A n c xs w _ HX.out HN.out (Nat.le_refl _) hmax).mono ?_; rintro e w1 ⟨v1, rfl, ho1, hb1⟩; obtain ⟨A1, c1, rfl, -, -, -⟩ := ho1.sl; have HO1 := hide ho1; have HL1 := hide ho1.len.1; clear ho1)
    | (go_at_call 73; refine (fold_less A1 T _ c1 m d xs ys w1 w.heap.size HO1.out (HY.out.below hb1) HM.out hmd hd (by rw [nI_len, HN.out]; omega) WX.out WY.out).mono ?_; rw [nI_len, HN.out]; rintro e w2 ⟨rfl, ho2, hb2⟩; have HO2 := hide ho2; clear ho2; have hc2 := hb1.trans hb2)
    | (go_at_call 57; refine (trim_any A1 _ c1 _ w2 _ HO2.out.trimmed.2.2.2.1 HO2.out.trimmed.1 HO2.out.trimmed.2.1 HO2.out.trimmed.2.2.1).mono ?_; rw [HF.out]; rintro e w' ⟨rfl, rfl⟩))
  go_ret
  have h := HO2.out.trimmed
  rw [HF.out] at h
  have hl : (lessL xs ys).length ≤ n := by
    have := neat_le (foldW andN xs ys (min n m))
    rw [HF.out, foldW_len, HN.out] at this; exact this
  exact ⟨A1, c1, rfl, by have := h.2.1; omega, h.2.2.1, h.2.2.2.2, hc2⟩

set_option maxRecDepth 100000 in
theorem holds_any (A T : Option Addr) (n c m d : Nat) (xs ys : List Nat) (w : World) (hx : Sl w w.heap.size .u64 A (nI xs)) (hy : Sl w w.heap.size .u64 T (nI ys)) (hn : xs.length = n) (hm : ys.length = m) (hc : n ≤ c) (hc2 : c ≤ 9223372036854775807) (hmax : m ≤ 1099511627776) (wx : W64 xs) (wy : W64 ys) :
    Calls Tryd.prog 87 #[.slice A n c, .slice T m d] w fun e w' => e = .returned (.bool (decide ((lessL ys xs).length = 0))) ∧ Below w.heap.size w w' := by
  have H := hide (less_any T A m d n c ys xs w hy hx hm hn hc hc2 hmax wy wx)
  clear hx hy hn hm wx wy
  generalize lessL ys xs = r at *
  go_enter Tryd.func87, Tryd.ntmps87
  go_wp2_with (go_at_call 86; refine H.out.mono ?_; rintro e w1 ⟨A1, c1, rfl, -, -, -, hb1⟩)
  go_ret
  exact ⟨ret_bool (by rw [Bool.eq_iff_iff]; simp), hb1⟩

/-- A slice of sets in memory: of each its address, its room, its words. -/
def Sls (w : World) (B : Nat) (L : Option Addr) (ls : List (Option Addr × Nat × List Nat)) : Prop :=
  0 < ls.length → ∃ b o, L = some ⟨b, o, none⟩ ∧ b < B ∧ ∀ (j : Nat) (t : Option Addr × Nat × List Nat), ls[j]? = some t → w.cell? ⟨b, o + j, none⟩ = some (.slice t.1 t.2.2.length t.2.1)
def Good (w : World) (B : Nat) (t : Option Addr × Nat × List Nat) : Prop := Sl w B .u64 t.1 (nI t.2.2) ∧ W64 t.2.2 ∧ t.2.2.length ≤ t.2.1 ∧ t.2.1 ≤ 9223372036854775807
def wordsOf (ls : List (Option Addr × Nat × List Nat)) : List (List Nat) := ls.map fun t => t.2.2

theorem take_snoc {α : Type} {l : List α} {k : Nat} {t : α} (h : l[k]? = some t) : l.take (k + 1) = l.take k ++ [t] := by
  rw [List.take_add_one, h]; rfl
theorem maxLenL_take {ls : List (List Nat)} (k : Nat) : maxLenL (ls.take k) ≤ maxLenL ls := by
  suffices h : ∀ (ms : List (List Nat)) (b : Nat), (∀ l ∈ ms, l.length ≤ b) → maxLenL ms ≤ b from h _ _ fun l hl => maxLenL_ge (List.mem_of_mem_take hl)
  intro ms b
  suffices h : ∀ (ms : List (List Nat)) (x : Nat), x ≤ b → (∀ l ∈ ms, l.length ≤ b) → ms.foldl (fun m l => max m l.length) x ≤ b from fun hl => h ms 0 (by omega) hl
  intro ms
  induction ms with
  | nil => intro x hx _; exact hx
  | cons l ms ih =>
    intro x hx hl
    rw [List.foldl_cons]
    have := hl l (List.mem_cons_self ..)
    exact ih _ (by omega) fun m hm => hl m (List.mem_cons_of_mem _ hm)
theorem madeZeros (M : Nat) : (madeCells (Value.int IntKind.u64 0).cells (M * 1)).toList = (nI (joinTo M [])).map (Value.int .u64) := by
  rw [Nat.mul_one, joinTo_nil]
  show (madeCells #[Value.int .u64 0] M).toList = _
  rw [toList_madeCells_one]
  simp [nI]

set_option maxRecDepth 100000 in
theorem join_anyN (L : Option Addr) (m c : Nat) (ls : List (Option Addr × Nat × List Nat)) (w : World) (hl : Sls w w.heap.size L ls) (hg : ∀ t ∈ ls, Good w w.heap.size t) (hm : ls.length = m) (hmax : m ≤ 1099511627776) (hlen : maxLenL (wordsOf ls) ≤ 1099511627776) :
    Calls Tryd.prog 58 #[.slice L m c] w (MadeN w (joinL (wordsOf ls))) := by
  obtain ⟨i0, hi0, hz0, hz1, hz2⟩ := info_parts info_u64
  have HI := hide hi0
  have HL := hide hl
  have HG := hide hg
  have HM := hide hm
  clear hl hg hm hi0
  go_enter Tryd.func58, Tryd.ntmps58
  go_wp2
  go_loop [3, 11] (fun s i => ∃ (k C : Nat), k ≤ m ∧ i = .int .i64 (k : Int) ∧ s = .int .i64 (C : Int) ∧ C ≤ 1099511627776 ∧ Hid (C = maxLenL (wordsOf (ls.take k)))) (fun _ i => m - (intOf i).toNat)
  case atStart => exact ⟨0, 0, Nat.zero_le _, rfl, rfl, by omega, hide rfl⟩
  case round =>
    obtain ⟨k, C, hk, rfl, rfl, hC, hc⟩ := hrel
    by_cases hlt : k < m
    · have hkl : k < ls.length := by have := HM.out; omega
      obtain ⟨b, o, rfl, -, hcell⟩ := HL.out (by omega)
      obtain ⟨⟨T, d, ys⟩, ht⟩ : ∃ t, ls[k]? = some t := ⟨_, List.getElem?_eq_getElem hkl⟩
      have g1 := hcell k _ ht
      have hsn := hide (show max C ys.length = maxLenL (wordsOf (ls.take (k + 1))) by rw [hc.out, take_snoc ht, wordsOf, wordsOf, List.map_append, List.map_cons, List.map_nil, maxLenL_snoc])
      have hle : max C ys.length ≤ 1099511627776 := by
        rw [hsn.out]
        refine Nat.le_trans ?_ hlen
        rw [wordsOf, List.map_take]
        exact maxLenL_take _
      simp only at g1
      clear hcell hkl ht
      by_cases hmx : C < ys.length
      · have hx : max C ys.length = ys.length := by omega
        rw [hx] at hsn hle
        clear hx
        go_wp2
        go_round
        case rel => exact ⟨k + 1, ys.length, by omega, by go_num, rfl, hle, hsn⟩
        case measure => simp [intOf]; omega
      · have hx : max C ys.length = C := by omega
        rw [hx] at hsn hle
        clear hx
        go_wp2
        go_round
        case rel => exact ⟨k + 1, C, by omega, by go_num, rfl, hle, hsn⟩
        case measure => simp [intOf]; omega
    · have hkm : k = m := by omega
      have hCM := hide (show C = maxLenL (wordsOf ls) by rw [hc.out, List.take_of_length_le (by have := HM.out; omega)])
      clear hc hkm
      obtain ⟨cs, hcs, hmk⟩ : ∃ cs : Array Value, cs.toList = (nI (joinTo C [])).map (Value.int .u64) ∧ ∀ W : World, (Instr.makeSlice 39 (.int .i64 (C : Int)) (.int .i64 (C : Int))).run Tryd.prog W = .ok (.slice (some ⟨W.heap.size, 0, none⟩) C C) (W.alloc (.cells cs 63)) :=
        ⟨madeCells (Value.int IntKind.u64 0).cells (C * 1), madeZeros C, fun W => by
          have h := run_make (P := Tryd.prog) W 39 63 i0 _ Tryd.underlying39 HI.out hz0 .i64 .i64 (C : Int) (C : Int) (by omega) (by omega) (by rw [hz2]; omega) (by omega)
          rw [hz1, Int.toNat_natCast] at h
          exact h⟩
      have hcsz : cs.size = C * 1 := by
        have := congrArg List.length hcs
        simpa [nI, joinTo, mapR_len] using this
      have ho0 : Ow (w.alloc (.cells cs 63)) w.heap.size 63 .u64 (.slice (some ⟨w.heap.size, 0, none⟩) C C) (nI (joinTo C [])) := by
        have h := World.ownsRow_lit (base := w.heap.size) (e := 63) (size := 1) w cs C (Nat.le_refl _) (by simp only [maxLen]; omega) hcsz
        rw [hcs] at h
        unfold Ow
        rw [nI_len, joinTo, mapR_len]
        exact h
      have HO0 := hide ho0
      clear ho0 hcs hcsz
      go_wp2
      go_loopw [24] (fun i wr => ∃ k : Nat, k ≤ m ∧ i = .int .i64 (k : Int) ∧ Ow wr w.heap.size 63 .u64 (.slice (some ⟨w.heap.size, 0, none⟩) C C) (nI (joinTo C (wordsOf (ls.take k)))) ∧ Below w.heap.size w wr) (fun i _ => m - (intOf i).toNat)
      case atStart => exact ⟨0, Nat.zero_le _, rfl, HO0.out, (Below.refl _ _).alloc (Nat.le_refl _) _⟩
      case round =>
        obtain ⟨k, hk, rfl, hok, hbk⟩ := hrel
        clear hmk
        have HOK := hide hok
        clear hok
        by_cases hlt : k < m
        · have hkl : k < ls.length := by have := HM.out; omega
          obtain ⟨b, o, rfl, hbB, hcell⟩ := HL.out (by omega)
          obtain ⟨⟨T, d, ys⟩, ht⟩ : ∃ t, ls[k]? = some t := ⟨_, List.getElem?_eq_getElem hkl⟩
          have g1 := hcell k _ ht
          have hgd := HG.out _ (List.mem_of_getElem? ht)
          simp only at g1
          have g2 : wr.cell? ⟨b, o + k, none⟩ = some (.slice T ys.length d) := by rw [hbk.cell hbB, g1]
          have hyl : ys.length ≤ C := by rw [hCM.out]; exact maxLenL_ge (List.mem_map.2 ⟨_, List.mem_of_getElem? ht, rfl⟩)
          have hsn := hide (show foldW (· ||| ·) (joinTo C (wordsOf (ls.take k))) ys (min C ys.length) = joinTo C (wordsOf (ls.take (k + 1))) by
            rw [joinTo_step hyl, take_snoc ht, wordsOf, wordsOf, List.map_append, List.map_cons, List.map_nil])
          have hw64 := hide (show W64 (joinTo C (wordsOf (ls.take k))) from W64.of_getD fun i => by
            rw [joinTo, mapR_getD]
            split
            · exact orAll_lt _ _ fun l hl => by
                obtain ⟨t, ht', rfl⟩ := List.mem_map.1 hl
                exact (HG.out t (List.mem_of_mem_take ht')).2.1
            · omega)
          have HGD := hide hgd
          have hd1 : ys.length ≤ d := hgd.2.2.1
          have hd2 : d ≤ 9223372036854775807 := hgd.2.2.2
          clear hcell hkl ht g1 hgd
          generalize joinTo C (wordsOf (ls.take k)) = js at *
          go_wp2_with (go_at_call 73; refine (fold_or (some ⟨w.heap.size, 0, none⟩) T C C ys.length d js ys wr w.heap.size HOK.out (HGD.out.1.below hbk) rfl hd1 hd2 (by omega) hw64.out HGD.out.2.1).mono ?_; rw [hsn.out]; rintro e w2 ⟨rfl, ho2, hb2⟩)
          go_roundw
          case rel => exact ⟨k + 1, by omega, by go_num, ho2, hbk.trans hb2⟩
          case measure => simp [intOf]; omega
        · have hfin := hide (show joinTo C (wordsOf (ls.take k)) = joinTo C (wordsOf ls) by rw [List.take_of_length_le (by have := HM.out; omega)])
          have hneat := hide (show neat (joinTo C (wordsOf ls)) = joinL (wordsOf ls) by rw [hCM.out]; rfl)
          have HOK2 := hide (hfin.out ▸ HOK.out)
          clear HOK
          go_wp2_with (go_at_call 57; refine (trim_any _ C C _ wr _ HOK2.out.trimmed.2.2.2.1 HOK2.out.trimmed.1 (Nat.le_refl _) (by omega)).mono ?_; rw [hneat.out]; rintro e w' ⟨rfl, rfl⟩)
          go_ret
          have h := HOK2.out.trimmed
          rw [hneat.out] at h
          exact ⟨_, C, rfl, by rw [← hneat.out]; have := neat_le (joinTo C (wordsOf ls)); rwa [joinTo, mapR_len] at this, by omega, h.2.2.2.2, hbk, fun b o e => by cases e; exact Nat.le_refl _⟩
end Go.Proofs.YteoopilmdlhkhaaDoor
namespace Go.Proofs.YteoopilmdlhkhaaDoor
open Go.RowKit

theorem ql {P : Program} {f : FuncId} {args : Array Value} {w : World} {n : Nat} {v : Value} (h : Calls P f args (w.drewN n) fun e w' => e = .returned v ∧ w.drewN n = w') :
    Calls P f args (w.drewN n) fun e w'' => e = .returned v ∧ ∃ m, w'' = w.drewN m := h.mono fun _ _ ⟨he, hw⟩ => ⟨he, n, hw.symm⟩
theorem pow_cast (k : Nat) : ((2 ^ k : Nat) : Int) = (2 : Int) ^ k := by simp
theorem and_test (x k : Nat) (hx : x < 18446744073709551616) (hk : k < 64) : (bits .and .u64 (x : Int) ((2 : Int) ^ k) != 0) = x.testBit k := by
  rw [← pow_cast, u64_and_nat x _ hx (pow_lt hk), nat_bit, Nat.testBit_eq_decide_div_mod_eq]
  have hp : 0 < 2 ^ k := Nat.two_pow_pos _
  have h2 : x / 2 ^ k % 2 = 0 ∨ x / 2 ^ k % 2 = 1 := by omega
  rcases h2 with h2 | h2
  · rw [h2]; simp
  · rw [h2]; simp
    have h0 : (0 : Int) < 2 ^ k := Int.pow_pos (by decide)
    omega

set_option maxRecDepth 100000 in
theorem has_any (A : Option Addr) (n c : Nat) (ws : List Nat) (m : Int) (w : World) (B : Nat) (hr : Sl w B .u64 A (nI ws)) (hn : ws.length = n) (hmax : n ≤ 1099511627776) (hw : W64 ws) (hm : -9223372036854775808 ≤ m ∧ m ≤ 9223372036854775807) :
    Calls Tryd.prog 60 #[.slice A n c, .int .i64 m] w fun e w' => e = .returned (.bool (hasB ws m)) ∧ ∃ q, w' = w.drewN q := by
  by_cases h : m < 0 ∨ (n : Int) ≤ m / 64
  · have hf := hide (hasB_out (ws := ws) (n := m) (by rw [hn]; exact h))
    clear hr hn hw
    go_enter Tryd.func60, Tryd.ntmps60
    go_wp2
    go_quiet ((go_at_call 26; exact ql (reaches_no A n c m _ h hm (by omega))))
    go_wp2
    go_ret
    exact ⟨ret_bool hf.out.symm, _, rfl⟩
  · obtain ⟨k, rfl⟩ : ∃ k : Nat, m = k := ⟨m.toNat, by omega⟩
    have hk : k / 64 < n := by omega
    obtain ⟨b, o, rfl, -, hcell⟩ := hr (by rw [nI_len]; omega)
    have g1 : w.cell? ⟨b, o + k / 64, none⟩ = some (.int .u64 ((ws.getD (k / 64) 0 : Nat) : Int)) := by rw [hcell (k / 64) (by rw [nI_len]; omega), nI_getD]
    have ht := hide (and_test (ws.getD (k / 64) 0) (k % 64) (hw.getD _) (Nat.mod_lt _ (by omega)))
    have hb := hide (hasB_nat ws k)
    clear hr hn hw hcell h
    generalize ws.getD (k / 64) 0 = x at *
    go_enter Tryd.func60, Tryd.ntmps60
    go_wp2
    go_quiet ((first | (go_at_call 26; exact ql (reaches_yes _ n c k _ hk (by omega) (by omega))) | (go_at_call 27; exact ql (bit_any k _ (by omega)))))
    go_wp2
    go_ret
    exact ⟨ret_bool (by rw [ht.out, hb.out]), _, rfl⟩

/-- What a word becomes, as the walk spells it. -/
theorem or_spell (x k : Nat) (hx : x < 18446744073709551616) (hk : k < 64) : bits .or .u64 (x : Int) ((2 : Int) ^ k) = ((x ||| 2 ^ k : Nat) : Int) := by
  rw [← pow_cast, u64_or_nat x _ hx (pow_lt hk)]
theorem andN_spell (x k : Nat) (hx : x < 18446744073709551616) (hk : k < 64) : bits .andNot .u64 (x : Int) ((2 : Int) ^ k) = ((andN x (2 ^ k) : Nat) : Int) := by
  rw [← pow_cast, u64_andNot_nat x _ hx (pow_lt hk)]; rfl

set_option maxRecDepth 100000 in
set_option maxHeartbeats 1000000 in
theorem of_anyN (A : Option Addr) (n c : Nat) (l : List Int) (w : World) (hr : Sl w w.heap.size .i64 A l) (hn : l.length = n) (hmax : n ≤ 1099511627776) (hl : ∀ z ∈ l, -9223372036854775808 ≤ z ∧ z ≤ 9223372036854775807) :
    Calls Tryd.prog 17 #[.slice A n c] w (MadeN w (ofL l)) := by
  obtain ⟨i0, hi0, hz0, hz1, hz2⟩ := info_parts info_u64
  have HI := hide hi0
  have HN := hide hn
  have HR := hide hr
  have HL := hide hl
  clear hn hr hl hi0
  go_enter Tryd.func17, Tryd.ntmps17
  go_wp2
  go_loopw [3, 8] (fun v i wr => ∃ k : Nat, k ≤ n ∧ i = .int .i64 (k : Int) ∧ Ow wr w.heap.size 63 .u64 v (nI (putsL [] (l.take k))) ∧ Below w.heap.size w wr) (fun _ i _ => n - (intOf i).toNat)
  case atStart => exact ⟨0, Nat.zero_le _, rfl, Ow.nil _ _ _ _, Below.refl _ _⟩
  case round =>
    obtain ⟨k, hk, rfl, ho, hb⟩ := hrel
    have HO := hide ho
    clear ho
    by_cases hlt : k < n
    · have hkl : k < l.length := by have := HN.out; omega
      obtain ⟨b, o, rfl, hbB, hcell⟩ := HR.out (by omega)
      obtain ⟨z, hz⟩ : ∃ z, l[k]? = some z := ⟨_, List.getElem?_eq_getElem hkl⟩
      have g1 : wr.cell? ⟨b, o + k, none⟩ = some (.int .i64 z) := by rw [hb.cell hbB, hcell k hkl]; simp [List.getD, hz]
      have hzb := HL.out z (List.mem_of_getElem? hz)
      have hsn := hide (show putsL [] (l.take (k + 1)) = putI (putsL [] (l.take k)) z by rw [List.take_add_one, hz, Option.toList_some, putsL_snoc])
      have hsl := hide (show (putsL [] (l.take k)).length ≤ 64 from ofL_len _)
      have hsw := hide (show W64 (putsL [] (l.take k)) from ofL_w64 _)
      clear hcell hkl hz
      generalize putsL [] (l.take k) = s at *
      by_cases hv : 0 ≤ z ∧ z < 4096
      · obtain ⟨m, rfl⟩ : ∃ m : Nat, z = m := ⟨z.toNat, by omega⟩
        have hm : m < 4096 := by omega
        have hput := hide (show putI s (m : Int) = putW s m by rw [putI, if_pos hv, Int.toNat_natCast])
        clear hv hzb
        go_wp2
        go_loopw [3] (fun v2 w2 => ∃ j : Nat, Hid (s.length + j ≤ max s.length (m / 64 + 1)) ∧ Ow w2 w.heap.size 63 .u64 v2 (nI (padW s j)) ∧ Below w.heap.size w w2) (fun v2 _ => 100 - lenOf v2)
        case atStart => exact ⟨0, hide (by omega), by rw [padW_zero]; exact HO.out, hb⟩
        case round =>
          obtain ⟨j, hj, ho2, hb2⟩ := hrel
          obtain ⟨A2, c2, rfl, hc2, hcm2, -⟩ := ho2.sl
          have HO2 := hide ho2
          have hlen := hide (show (nI (padW s j)).length = s.length + j by rw [nI_len, padW_len])
          have hlb : (nI (padW s j)).length ≤ 64 := by have h1 := hlen.out; have h2 := hj.out; have h3 := hsl.out; omega
          clear ho2 hc2 hcm2
          by_cases hin : m / 64 < (nI (padW s j)).length
          · have hjx := hide (show j = m / 64 + 1 - s.length by have h1 := hlen.out; have h2 := hj.out; omega)
            have hset := hide (show (padW s j).set (m / 64) (s.getD (m / 64) 0 ||| 2 ^ (m % 64)) = putW s m by rw [putW, hjx.out])
            have hget := hide (show (nI (padW s j))[m / 64]? = some ((s.getD (m / 64) 0 : Nat) : Int) by
              rw [nI, List.getElem?_map, get_some (by rw [nI_len] at hin; exact hin), padW_getD]; rfl)
            have hxw := hsw.out.getD (m / 64)
            have hor := hide (or_spell (s.getD (m / 64) 0) (m % 64) hxw (Nat.mod_lt _ (by omega)))
            obtain ⟨g, rfl, hg1, hg2, hcell2, hfrz⟩ := HO2.out.block (by omega)
            have q1 : wr.cell? ⟨g, m / 64, none⟩ = some (.int .u64 ((s.getD (m / 64) 0 : Nat) : Int)) := hcell2 _ _ hget.out
            have q2 : wr.frozen? ⟨g, m / 64, none⟩ = false := hfrz _
            have hst := hide (HO2.out.stored (m / 64) (bits .or .u64 ((s.getD (m / 64) 0 : Nat) : Int) ((2 : Int) ^ (m % 64))))
            rw [hor.out, ← nI_set, hset.out, ← hor.out] at hst
            have hbst := hb2.setCell (p := ⟨g, m / 64, none⟩) hg1 (.int .u64 (bits .or .u64 ((s.getD (m / 64) 0 : Nat) : Int) ((2 : Int) ^ (m % 64))))
            have hyes : m / 64 < (nI (padW s j)).length := hin
            have i1 : (0 : Int) ≤ (m : Int) / 64 := by omega
            have i2 : (m : Int) / 64 < (((nI (padW s j)).length : Nat) : Int) := by omega
            clear hcell2 hfrz hget hor hset hin hjx hlen
            generalize s.getD (m / 64) 0 = x at *
            generalize (nI (padW s j)).length = len at *
            go_wp2_with (go_at_call 26; refine (reaches_yes _ _ c2 m _ hyes (by omega) (by omega)).mono ?_; rintro e w' ⟨rfl, rfl⟩)
            have e1 : (m : Int).tdiv 64 = (m : Int) / 64 := Int.tdiv_eq_ediv_of_nonneg (by omega)
            have e2 : ((m : Int) / 64).toNat = m / 64 := by omega
            have e3 : IntKind.i64.wrap ((m : Int) / 64) = (m : Int) / 64 := IntWalk.i64_in _ ⟨by omega, by omega⟩
            go_region_with (first | (go_at_call 27; refine (bit_any m _ (by omega)).mono ?_; rintro e w' ⟨rfl, rfl⟩))
            all_goals
              clear e1 e2 e3
              go_wp2
              go_roundw
              case rel => exact ⟨k + 1, by omega, by go_num, by rw [hsn.out, hput.out]; exact hst.out, hbst.drew⟩
              case measure => simp [intOf]; omega
          · have hj2 := hide (show s.length + (j + 1) ≤ max s.length (m / 64 + 1) by have h1 := hlen.out; omega)
            have hno : (((nI (padW s j)).length : Nat) : Int) ≤ (m : Int) / 64 := by omega
            have hpad := hide (show nI (padW s j) ++ [0] = nI (padW s (j + 1)) by rw [padW_succ, nI_append]; rfl)
            have hlenS := hide (show (nI (padW s (j + 1))).length = (nI (padW s j)).length + 1 by rw [nI_len, nI_len, padW_len, padW_len]; rfl)
            go_wp2_with (first
              | (go_at_call 26; refine (reaches_no A2 _ c2 (m : Int) _ (.inr hno) (by omega) (by omega)).mono ?_; rintro e w' ⟨rfl, rfl⟩)
              | (at_builtin; refine wpList_append_one _ rfl (.tmp 22) (.tmp 23) _ rfl w.heap.size 63 .u64 i0 _ 8 Tryd.underlying39 HI.out hz0 hz1 hz2 rfl (by omega) _ (nI (padW s j)) rfl HO2.out 0 rfl (by omega) hb2.size ?_; rw [hpad.out]; intro v3 w3 ho3 hb3))
            obtain ⟨A3, c3, rfl, -, -, -⟩ := ho3.sl
            go_roundw
            case rel => exact ⟨j + 1, hj2, ho3, hb2.trans hb3⟩
            case measure => simp only [lenOf]; rw [hlenS.out]; omega
      · have hput := hide (show putI s z = s by rw [putI, if_neg hv])
        have hv2 : z < 0 ∨ 4096 ≤ z := by omega
        clear hv
        rcases hv2 with hv2 | hv2
        all_goals
          go_wp2
          go_roundw
          case rel => exact ⟨k + 1, by omega, by go_num, by rw [hsn.out, hput.out]; exact HO.out, hb⟩
          case measure => simp [intOf]; omega
    · have hfull := hide (show putsL [] (l.take k) = ofL l by rw [List.take_of_length_le (by have := HN.out; omega)]; rfl)
      obtain ⟨A2, c2, rfl, hc2, hcm2, hs2⟩ := HO.out.sl
      have HS2 := hide hs2
      have HC2 := hide hcm2
      clear hcm2 hs2
      go_wp2
      go_ret
      exact ⟨A2, c2, ret_slice (by rw [nI_len, hfull.out]), by rw [← hfull.out, ← nI_len]; exact hc2, by have := HC2.out; simp only [maxLen] at this; omega, by rw [← hfull.out]; exact HS2.out, hb, fun b o e => HO.out.newB e⟩
theorem of_any (A : Option Addr) (n c : Nat) (l : List Int) (w : World) (hr : Sl w w.heap.size .i64 A l) (hn : l.length = n) (hmax : n ≤ 1099511627776) (hl : ∀ z ∈ l, -9223372036854775808 ≤ z ∧ z ≤ 9223372036854775807) :
    Calls Tryd.prog 17 #[.slice A n c] w (MadeB w (ofL l)) :=
  (of_anyN A n c l w hr hn hmax hl).mono fun _ _ h => h.made
end Go.Proofs.YteoopilmdlhkhaaDoor
namespace Go.Proofs.YteoopilmdlhkhaaDoor
open Go.RowKit

set_option maxRecDepth 100000 in
set_option maxHeartbeats 1000000 in
theorem without_anyN (A T : Option Addr) (n c m d : Nat) (ws : List Nat) (l : List Int) (w : World) (hx : Sl w w.heap.size .u64 A (nI ws)) (hn : ws.length = n) (hmax : n ≤ 1099511627776) (hw : W64 ws) (hr : Sl w w.heap.size .i64 T l) (hm : l.length = m) (hmax2 : m ≤ 1099511627776) (hl : ∀ z ∈ l, -9223372036854775808 ≤ z ∧ z ≤ 9223372036854775807) :
    Calls Tryd.prog 34 #[.slice A n c, .slice T m d] w (MadeN w (withoutL ws l)) := by
  have HX := hide hx
  have HN := hide hn
  have HW := hide hw
  have HM := hide hm
  have HR := hide hr
  have HL := hide hl
  clear hn hr hl hx hm hw
  go_enter Tryd.func34, Tryd.ntmps34
  go_wp2_with (go_at_call 56; refine (clone_any A n c ws w _ HX.out HN.out (Nat.le_refl _) hmax).mono ?_; rintro e w1 ⟨v1, rfl, ho1, hb1⟩)
  obtain ⟨A1, c1, hv1, -, -, -⟩ := ho1.sl
  rw [nI_len, HN.out] at hv1
  subst hv1
  have HO1 := hide ho1
  clear ho1
  go_wp2
  go_loopw [12] (fun i wr => ∃ k : Nat, k ≤ m ∧ i = .int .i64 (k : Int) ∧ Ow wr w.heap.size 63 .u64 (.slice A1 n c1) (nI (remsL ws (l.take k))) ∧ Below w.heap.size w wr) (fun i _ => m - (intOf i).toNat)
  case atStart => exact ⟨0, Nat.zero_le _, rfl, HO1.out, hb1⟩
  case round =>
    obtain ⟨k, hk, rfl, ho, hb⟩ := hrel
    have HO := hide ho
    clear ho
    by_cases hlt : k < m
    · have hkl : k < l.length := by have := HM.out; omega
      obtain ⟨b, o, rfl, hbB, hcell⟩ := HR.out (by omega)
      obtain ⟨z, hz⟩ : ∃ z, l[k]? = some z := ⟨_, List.getElem?_eq_getElem hkl⟩
      have g1 : wr.cell? ⟨b, o + k, none⟩ = some (.int .i64 z) := by rw [hb.cell hbB, hcell k hkl]; simp [List.getD, hz]
      have hzb := HL.out z (List.mem_of_getElem? hz)
      have hsn := hide (show remsL ws (l.take (k + 1)) = remI (remsL ws (l.take k)) z by rw [List.take_add_one, hz, Option.toList_some, remsL_snoc])
      have hsl := hide (show (remsL ws (l.take k)).length = n by rw [remsL_len, HN.out])
      have hsw := hide (show W64 (remsL ws (l.take k)) from remsL_w64 HW.out _)
      clear hcell hkl hz
      generalize remsL ws (l.take k) = s at *
      by_cases hv : 0 ≤ z ∧ z / 64 < (n : Int)
      · have hrem := hide (show remI s z = s.set (z.toNat / 64) (andN (s.getD (z.toNat / 64) 0) (2 ^ (z.toNat % 64))) by rw [remI, if_pos (by rw [hsl.out]; exact hv)])
        obtain ⟨q, rfl⟩ : ∃ q : Nat, z = q := ⟨z.toNat, by omega⟩
        rw [Int.toNat_natCast] at hrem
        have hyes : q / 64 < n := by omega
        have hql : q / 64 < s.length := by have := hsl.out; omega
        have hget := hide (show (nI s)[q / 64]? = some ((s.getD (q / 64) 0 : Nat) : Int) by rw [nI, List.getElem?_map, get_some hql]; rfl)
        have hxw := hsw.out.getD (q / 64)
        have hor := hide (andN_spell (s.getD (q / 64) 0) (q % 64) hxw (Nat.mod_lt _ (by omega)))
        obtain ⟨g, rfl, hg1, hg2, hcell2, hfrz⟩ := HO.out.block (by rw [nI_len]; omega)
        have q1 : wr.cell? ⟨g, q / 64, none⟩ = some (.int .u64 ((s.getD (q / 64) 0 : Nat) : Int)) := hcell2 _ _ hget.out
        have q2 : wr.frozen? ⟨g, q / 64, none⟩ = false := hfrz _
        have hst := hide (HO.out.stored (q / 64) (bits .andNot .u64 ((s.getD (q / 64) 0 : Nat) : Int) ((2 : Int) ^ (q % 64))))
        rw [hor.out, ← nI_set, ← hrem.out, ← hor.out] at hst
        have hbst := hb.setCell (p := ⟨g, q / 64, none⟩) hg1 (.int .u64 (bits .andNot .u64 ((s.getD (q / 64) 0 : Nat) : Int) ((2 : Int) ^ (q % 64))))
        have i1 : (0 : Int) ≤ (q : Int) / 64 := by omega
        have i2 : (q : Int) / 64 < (n : Int) := by omega
        clear hcell2 hfrz hget hor hrem hql hv
        generalize s.getD (q / 64) 0 = x at *
        go_wp2_with (go_at_call 26; refine (reaches_yes _ _ c1 q _ hyes (by omega) (by omega)).mono ?_; rintro e w' ⟨rfl, rfl⟩)
        have e1 : (q : Int).tdiv 64 = (q : Int) / 64 := Int.tdiv_eq_ediv_of_nonneg (by omega)
        have e2 : ((q : Int) / 64).toNat = q / 64 := by omega
        have e3 : IntKind.i64.wrap ((q : Int) / 64) = (q : Int) / 64 := IntWalk.i64_in _ ⟨by omega, by omega⟩
        go_region_with (first | (go_at_call 27; refine (bit_any q _ (by omega)).mono ?_; rintro e w' ⟨rfl, rfl⟩))
        all_goals
          clear e1 e2 e3
          go_wp2
          go_roundw
          case rel => exact ⟨k + 1, by omega, by go_num, by rw [hsn.out]; exact hst.out, hbst.drew⟩
          case measure => simp [intOf]; omega
      · have hrem := hide (show remI s z = s by rw [remI, if_neg (by rw [hsl.out]; exact hv)])
        have hno : z < 0 ∨ (n : Int) ≤ z / 64 := by omega
        clear hv
        have hno2 := hide hno
        clear hno
        go_wp2_with (go_at_call 26; refine (reaches_no _ _ c1 z _ hno2.out hzb (by omega)).mono ?_; rintro e w' ⟨rfl, rfl⟩)
        go_roundw
        case rel => exact ⟨k + 1, by omega, by go_num, by rw [hsn.out, hrem.out]; exact HO.out, hb⟩
        case measure => simp [intOf]; omega
    · have hfull := hide (show neat (remsL ws (l.take k)) = withoutL ws l by rw [List.take_of_length_le (by have := HM.out; omega)]; rfl)
      go_wp2_with (go_at_call 57; refine (trim_any A1 n c1 _ wr _ HO.out.trimmed.2.2.2.1 HO.out.trimmed.1 HO.out.trimmed.2.1 HO.out.trimmed.2.2.1).mono ?_; rw [hfull.out]; rintro e w' ⟨rfl, rfl⟩)
      go_ret
      have h := HO.out.trimmed
      rw [hfull.out] at h
      have hle : (withoutL ws l).length ≤ n := by have := withoutL_len ws l; have h2 := HN.out; omega
      exact ⟨A1, c1, rfl, by have := h.2.1; omega, h.2.2.1, h.2.2.2.2, hb, fun b o e => HO.out.newB e⟩
/-- A slice of sets that is written out: a new block. -/
theorem Sls.lit (w : World) (e : TypeId) (cs : Array Value) (ls : List (Option Addr × Nat × List Nat)) (h : cs.toList = ls.map fun t => .slice t.1 t.2.2.length t.2.1) : Sls (w.alloc (.cells cs e)) (w.heap.size + 1) (some ⟨w.heap.size, 0, none⟩) ls := fun _ => by
  refine ⟨w.heap.size, 0, rfl, by omega, fun j t ht => ?_⟩
  rw [cell_of_row (w.alloc (.cells cs e)) w.heap.size (0 + j) cs e (0, 0) (heap_alloc_new w _), ← Array.getElem?_toList, h, Nat.zero_add, List.getElem?_map, ht]
  rfl
theorem Good.alloc {w : World} {t : Option Addr × Nat × List Nat} (h : Good w w.heap.size t) (o : Obj) : Good (w.alloc o) (w.heap.size + 1) t := ⟨(h.1.alloc (Nat.le_refl _) o).more (by omega), h.2⟩
/-- Sets that are listed at the call, joined. -/
theorem join_litN (w : World) (cs : Array Value) (m : Nat) (ls : List (Option Addr × Nat × List Nat)) (h : cs.toList = ls.map fun t => .slice t.1 t.2.2.length t.2.1) (hg : ∀ t ∈ ls, Good w w.heap.size t) (hm : ls.length = m) (hmax : m ≤ 1099511627776) (hlen : maxLenL (wordsOf ls) ≤ 1099511627776) :
    Calls Tryd.prog 58 #[.slice (some ⟨w.heap.size, 0, none⟩) m m] (w.alloc (.cells cs 39)) (MadeN w (joinL (wordsOf ls))) := by
  have hz : (w.alloc (.cells cs 39)).heap.size = w.heap.size + 1 := by simp
  have hs := Sls.lit w 39 cs ls h
  rw [← hz] at hs
  refine (join_anyN _ m m ls (w.alloc (.cells cs 39)) hs (fun t ht => by rw [hz]; exact (hg t ht).alloc _) hm hmax hlen).mono fun e w' hh => ?_
  obtain ⟨A, c, he, h1, h2, h3, h4, h5⟩ := hh
  exact ⟨A, c, he, h1, h2, h3, ((Below.refl _ _).alloc (Nat.le_refl _) _).trans (h4.mono (by omega)), fun b o e => by have := h5 b o e; omega⟩
theorem join_twoN (A T : Option Addr) (n c m d : Nat) (xs ys : List Nat) (w : World) (hx : Good w w.heap.size (A, c, xs)) (hy : Good w w.heap.size (T, d, ys)) (hn : xs.length = n) (hm : ys.length = m) (hmax : n ≤ 1099511627776) (hmax2 : m ≤ 1099511627776) :
    Calls Tryd.prog 58 #[.slice (some ⟨w.heap.size, 0, none⟩) 2 2] (w.alloc (.cells #[.slice A n c, .slice T m d] 39)) (MadeN w (joinL [xs, ys])) := by
  subst hn
  subst hm
  exact join_litN w _ 2 [(A, c, xs), (T, d, ys)] rfl (by simp [hx, hy]) rfl (by omega) (by simp [wordsOf, maxLenL]; omega)
set_option maxRecDepth 100000 in
theorem with_anyN (A T : Option Addr) (n c m d : Nat) (ws : List Nat) (l : List Int) (w : World) (hx : Good w w.heap.size (A, c, ws)) (hn : ws.length = n) (hmax : n ≤ 1099511627776) (hr : Sl w w.heap.size .i64 T l) (hm : l.length = m) (hmax2 : m ≤ 1099511627776) (hl : ∀ z ∈ l, -9223372036854775808 ≤ z ∧ z ≤ 9223372036854775807) :
    Calls Tryd.prog 35 #[.slice A n c, .slice T m d] w (MadeN w (joinL [ws, ofL l])) := by
  have HX := hide hx
  have HN := hide hn
  have HM := hide hm
  have HR := hide hr
  have HL := hide hl
  have hlo := ofL_len l
  clear hx hn hm hr hl
  go_enter Tryd.func35, Tryd.ntmps35
  go_wp2_with (first
    | (go_at_call 17; refine (of_any T m d l w HR.out HM.out hmax2 HL.out).mono ?_; rintro e w1 ⟨A1, c1, rfl, h1, h2, hs1, hb1⟩; have HS1 := hide hs1; clear hs1)
    | (go_at_call 58; refine (join_twoN A A1 n c _ c1 ws (ofL l) w1 ⟨(HX.out.1.below hb1).more hb1.size, HX.out.2⟩ ⟨HS1.out, ofL_w64 l, h1, h2⟩ HN.out rfl hmax (by omega)).mono ?_; rintro e w2 ⟨A2, c2, rfl, h3, h4, hs2, hb2, hn2⟩; have HN2 := hide hn2; clear hn2))
  go_ret
  exact ⟨A2, c2, rfl, h3, h4, hs2, hb1.trans (hb2.mono hb1.size), fun b o e => Nat.le_trans hb1.size (HN2.out b o e)⟩
end Go.Proofs.YteoopilmdlhkhaaDoor
namespace Go.Proofs.YteoopilmdlhkhaaDoor
open Go.RowKit

end Go.Proofs.YteoopilmdlhkhaaDoor
