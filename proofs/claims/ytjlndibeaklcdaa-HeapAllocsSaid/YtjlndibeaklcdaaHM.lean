/- Plain mathematics of the reference's marks: as often round as there are objects, and what is reached is marked. No condition. -/
import Derived.Test.YtjlndibeaklcdaaHA
set_option linter.unusedSimpArgs false
set_option linter.unusedVariables false
namespace Go.Proofs.Ytjlndibeaklcdaa
open Go.RowKit

/-- The references of the object at place i. -/
def nxH (h : List ObjV) (i : Nat) : List Int := match h[i]? with | some o => o.refs | none => []
theorem nxH_some {h : List ObjV} {i : Nat} {o : ObjV} (ho : h[i]? = some o) : nxH h i = o.refs := by unfold nxH; rw [ho]
def CloH (h : List ObjV) (m : List Bool) : Prop := ∀ x : Nat, metB m ((x : Int) + 1) = true → ∀ v ∈ nxH h x, 0 < v → metB m v = true
/-- Marks of names: none but what is reached, and the roots. -/
structure RM (h : List ObjV) (roots : List Int) (m : List Bool) : Prop where
  len : m.length = h.length + 1
  zero : metB m 0 = false
  snd : ∀ x : Int, 0 ≤ x → metB m x = true → RcH h roots x
  rts : ∀ z ∈ roots, 1 ≤ z → z ≤ h.length → metB m z = true
def TI (h : List ObjV) (roots : List Int) (t : Nat) (m : List Bool) : Prop := RM h roots m ∧ (CloH h m ∨ m.count false + t ≤ h.length)
def TJ (h : List ObjV) (roots : List Int) (m0 : List Bool) (i : Nat) (m : List Bool) : Prop :=
  RM h roots m ∧ (m.count false < m0.count false ∨ (m = m0 ∧ ∀ x : Nat, x < i → metB m0 ((x : Int) + 1) = true → ∀ v ∈ nxH h x, 0 < v → metB m0 v = true)) ∧ (CloH h m0 → m = m0)
def TK (h : List ObjV) (roots : List Int) (m0 : List Bool) (i k : Nat) (m : List Bool) : Prop :=
  TJ h roots m0 i m ∧ (m = m0 → metB m0 ((i : Int) + 1) = true → ∀ v ∈ (nxH h i).take k, 0 < v → metB m0 v = true)
theorem count_zero {m : List Bool} (hl : 0 < m.length) (h : metB m 0 = false) : 1 ≤ m.count false := by
  cases m with
  | nil => simp at hl
  | cons a m =>
    have : a = false := h
    subst this
    simp
theorem count_rest {m : List Bool} {x : Nat} (h : metB m (x : Int) = true) : m.count false + 1 ≤ m.length := by
  have hl := metB_lt h
  have ht : true ∈ m := by
    unfold metB at h
    rw [Int.toNat_natCast, List.getD_eq_getElem?_getD, List.getElem?_eq_getElem hl] at h
    simp only [Option.getD_some] at h
    rw [← h]
    exact List.getElem_mem hl
  have h1 : 1 ≤ m.count true := List.one_le_count_iff.2 ht
  have h2 : m.count true + m.count false = m.length := by
    clear h hl ht h1
    induction m with
    | nil => rfl
    | cons a m ih => cases a <;> simp <;> omega
  omega
theorem ti_start {h : List ObjV} {roots : List Int} {m : List Bool} (hm : RM h roots m) : TI h roots 0 m := by
  refine ⟨hm, ?_⟩
  by_cases hx : ∃ x : Nat, metB m (x : Int) = true
  · obtain ⟨x, hx⟩ := hx
    have := count_rest hx
    have := hm.len
    exact .inr (by omega)
  · refine .inl fun x hx' => ?_
    exact absurd ⟨x + 1, by rw [show (((x + 1 : Nat) : Int)) = (x : Int) + 1 by omega]; exact hx'⟩ hx
theorem tj_start {h : List ObjV} {roots : List Int} {m : List Bool} (hm : RM h roots m) : TJ h roots m 0 m := ⟨hm, .inr ⟨rfl, fun x hx => by omega⟩, fun _ => rfl⟩
theorem tk_start {h : List ObjV} {roots : List Int} {i : Nat} {m0 m : List Bool} (hm : TJ h roots m0 i m) : TK h roots m0 i 0 m := ⟨hm, fun _ _ v hv => by simp at hv⟩
theorem tk_skip {h : List ObjV} {roots : List Int} {i k : Nat} {y : Int} {m0 m : List Bool} (hm : TK h roots m0 i k m) (hy : (nxH h i)[k]? = some y) (hy0 : ¬ 0 < y) : TK h roots m0 i (k + 1) m := by
  refine ⟨hm.1, fun e hi0 v hv hv0 => ?_⟩
  rw [take_snocI hy, List.mem_append] at hv
  rcases hv with hv | hv
  · exact hm.2 e hi0 v hv hv0
  · simp at hv; subst hv; exact absurd hv0 hy0
theorem tk_step {h : List ObjV} {roots : List Int} {i k y : Nat} {m0 m : List Bool} (hm : TK h roots m0 i k m) (hi : metB m ((i : Int) + 1) = true) (hy : (nxH h i)[k]? = some (y : Int)) (hy0 : 0 < y) (hyl : y ≤ h.length) : TK h roots m0 i (k + 1) (m.set y true) := by
  obtain ⟨⟨hg, hd, hc⟩, hk⟩ := hm
  have hyn : (y : Int) ∈ nxH h i := List.mem_of_getElem? hy
  by_cases hmy : metB m y = true
  · rw [meet_old hmy]
    refine ⟨⟨hg, hd, hc⟩, fun e hi0 v hv hv0 => ?_⟩
    rw [take_snocI hy, List.mem_append] at hv
    rcases hv with hv | hv
    · exact hk e hi0 v hv hv0
    · simp at hv; subst hv; subst e; exact hmy
  · have hmf := Bool.eq_false_iff.2 hmy
    have hl : (y : Int).toNat < m.length := by have := hg.len; omega
    have hcm := count_meet hl hmf
    have hmm : ∀ x : Int, 0 ≤ x → (metB (meet m (y : Int)) x = true ↔ metB m x = true ∨ x = y) := fun x hx => met_meet (by omega) (by have := hg.len; omega) hx
    have e : meet m (y : Int) = m.set y true := rfl
    rw [e] at hcm hmm
    have hle : m.count false ≤ m0.count false := by
      rcases hd with h | ⟨rfl, -⟩
      · omega
      · omega
    have hri := hg.snd _ (by omega) hi
    have hio : ∃ o, h[i]? = some o := by
      have := hri.rng
      exact ⟨_, List.getElem?_eq_getElem (by omega)⟩
    obtain ⟨o, ho⟩ := hio
    refine ⟨⟨⟨by rw [List.length_set, hg.len], ?_, fun x hx0 hx => ?_, fun z hz h1 h2 => (hmm z (by omega)).2 (.inl (hg.rts z hz h1 h2))⟩, .inl (by omega), fun hcl => ?_⟩, fun e2 => ?_⟩
    · apply Bool.eq_false_iff.2
      intro hx
      rcases (hmm 0 (by omega)).1 hx with h' | h'
      · rw [hg.zero] at h'; cases h'
      · omega
    · rcases (hmm x hx0).1 hx with h' | h'
      · exact hg.snd x hx0 h'
      · rw [h']
        exact .step hri (o := o) (by rw [show ((i : Int) + 1 - 1).toNat = i by omega]; exact ho) (by rw [← nxH_some ho]; exact hyn) (by omega) (by omega)
    · have e0 := hc hcl
      subst e0
      exact absurd (hcl i hi _ hyn (by omega)) hmy
    · rw [e2] at hcm; omega
theorem tk_end {h : List ObjV} {roots : List Int} {i k : Nat} {m0 m : List Bool} (hm : TK h roots m0 i k m) (hk : (nxH h i).length ≤ k ∨ metB m ((i : Int) + 1) = false) : TJ h roots m0 (i + 1) m := by
  obtain ⟨⟨hg, hd, hc⟩, hkk⟩ := hm
  refine ⟨hg, ?_, hc⟩
  rcases hd with hd | ⟨rfl, hd⟩
  · exact .inl hd
  · refine .inr ⟨rfl, fun x hx hmx v hv hv0 => ?_⟩
    by_cases hxi : x < i
    · exact hd x hxi hmx v hv hv0
    · obtain rfl : x = i := by omega
      rcases hk with hk | hk
      · exact hkk rfl hmx v (by rw [List.take_of_length_le hk]; exact hv) hv0
      · rw [hk] at hmx; cases hmx
theorem tj_end {h : List ObjV} {roots : List Int} {t i : Nat} {m0 m : List Bool} (h0 : TI h roots t m0) (hm : TJ h roots m0 i m) (hi : h.length ≤ i) : TI h roots (t + 1) m := by
  obtain ⟨hg, hd, hc⟩ := hm
  refine ⟨hg, ?_⟩
  rcases h0.2 with h' | h'
  · rw [hc h']; exact .inl h'
  · rcases hd with hd | ⟨rfl, hd⟩
    · exact .inr (by omega)
    · refine .inl fun x hx v hv => hd x ?_ hx v hv
      have := (hg.snd _ (by omega) hx).rng
      omega
theorem ti_end {h : List ObjV} {roots : List Int} {t : Nat} {m : List Bool} (hr : rightB h = true) (hm : TI h roots t m) (ht : h.length ≤ t) : ∀ x : Int, 0 ≤ x → (metB m x = true ↔ RcH h roots x) := by
  have hcl : CloH h m := by
    rcases hm.2 with h' | h'
    · exact h'
    · have := count_zero (by have := hm.1.len; omega) hm.1.zero
      omega
  intro x hx
  refine ⟨hm.1.snd x hx, fun hx' => ?_⟩
  clear hx
  induction hx' with
  | root h1 h2 h3 => exact hm.1.rts _ h1 h2 h3
  | @step y z o hy ho hz h1 h2 ih =>
    have hyr := hy.rng
    have := hcl (y - 1).toNat (by rw [show (((y - 1).toNat : Nat) : Int) + 1 = y by omega]; exact ih) z (by rw [nxH_some ho]; exact hz) (by omega)
    exact this
/-- The roots, marked one by one, and 0 struck. -/
def rootM (n : Nat) (roots : List Int) (i : Nat) : List Bool := (List.range (n + 1)).map (fun b : Nat => decide ((b : Int) ∈ roots.take i))
theorem rootM_zero (n : Nat) (roots : List Int) : rootM n roots 0 = List.replicate (n + 1) false := by
  unfold rootM
  apply List.ext_getElem (by simp)
  intro i h1 h2
  simp
theorem rootM_len (n : Nat) (roots : List Int) (i : Nat) : (rootM n roots i).length = n + 1 := by simp [rootM]
theorem rootM_yes {n i y : Nat} {roots : List Int} (hy : roots[i]? = some (y : Int)) (hl : y < n + 1) : rootM n roots (i + 1) = (rootM n roots i).set y true := by
  unfold rootM
  apply List.ext_getElem (by simp)
  intro j h1 h2
  rw [List.getElem_set]
  simp only [List.getElem_map, List.getElem_range, take_snocI hy, List.mem_append, List.mem_singleton]
  split
  · rename_i e; subst e; simp
  · rename_i e
    have : ¬ (j : Int) = (y : Int) := by omega
    simp [this]
theorem rootM_no {n i : Nat} {y : Int} {roots : List Int} (hy : roots[i]? = some y) (hl : y < 0 ∨ (n : Int) + 1 ≤ y) : rootM n roots (i + 1) = rootM n roots i := by
  unfold rootM
  apply List.map_congr_left
  intro j hj
  have hj' := List.mem_range.1 hj
  rw [take_snocI hy]
  simp only [List.mem_append, List.mem_singleton]
  have : ¬ (j : Int) = y := by omega
  simp [this]
theorem rootM_met {n i : Nat} {roots : List Int} {x : Int} (h0 : 0 ≤ x) : metB (rootM n roots i) x = true ↔ x ≤ n ∧ x ∈ roots.take i := by
  obtain ⟨k, rfl⟩ : ∃ k : Nat, x = k := ⟨x.toNat, by omega⟩
  unfold metB rootM
  rw [Int.toNat_natCast, List.getD_eq_getElem?_getD]
  by_cases hk : k < n + 1
  · simp [hk]; omega
  · rw [List.getElem?_eq_none (by simp; omega)]
    simp
    omega
theorem rootM_rm {h : List ObjV} {roots : List Int} {i : Nat} (hi : roots.length ≤ i) : RM h roots ((rootM h.length roots i).set 0 false) := by
  have hs : ∀ x : Int, 0 ≤ x → metB ((rootM h.length roots i).set 0 false) x = (decide (x ≠ 0) && metB (rootM h.length roots i) x) := fun x hx => by
    unfold metB
    by_cases h0 : x = 0
    · subst h0
      rw [List.getD_eq_getElem?_getD]
      simp
      cases rootM h.length roots i <;> simp
    · have hne : (0 : Nat) ≠ x.toNat := by omega
      rw [List.getD_eq_getElem?_getD, List.getElem?_set_ne hne, ← List.getD_eq_getElem?_getD]
      simp [h0]
  refine ⟨by rw [List.length_set, rootM_len], by rw [hs 0 (by omega)]; simp, fun x hx hm => ?_, fun z hz h1 h2 => ?_⟩
  · rw [hs x hx, Bool.and_eq_true, decide_eq_true_eq, rootM_met hx, List.take_of_length_le hi] at hm
    exact .root hm.2.2 (by have := hm.1; omega) hm.2.1
  · rw [hs z (by omega), Bool.and_eq_true, decide_eq_true_eq, rootM_met (by omega), List.take_of_length_le hi]
    exact ⟨by omega, h2, hz⟩
/-- The marked names, rising. -/
def outM (m : List Bool) (k : Nat) : List Int := ((List.range k).filter (fun b : Nat => decide (1 ≤ b) && metB m (b : Int))).map (fun b : Nat => (b : Int))
theorem outM_one (m : List Bool) : outM m 1 = [] := by simp [outM]
theorem outM_yes {m : List Bool} {k : Nat} (hk : 1 ≤ k) (h : metB m (k : Int) = true) : outM m (k + 1) = outM m k ++ [(k : Int)] := by
  unfold outM
  rw [List.range_succ, List.filter_append, List.map_append]
  simp [h, hk]
theorem outM_no {m : List Bool} {k : Nat} (h : metB m (k : Int) = false) : outM m (k + 1) = outM m k := by
  unfold outM
  rw [List.range_succ, List.filter_append, List.map_append]
  simp [h]
theorem outM_len (m : List Bool) (k : Nat) : (outM m k).length ≤ k := by
  unfold outM
  rw [List.length_map]
  exact Nat.le_trans (List.length_filter_le _ _) (by simp)
theorem outM_is {h : List ObjV} {roots : List Int} {m : List Bool} (hr : rightB h = true) (hm : ∀ x : Int, 0 ≤ x → (metB m x = true ↔ RcH h roots x)) : IsR h roots (outM m (h.length + 1)) := by
  constructor
  · unfold outM
    rw [List.pairwise_map]
    refine (List.pairwise_lt_range.filter _).imp ?_
    intro a b hab
    omega
  · intro z
    unfold outM
    simp only [List.mem_map, List.mem_filter, List.mem_range, Bool.and_eq_true, decide_eq_true_eq]
    constructor
    · rintro ⟨b, ⟨h1, h2, h3⟩, rfl⟩
      exact ⟨hr, (hm _ (by omega)).1 h3⟩
    · rintro ⟨-, hz⟩
      have hzr := hz.rng
      exact ⟨z.toNat, ⟨by omega, by omega, by rw [show ((z.toNat : Nat) : Int) = z by omega]; exact (hm z (by omega)).2 hz⟩, by omega⟩
/-- The program's names, sorted. -/
theorem RB.is {h : List ObjV} {roots N : List Int} {i : Nat} (hr : rightB h = true) (r : RB h roots i N) (hi : N.length ≤ i) : IsR h roots (sortL N) := by
  refine ⟨?_, fun z => ?_⟩
  · have h1 : (sortL N).Pairwise (fun a b => decide (a ≤ b) = true) := List.pairwise_mergeSort (fun a b c h1 h2 => by simp at h1 h2 ⊢; omega) (fun a b => by simp; omega) N
    have h2 : (sortL N).Nodup := (List.mergeSort_perm N _).nodup_iff.2 r.nod
    refine (h1.and h2).imp ?_
    rintro a b ⟨hab, hne⟩
    simp at hab
    omega
  · rw [mem_sortL, r.all hi]
    simp [hr]
end Go.Proofs.Ytjlndibeaklcdaa
