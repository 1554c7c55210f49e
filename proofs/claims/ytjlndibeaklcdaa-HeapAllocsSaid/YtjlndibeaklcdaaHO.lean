/- Plain mathematics: what is behind a store, and a link. No condition. -/
import Derived.Test.YtjlndibeaklcdaaHN
set_option linter.unusedSimpArgs false
set_option linter.unusedVariables false
namespace Go.Proofs.Ytjlndibeaklcdaa
open Go.RowKit

theorem objO_set {h : List ObjV} {k : Nat} {x : ObjV} {obj : Int} (hk : k < h.length) (h1 : 1 ≤ obj) : objO (h.set k x) obj = if (obj - 1).toNat = k then x else objO h obj := by
  unfold objO
  by_cases e : (obj - 1).toNat = k
  · rw [if_pos e, e, List.getElem?_set_self hk]; rfl
  · rw [if_neg e, List.getElem?_set_ne (fun e' => e e'.symm)]
theorem right_set {h : List ObjV} {k : Nat} {x o : ObjV} (hr : rightB h = true) (ho : h[k]? = some o) (h1 : x.refs.length = o.refs.length) (h2 : x.ints.length = o.ints.length) (h3 : ∀ z ∈ x.refs, 0 ≤ z ∧ z ≤ h.length) : rightB (h.set k x) = true := by
  rw [rightB_iff] at hr ⊢
  intro p hp
  rw [List.length_set]
  rcases List.mem_or_eq_of_mem_set hp with hp | rfl
  · exact hr p hp
  · have := hr o (List.mem_of_getElem? ho)
    exact ⟨by omega, by omega, h3⟩
theorem atN_same {h h' : List ObjV} (hr : rightB h = true) (hr' : rightB h' = true) (hl : h'.length = h.length) (obj : Int) : atN h' obj = atN h obj := by
  unfold atN
  rw [if_pos hr, if_pos hr', hl]
theorem fldR_set {l : List Int} {m : Nat} {v n : Int} (hm : m < l.length) : (fldR (l.set m v) n).2 = (fldR l n).2 ∧ ((fldR (l.set m v) n).1 = (fldR l n).1 ∨ n = m) := by
  unfold fldR
  rw [List.length_set]
  by_cases h : 0 ≤ n ∧ n < l.length
  · rw [if_pos h, if_pos h]
    refine ⟨rfl, ?_⟩
    by_cases e : n = m
    · exact .inr e
    · refine .inl ?_
      have hne : m ≠ n.toNat := by omega
      show (l.set m v).getD n.toNat 0 = l.getD n.toNat 0
      rw [List.getD_eq_getElem?_getD, List.getElem?_set_ne hne, ← List.getD_eq_getElem?_getD]
  · rw [if_neg h, if_neg h]
    exact ⟨rfl, .inl rfl⟩
theorem fldR_self {l : List Int} {m : Nat} {v : Int} (hm : m < l.length) : fldR (l.set m v) (m : Int) = (v, 0) := by
  rw [fldR_val ⟨by omega, by rw [List.length_set]; omega⟩, Int.toNat_natCast, List.getD_eq_getElem?_getD, List.getElem?_set_self hm]
  rfl
/-- What a store that goes through leaves. -/
theorem store_ok {h : List ObjV} {a0 a1 a2 : Int} (he : (storeR h a0 a1 a2).2 = 0) : ∃ (k m : Nat) (o : ObjV), a0 = (k : Int) + 1 ∧ a1 = (m : Int) ∧ h[k]? = some o ∧ objO h a0 = o ∧ m < o.ints.length ∧ rightB h = true ∧ storeR h a0 a1 a2 = (h.set k ⟨o.refs, o.ints.set m a2⟩, 0) := by
  have hl : (loadR h a0 a1).2 = 0 := by
    apply Classical.byContradiction
    intro hne
    unfold storeR at he
    rw [if_neg hne] at he
    exact hne he
  obtain ⟨h1, h2, h3⟩ := loadR_ok.1 hl
  obtain ⟨hr, h4, h5⟩ := atN_zero.1 h1
  refine ⟨(a0 - 1).toNat, a1.toNat, objO h a0, by omega, by omega, objO_get h4 h5, rfl, by omega, hr, ?_⟩
  unfold storeR
  rw [if_pos hl]
  rfl
theorem store_no {h : List ObjV} {a0 a1 a2 : Int} (he : (storeR h a0 a1 a2).2 ≠ 0) : (storeR h a0 a1 a2).1 = h := by
  unfold storeR at *
  split at he
  · exact absurd rfl he
  · rename_i h1
    rw [if_neg h1]
theorem link_ok {h : List ObjV} {a0 a1 a2 : Int} (he : (linkR h a0 a1 a2).2 = 0) : ∃ (k m : Nat) (o : ObjV), a0 = (k : Int) + 1 ∧ a1 = (m : Int) ∧ h[k]? = some o ∧ objO h a0 = o ∧ m < o.refs.length ∧ rightB h = true ∧ (0 ≤ a2 ∧ a2 ≤ h.length) ∧ linkR h a0 a1 a2 = (h.set k ⟨o.refs.set m a2, o.ints⟩, 0) := by
  have ha : atN h a0 = 0 := by
    apply Classical.byContradiction
    intro hne
    unfold linkR at he
    rw [if_neg hne] at he
    exact hne he
  have hb : rfB h.length a2 = true := by
    apply Classical.byContradiction
    intro hne
    unfold linkR at he
    rw [if_pos ha, if_neg hne] at he
    simp at he
  have hl : (refR h a0 a1).2 = 0 := by
    apply Classical.byContradiction
    intro hne
    unfold linkR at he
    rw [if_pos ha, if_pos hb, if_neg hne] at he
    exact hne he
  obtain ⟨h1, h2, h3⟩ := refR_ok.1 hl
  obtain ⟨hr, h4, h5⟩ := atN_zero.1 h1
  refine ⟨(a0 - 1).toNat, a1.toNat, objO h a0, by omega, by omega, objO_get h4 h5, rfl, by omega, hr, rfB_iff.1 hb, ?_⟩
  unfold linkR
  rw [if_pos ha, if_pos hb, if_pos hl]
  rfl
theorem link_no {h : List ObjV} {a0 a1 a2 : Int} (he : (linkR h a0 a1 a2).2 ≠ 0) : (linkR h a0 a1 a2).1 = h := by
  unfold linkR at *
  split at he
  · rename_i h1
    rw [if_pos h1]
    split at he
    · rename_i h2
      rw [if_pos h2]
      split at he
      · exact absurd rfl he
      · rename_i h3
        rw [if_neg h3]
    · rename_i h2
      rw [if_neg h2]
  · rename_i h1
    rw [if_neg h1]
theorem keeps_math {h : List ObjV} {a0 a1 a2 : Int} (he : (storeR h a0 a1 a2).2 = 0) (b0 b1 : Int) :
    loadR (storeR h a0 a1 a2).1 a0 a1 = (a2, 0) ∧ rightB (storeR h a0 a1 a2).1 = true ∧ (loadR (storeR h a0 a1 a2).1 b0 b1).2 = (loadR h b0 b1).2 ∧ refR (storeR h a0 a1 a2).1 b0 b1 = refR h b0 b1 ∧
      ((loadR (storeR h a0 a1 a2).1 b0 b1).1 = (loadR h b0 b1).1 ∨ (a0 = b0 ∧ a1 = b1)) ∧ (storeR h a0 a1 a2).1.length = h.length := by
  obtain ⟨k, m, o, rfl, rfl, ho, hob, hm, hr, hs⟩ := store_ok he
  rw [hs]
  have hk : k < h.length := (List.getElem?_eq_some_iff.1 ho).1
  have hr0 := rightB_iff.1 hr o (List.mem_of_getElem? ho)
  have hr' : rightB (h.set k ⟨o.refs, o.ints.set m a2⟩) = true := right_set hr ho rfl List.length_set hr0.2.2
  have hl : (h.set k ⟨o.refs, o.ints.set m a2⟩).length = h.length := List.length_set
  have ha := atN_same hr hr' hl
  refine ⟨?_, hr', ?_, ?_, ?_, hl⟩
  · have h0 : atN h ((k : Int) + 1) = 0 := atN_zero.2 ⟨hr, by omega, by omega⟩
    unfold loadR
    rw [ha, if_pos h0, objO_set hk (by omega), if_pos (by omega)]
    exact fldR_self hm
  all_goals
    by_cases hb : atN h b0 = 0
    case neg => simp only [loadR, refR, ha, if_neg hb]; try exact .inl trivial
    obtain ⟨-, hb1, hb2⟩ := atN_zero.1 hb
    simp only [loadR, refR, ha, if_pos hb]
    rw [objO_set hk hb1]
    by_cases e : (b0 - 1).toNat = k
    · rw [if_pos e]
      obtain rfl : b0 = (k : Int) + 1 := by omega
      first
        | done
        | rw [hob]
      first
        | done
        | exact (fldR_set hm).1
        | rfl
        | (rcases (fldR_set (v := a2) (n := b1) hm).2 with h1 | h1
           · exact .inl h1
           · exact .inr ⟨rfl, h1.symm⟩)
    · rw [if_neg e]
      first
        | done
        | rfl
        | exact .inl rfl
theorem links_math {h : List ObjV} {a0 a1 a2 : Int} (he : (linkR h a0 a1 a2).2 = 0) :
    refR (linkR h a0 a1 a2).1 a0 a1 = (a2, 0) ∧ rightB (linkR h a0 a1 a2).1 = true ∧ (linkR h a0 a1 a2).1.length = h.length ∧ ∀ l, IsR (linkR h a0 a1 a2).1 [a0] l → (a2 = 0 ∨ a2 ∈ l) := by
  obtain ⟨k, m, o, rfl, rfl, ho, hob, hm, hr, h2, hs⟩ := link_ok he
  rw [hs]
  have hk : k < h.length := (List.getElem?_eq_some_iff.1 ho).1
  have hr0 := rightB_iff.1 hr o (List.mem_of_getElem? ho)
  have hr' : rightB (h.set k ⟨o.refs.set m a2, o.ints⟩) = true := right_set hr ho List.length_set rfl (fun z hz => by
    rcases List.mem_or_eq_of_mem_set hz with hz | rfl
    · exact hr0.2.2 z hz
    · exact h2)
  have hl : (h.set k ⟨o.refs.set m a2, o.ints⟩).length = h.length := List.length_set
  refine ⟨?_, hr', hl, fun l hil => ?_⟩
  · have h0 : atN h ((k : Int) + 1) = 0 := atN_zero.2 ⟨hr, by omega, by omega⟩
    unfold refR
    rw [atN_same hr hr' hl, if_pos h0, objO_set hk (by omega), if_pos (by omega)]
    exact fldR_self hm
  · by_cases h0 : a2 = 0
    · exact .inl h0
    · refine .inr ((hil.2 a2).2 ⟨hr', ?_⟩)
      have hget : (h.set k ⟨o.refs.set m a2, o.ints⟩)[k]? = some (⟨o.refs.set m a2, o.ints⟩ : ObjV) := List.getElem?_set_self hk
      refine .step (y := (k : Int) + 1) (o := ⟨o.refs.set m a2, o.ints⟩) (.root (by simp) (by omega) (by rw [hl]; omega)) (by rw [show ((k : Int) + 1 - 1).toNat = k by omega]; exact hget) ?_ (by omega) (by rw [hl]; omega)
      exact List.mem_iff_getElem?.2 ⟨m, List.getElem?_set_self hm⟩
end Go.Proofs.Ytjlndibeaklcdaa
