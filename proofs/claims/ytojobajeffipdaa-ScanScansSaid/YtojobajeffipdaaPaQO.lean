/- Layer 16, the mathematics: who has a register as the reference reckons it, the last one, what is free. No condition. -/
import Derived.Test.YtojobajeffipdaaPaQN
set_option linter.unusedSimpArgs false
set_option linter.unusedVariables false
namespace Go.Proofs.Ytojobajeffipdaa
open Go.RowKit

/-- Who has a register, as the reference reckons it: the last one ahead of k that has it and isn't over. -/
def whoF (ls : List LcV) (ss : List SpV) (f : Int) (r : Int) : Nat → Int
  | 0 => -1
  | k + 1 => if lcAt ls k = ⟨1, r⟩ ∧ f ≤ (spAt ss k).t then (k : Int) else whoF ls ss f r k
def farN (ls : List LcV) (ss : List SpV) (f : Int) (i : Nat) : Nat → Nat
  | 0 => i
  | r + 1 => if endsB16 (spAt ss (farN ls ss f i r)) (spAt ss (whoF ls ss f r i).toNat) = true then (whoF ls ss f r i).toNat else farN ls ss f i r
theorem who_spec (ls : List LcV) (ss : List SpV) (f r : Int) : ∀ k, (whoF ls ss f r k = -1 ∧ ∀ j, j < k → ¬ (lcAt ls j = ⟨1, r⟩ ∧ f ≤ (spAt ss j).t)) ∨ ∃ j : Nat, whoF ls ss f r k = j ∧ j < k ∧ lcAt ls j = ⟨1, r⟩ ∧ f ≤ (spAt ss j).t
  | 0 => .inl ⟨rfl, fun j h => absurd h (by omega)⟩
  | k + 1 => by
    rw [whoF]
    by_cases h : lcAt ls k = ⟨1, r⟩ ∧ f ≤ (spAt ss k).t
    · rw [if_pos h]
      exact .inr ⟨k, rfl, by omega, h.1, h.2⟩
    · rw [if_neg h]
      rcases who_spec ls ss f r k with ⟨h1, h2⟩ | ⟨j, h1, h2, h3⟩
      · refine .inl ⟨h1, fun j hj => ?_⟩
        by_cases e : j = k
        · subst e; exact h
        · exact h2 j (by omega)
      · exact .inr ⟨j, h1, by omega, h3⟩
theorem who_range (ls : List LcV) (ss : List SpV) (f r : Int) (k : Nat) : -1 ≤ whoF ls ss f r k ∧ whoF ls ss f r k < k := by
  rcases who_spec ls ss f r k with ⟨h1, -⟩ | ⟨j, h1, h2, -⟩ <;> omega
theorem who_taken {ss : List SpV} {regs : Int} {i : Nat} {ls : List LcV} (hok : OkS ss) (h : InvS ss regs i ls) (hi : i < ss.length) (r : Int) : takenB ls ss 1 r (spAt ss i) = decide (0 ≤ whoF ls ss (spAt ss i).f r i) := by
  have hl := h.len
  have key : ∀ j, j < i → (meetB (spAt ss j) (spAt ss i) = true ↔ (spAt ss i).f ≤ (spAt ss j).t) := fun j hj => by
    have f1 := hok.up j i hj hi
    have o1 := (hok.lo i hi).2.1
    have o2 := (hok.lo j (by omega)).2.1
    unfold meetB
    simp
    omega
  rcases who_spec ls ss (spAt ss i).f r i with ⟨h1, h2⟩ | ⟨j, h1, h2, h3, h4⟩
  · rw [h1]
    cases e : takenB ls ss 1 r (spAt ss i) with
    | false => rfl
    | true =>
      obtain ⟨j, a1, a2, a3, a4⟩ := taken_at.1 e
      have hj : j < i := by
        refine Nat.lt_of_not_le fun hij => ?_
        have := h.zero j hij
        rw [a3] at this
        simp at this
      exact absurd ⟨a3, (key j hj).1 a4⟩ (h2 j hj)
  · rw [h1, taken_at.2 ⟨j, by omega, by omega, h3, (key j h2).2 h4⟩]
    simp
/-- The least register that nobody has, from above. -/
theorem least_who {ss : List SpV} {regs : Int} {i : Nat} {ls : List LcV} (hok : OkS ss) (h : InvS ss regs i ls) (hi : i < ss.length) {r : Nat} (h1 : whoF ls ss (spAt ss i).f r i < 0) (h2 : ∀ q : Nat, q < r → 0 ≤ whoF ls ss (spAt ss i).f q i) : leastN ls ss 1 (spAt ss i) = r :=
  least_eq (by rw [who_taken hok h hi]; simp; omega) (fun m hm => by rw [who_taken hok h hi]; simp; exact h2 m hm)
theorem least_full {ss : List SpV} {regs : Int} {i : Nat} {ls : List LcV} (hok : OkS ss) (h : InvS ss regs i ls) (hi : i < ss.length) {R : Nat} (h2 : ∀ q : Nat, q < R → 0 ≤ whoF ls ss (spAt ss i).f q i) : ¬ (leastN ls ss 1 (spAt ss i) : Int) < R := fun hlt => by
  have := (least_spec ls ss 1 (spAt ss i)).1
  rw [who_taken hok h hi] at this
  have h3 := h2 (leastN ls ss 1 (spAt ss i)) (by omega)
  simp at this
  omega
theorem far_spec (ls : List LcV) (ss : List SpV) (f : Int) (i : Nat) : ∀ R, (∀ q : Nat, q < R → 0 ≤ whoF ls ss f q i) → (farN ls ss f i R = i ∨ (farN ls ss f i R < i ∧ (lcAt ls (farN ls ss f i R)).k = 1)) ∧ endsB16 (spAt ss (farN ls ss f i R)) (spAt ss i) = false ∧ ∀ q : Nat, q < R → endsB16 (spAt ss (farN ls ss f i R)) (spAt ss (whoF ls ss f q i).toNat) = false
  | 0, _ => ⟨.inl rfl, by simp [farN, endsB16], fun q h => absurd h (by omega)⟩
  | R + 1, hq => by
    obtain ⟨h1, h2, h3⟩ := far_spec ls ss f i R (fun q h => hq q (by omega))
    rw [farN]
    by_cases h : endsB16 (spAt ss (farN ls ss f i R)) (spAt ss (whoF ls ss f R i).toNat) = true
    · rw [if_pos h]
      have h0 := hq R (by omega)
      rcases who_spec ls ss f R i with ⟨e, -⟩ | ⟨j, e, e2, e3, -⟩
      · omega
      · rw [e] at h ⊢
        rw [Int.toNat_natCast] at h ⊢
        unfold endsB16 at h h2 h3
        refine ⟨.inr ⟨e2, by rw [e3]⟩, ?_, fun q hqR => ?_⟩
        · unfold endsB16
          simp at h h2 ⊢
          omega
        · by_cases eq : q = R
          · subst eq
            rw [e, Int.toNat_natCast]
            simp [endsB16]
          · have := h3 q (by omega)
            unfold endsB16
            simp at h this ⊢
            omega
    · rw [if_neg h]
      refine ⟨h1, h2, fun q hqR => ?_⟩
      by_cases eq : q = R
      · subst eq; simpa using h
      · exact h3 q (by omega)
theorem far_last {ss : List SpV} {R : Nat} {i : Nat} {ls : List LcV} (hok : OkS ss) (h : InvS ss R i ls) (hi : i < ss.length) (hq : ∀ q : Nat, q < R → 0 ≤ whoF ls ss (spAt ss i).f q i) : farN ls ss (spAt ss i).f i R = lastF ls ss i i := by
  obtain ⟨a1, a2, a3⟩ := far_spec ls ss (spAt ss i).f i R hq
  obtain ⟨b1, b2, b3⟩ := last_spec ls ss i i
  generalize farN ls ss (spAt ss i).f i R = x at *
  generalize lastF ls ss i i = y at *
  have hxi : x ≤ i := by rcases a1 with e | e <;> omega
  have hyi : y ≤ i := by rcases b1 with e | e <;> omega
  have oi := (hok.lo i hi).2.1
  -- x is no sooner over than any that has a register
  have hx : ∀ j, j < i → (lcAt ls j).k = 1 → endsB16 (spAt ss x) (spAt ss j) = false := fun j hj hk => by
    by_cases ht : (spAt ss i).f ≤ (spAt ss j).t
    · rcases h.kind j hj with ⟨k1, k2, k3⟩ | ⟨k1, -⟩
      · obtain ⟨r, hr⟩ : ∃ r : Nat, (lcAt ls j).n = r := ⟨(lcAt ls j).n.toNat, by omega⟩
        have e : lcAt ls j = ⟨1, (r : Int)⟩ := by rw [← k1, ← hr]
        have hr2 : r < R := by omega
        rcases who_spec ls ss (spAt ss i).f r i with ⟨w1, w2⟩ | ⟨q, w1, w2, w3, w4⟩
        · exact absurd ⟨e, ht⟩ (w2 j hj)
        · have hqj : q = j := by
            refine Decidable.byContradiction fun hne => ?_
            have hap := h.apart' hne w2 hj (by rw [w3, e])
            have f1 := hok.up j i hj hi
            have f2 := hok.up q i w2 hi
            have o2 := (hok.lo j (by omega)).2.1
            have o3 := (hok.lo q (by omega)).2.1
            unfold meetB at hap
            simp at hap
            omega
          have := a3 r hr2
          rw [w1, Int.toNat_natCast, hqj] at this
          exact this
      · omega
    · have := ends_le a2
      unfold endsB16
      simp
      omega
  have h1 : endsB16 (spAt ss x) (spAt ss y) = false := by
    rcases b1 with e | ⟨e1, e2⟩
    · subst e; exact a2
    · exact hx y e1 e2
  have h2 : endsB16 (spAt ss y) (spAt ss x) = false := by
    rcases a1 with e | ⟨e1, e2⟩
    · subst e; exact b2
    · exact b3 x e1 e2
  have hv : (spAt ss x).v = (spAt ss y).v := by
    unfold endsB16 at h1 h2
    simp at h1 h2
    omega
  rcases Nat.lt_trichotomy x y with e | e | e
  · exact absurd hv (hok.ne x y e (by omega))
  · exact e
  · exact absurd hv.symm (hok.ne y x e (by omega))
def freeN (ls : List LcV) (ss : List SpV) (m : Int) (s : SpV) (k : Nat) : Bool := (List.range k).all (fun j => !(decide (lcAt ls j = ⟨2, m⟩) && meetB (spAt ss j) s))
theorem free_next (ls : List LcV) (ss : List SpV) (m : Int) (s : SpV) (k : Nat) : freeN ls ss m s (k + 1) = (freeN ls ss m s k && !(decide (lcAt ls k = ⟨2, m⟩) && meetB (spAt ss k) s)) := by
  unfold freeN
  rw [List.range_succ, List.all_append]
  simp
theorem free_all {ls : List LcV} {ss : List SpV} (hl : ls.length = ss.length) (m : Int) (s : SpV) : freeN ls ss m s ss.length = !takenB ls ss 2 m s := by
  cases e : takenB ls ss 2 m s with
  | true =>
    obtain ⟨j, a1, a2, a3, a4⟩ := taken_at.1 e
    unfold freeN
    rw [show (!true) = false from rfl, List.all_eq_false]
    exact ⟨j, List.mem_range.2 a2, by simp [a3, a4]⟩
  | false =>
    unfold freeN
    rw [show (!false) = true from rfl, List.all_eq_true]
    intro j hj
    have hj' := List.mem_range.1 hj
    cases e2 : (decide (lcAt ls j = ⟨2, m⟩) && meetB (spAt ss j) s) with
    | false => rfl
    | true =>
      rw [Bool.and_eq_true] at e2
      rw [taken_at.2 ⟨j, by omega, hj', of_decide_eq_true e2.1, e2.2⟩] at e
      cases e
end Go.Proofs.Ytojobajeffipdaa
