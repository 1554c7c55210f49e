/- Layer 16, the mathematics: slots are numbered without gaps; where there is room each has a register; moved spans; how many slots are needed. No condition. -/
import Derived.Test.YtojobajeffipdaaPcQM
set_option linter.unusedSimpArgs false
set_option linter.unusedVariables false
namespace Go.Proofs.Ytojobajeffipdaa
open Go.RowKit

/-- How many have a slot. -/
def cnt2 (ls : List LcV) : Nat := ls.countP (fun x => decide (x.k = 2))
theorem cnt2_le (ls : List LcV) : cnt2 ls ≤ ls.length := List.countP_le_length
theorem cnt2_set {x : LcV} : ∀ {ls : List LcV} {i : Nat}, i < ls.length → cnt2 (ls.set i x) + (if (lcAt ls i).k = 2 then 1 else 0) = cnt2 ls + (if x.k = 2 then 1 else 0)
  | [], _, h => absurd h (by simp)
  | y :: ls, 0, _ => by
    simp only [List.set_cons_zero, cnt2, List.countP_cons, lcAt, List.getD_cons_zero]
    by_cases h1 : x.k = 2 <;> by_cases h2 : y.k = 2 <;> simp [h1, h2]
  | y :: ls, i + 1, h => by
    have ih := cnt2_set (x := x) (ls := ls) (i := i) (by simpa using h)
    have e : lcAt (y :: ls) (i + 1) = lcAt ls i := by simp [lcAt, List.getD]
    rw [e]
    simp only [List.set_cons_succ, cnt2, List.countP_cons] at ih ⊢
    omega
theorem hits2_le (ls : List LcV) (ss : List SpV) (s : SpV) : hitsN ls ss 2 s ≤ cnt2 ls := by
  unfold hitsN cnt2
  induction ls generalizing ss with
  | nil => simp
  | cons x ls ih =>
    cases ss with
    | nil => simp
    | cons y ss =>
      have := ih ss
      rw [List.zip_cons_cons, List.filter_cons, List.countP_cons]
      by_cases h : x.k = 2
      · cases hm : meetB y s <;> simp [h, hm] <;> omega
      · simp [h]
        omega
/-- Slots are numbered without gaps. -/
def Dense (ls : List LcV) : Prop := ∀ j, (lcAt ls j).k = 2 → (lcAt ls j).n < cnt2 ls
theorem dense_zero (ss : List SpV) (regs : Int) : Dense (scanL ss regs 0) := fun j h => by
  unfold lcAt scanL at h
  rw [List.getD, List.getElem?_replicate] at h
  split at h <;> simp at h
theorem dense_put {ls : List LcV} {ss : List SpV} {i : Nat} (h : Dense ls) (hi : i < ls.length) (hk : (lcAt ls i).k ≠ 2) : Dense (putL ls ss i) := fun j hj => by
  have hc := cnt2_set (x := ⟨2, leastN ls ss 2 (spAt ss i)⟩) hi
  rw [if_neg hk, if_pos rfl] at hc
  unfold putL at hj ⊢
  rw [lcAt_set hi] at hj ⊢
  have h1 := (least_spec ls ss 2 (spAt ss i)).2.2
  have h2 := hits2_le ls ss (spAt ss i)
  by_cases e : j = i
  · rw [if_pos e]
    simp only
    omega
  · rw [if_neg e] at hj ⊢
    have := h j hj
    omega
theorem dense_reg {ls : List LcV} {i : Nat} {x : LcV} (h : Dense ls) (hi : i < ls.length) (hk : (lcAt ls i).k ≠ 2) (hx : x.k ≠ 2) : Dense (ls.set i x) := fun j hj => by
  have hc := cnt2_set (x := x) hi
  rw [if_neg hk, if_neg hx] at hc
  rw [lcAt_set hi] at hj ⊢
  by_cases e : j = i
  · rw [if_pos e] at hj; exact absurd hj hx
  · rw [if_neg e] at hj ⊢
    have := h j hj
    omega
theorem set_self {ls : List LcV} {m : Nat} (h : m < ls.length) : ls.set m (lcAt ls m) = ls := by
  refine List.ext_getElem? fun j => ?_
  rw [List.getElem?_set]
  by_cases e : m = j
  · subst e; rw [if_pos rfl, if_pos h, lcAt_some h]
  · rw [if_neg e]
theorem dense_step {ss : List SpV} {regs : Int} {i : Nat} {ls : List LcV} (h : InvS ss regs i ls) (hd : Dense ls) (hi : i < ss.length) : Dense (stepL ss regs i ls) := by
  have hl := h.len
  have hz : (lcAt ls i).k ≠ 2 := by rw [h.zero i (Nat.le_refl _)]; simp
  unfold stepL
  by_cases hc : (spAt ss i).c = true
  · rw [if_pos hc]; exact dense_put hd (by omega) hz
  · rw [if_neg hc]
    by_cases hr : (leastN ls ss 1 (spAt ss i) : Int) < regs
    · rw [if_pos hr]; exact dense_reg hd (by omega) hz (by simp)
    · rw [if_neg hr]
      have h1 := (last_spec ls ss i i).1
      generalize lastF ls ss i i = m at *
      rcases h1 with h1 | ⟨h1, h1'⟩
      · subst h1
        rw [set_self (by omega)]
        exact dense_put hd (by omega) hz
      · refine dense_put (dense_reg hd (by omega) hz (by rw [h1']; omega)) (by rw [List.length_set]; omega) ?_
        rw [lcAt_set (by omega), if_neg (by omega), h1']
        omega
theorem dense_all {ss : List SpV} {regs : Int} (hok : OkS ss) : ∀ i, i ≤ ss.length → Dense (scanL ss regs i)
  | 0, _ => dense_zero ss regs
  | i + 1, h => dense_step (inv_all hok i (by omega)) (dense_all hok i (by omega)) (by omega)

/-- How many that aren't kept across a call are there where s begins. -/
def liveN (ss : List SpV) (s : SpV) : Nat := ss.countP (fun x => !x.c && decide (x.f ≤ s.f) && decide (s.f ≤ x.t))
/-- Where there is room each has what it wants. -/
def Roomy (ss : List SpV) (i : Nat) (ls : List LcV) : Prop := ∀ j, j < i → (spAt ss j).c = false → (lcAt ls j).k = 1
theorem hits1_lt {ss : List SpV} {regs : Int} {i : Nat} {ls : List LcV} (hok : OkS ss) (h : InvS ss regs i ls) (hi : i < ss.length) (hc : (spAt ss i).c = false) : hitsN ls ss 1 (spAt ss i) < liveN ss (spAt ss i) := by
  have hl := h.len
  have key : ∀ (xs : List LcV) (bs : List SpV) (p : LcV × SpV → Bool) (q : SpV → Bool), xs.length = bs.length → (∀ (j : Nat) (a : LcV) (b : SpV), xs[j]? = some a → bs[j]? = some b → p (a, b) = true → q b = true) → (∃ (j : Nat) (a : LcV) (b : SpV), xs[j]? = some a ∧ bs[j]? = some b ∧ p (a, b) = false ∧ q b = true) → ((xs.zip bs).filter p).length < bs.countP q := by
    intro xs bs p q hab
    have weak : ∀ (xs : List LcV) (bs : List SpV), xs.length = bs.length → (∀ (j : Nat) (a : LcV) (b : SpV), xs[j]? = some a → bs[j]? = some b → p (a, b) = true → q b = true) → ((xs.zip bs).filter p).length ≤ bs.countP q := by
      intro xs
      induction xs with
      | nil => intro bs _ _; simp
      | cons a xs ih =>
        intro bs hl hpq
        cases bs with
        | nil => simp
        | cons b bs =>
          have := ih bs (by simpa using hl) (fun j x y hx hy => hpq (j + 1) x y (by simpa using hx) (by simpa using hy))
          have h0 := hpq 0 a b rfl rfl
          rw [List.zip_cons_cons, List.filter_cons, List.countP_cons]
          cases hp : p (a, b) with
          | true => rw [h0 hp]; simp; omega
          | false => simp; omega
    induction xs generalizing bs with
    | nil => intro _ ⟨j, a, b, hj, _⟩; simp at hj
    | cons a xs ih =>
      intro hpq ⟨j, x, y, hx, hy, hp, hq⟩
      cases bs with
      | nil => simp at hab
      | cons b bs =>
        have hab' : xs.length = bs.length := by simpa using hab
        have hpq' : ∀ (j : Nat) (x : LcV) (y : SpV), xs[j]? = some x → bs[j]? = some y → p (x, y) = true → q y = true := fun j x y hx hy => hpq (j + 1) x y (by simpa using hx) (by simpa using hy)
        have h0 := hpq 0 a b rfl rfl
        rw [List.zip_cons_cons, List.filter_cons, List.countP_cons]
        cases j with
        | zero =>
          simp at hx hy
          subst hx
          subst hy
          rw [hp, hq]
          have := weak xs bs hab' hpq'
          simp
          omega
        | succ j =>
          have := ih bs hab' hpq' ⟨j, x, y, by simpa using hx, by simpa using hy, hp, hq⟩
          cases hp0 : p (a, b) with
          | true => rw [h0 hp0]; simp; omega
          | false => simp; omega
  have o := (hok.lo i hi).2.1
  refine key ls ss _ _ hl (fun j a b ha hb hp => ?_) ⟨i, _, _, lcAt_some (by omega), spAt_some hi, ?_, ?_⟩
  · rw [Bool.and_eq_true] at hp
    have e1 := lcAt_of ha
    have e2 := spAt_of hb
    have hjl := (List.getElem?_eq_some_iff.1 hb).1
    have hk1 := of_decide_eq_true hp.1
    simp only at hk1
    have hj : j < i := by
      refine Nat.lt_of_not_le fun hij => ?_
      have := h.zero j hij
      rw [e1] at this
      rw [this] at hk1
      simp at hk1
    have hcj : b.c = false := by
      cases e : b.c with
      | false => rfl
      | true =>
        have := h.call j hj (by rw [e2]; exact e)
        rw [e1] at this
        omega
    have hf := hok.up j i hj hi
    rw [e2] at hf
    have hm := hp.2
    unfold meetB at hm
    simp at hm
    simp [hcj]
    omega
  · rw [h.zero i (Nat.le_refl _)]; simp
  · simp [hc]; omega
theorem roomy_step {ss : List SpV} {regs : Int} {i : Nat} {ls : List LcV} (hok : OkS ss) (h : InvS ss regs i ls) (hr : Roomy ss i ls) (hi : i < ss.length) (hroom : (spAt ss i).c = false → (liveN ss (spAt ss i) : Int) ≤ regs) : Roomy ss (i + 1) (stepL ss regs i ls) := by
  have hl := h.len
  unfold stepL
  by_cases hc : (spAt ss i).c = true
  · rw [if_pos hc]
    intro j hj hcj
    unfold putL
    rw [lcAt_set (by omega)]
    by_cases e : j = i
    · subst e; rw [hc] at hcj; cases hcj
    · rw [if_neg e]; exact hr j (by omega) hcj
  · have hc' : (spAt ss i).c = false := by simpa using hc
    have h1 := hits1_lt hok h hi hc'
    have h2 := (least_spec ls ss 1 (spAt ss i)).2.2
    have h3 := hroom hc'
    rw [if_neg hc, if_pos (by omega)]
    intro j hj hcj
    rw [lcAt_set (by omega)]
    by_cases e : j = i
    · rw [if_pos e]
    · rw [if_neg e]; exact hr j (by omega) hcj
theorem roomy_all {ss : List SpV} {regs : Int} (hok : OkS ss) (hroom : ∀ i, i < ss.length → (spAt ss i).c = false → (liveN ss (spAt ss i) : Int) ≤ regs) : ∀ i, i ≤ ss.length → Roomy ss i (scanL ss regs i)
  | 0, _ => fun j h => absurd h (by omega)
  | i + 1, h => roomy_step hok (inv_all hok i (by omega)) (roomy_all hok hroom i (by omega)) (by omega) (hroom i (by omega))
/-- Slots. -/
def slotF (n : Int) (x : LcV) : Int := if x.k = 2 ∧ 0 ≤ x.n ∧ x.n < 1099511627776 then max n (x.n + 1) else n
def slotsN (ls : List LcV) : Int := ls.foldl slotF 0
theorem slotF_nn {n : Int} {x : LcV} (hn : 0 ≤ n) : 0 ≤ slotF n x ∧ (n ≤ 1099511627776 → slotF n x ≤ 1099511627776) := by
  unfold slotF
  split <;> omega
end Go.Proofs.Ytojobajeffipdaa
