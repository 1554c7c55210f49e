/- Layer 16, the mathematics: spans and locations as plain data; the scan, span by span; what holds along it. No condition. -/
import Derived.Test.YtojobajeffipdaaPcMB
set_option linter.unusedSimpArgs false
set_option linter.unusedVariables false
namespace Go.Proofs.Ytojobajeffipdaa
open Go.RowKit

structure SpV where
  v : Int
  f : Int
  t : Int
  c : Bool
instance : DecidableEq SpV := fun x y =>
  decidable_of_iff (x.v = y.v ∧ x.f = y.f ∧ x.t = y.t ∧ x.c = y.c) (by cases x; cases y; simp only [SpV.mk.injEq])
structure LcV where
  k : Int
  n : Int
instance : DecidableEq LcV := fun x y => decidable_of_iff (x.k = y.k ∧ x.n = y.n) (by cases x; cases y; simp only [LcV.mk.injEq])

def spAt (ss : List SpV) (i : Nat) : SpV := ss.getD i ⟨0, 0, 0, false⟩
def lcAt (ls : List LcV) (i : Nat) : LcV := ls.getD i ⟨0, 0⟩
def meetB (a b : SpV) : Bool := decide (max a.f b.f ≤ min a.t b.t)
def endsB16 (a b : SpV) : Bool := decide (a.t < b.t) || (decide (a.t = b.t) && decide (a.v < b.v))
def takenB (ls : List LcV) (ss : List SpV) (k n : Int) (s : SpV) : Bool := (ls.zip ss).any (fun p => decide (p.1 = ⟨k, n⟩) && meetB p.2 s)
def leastP (p : Nat → Bool) (m : Nat) : Nat := ((List.range (m + 1)).find? p).getD 0
def leastN (ls : List LcV) (ss : List SpV) (k : Int) (s : SpV) : Nat := leastP (fun n => !takenB ls ss k n s) ls.length
def lastF (ls : List LcV) (ss : List SpV) (i : Nat) : Nat → Nat
  | 0 => i
  | k + 1 => if (lcAt ls k).k = 1 ∧ endsB16 (spAt ss (lastF ls ss i k)) (spAt ss k) = true then k else lastF ls ss i k
def putL (ls : List LcV) (ss : List SpV) (i : Nat) : List LcV := ls.set i ⟨2, leastN ls ss 2 (spAt ss i)⟩
def stepL (ss : List SpV) (regs : Int) (i : Nat) (ls : List LcV) : List LcV :=
  if (spAt ss i).c = true then putL ls ss i
  else if (leastN ls ss 1 (spAt ss i) : Int) < regs then ls.set i ⟨1, leastN ls ss 1 (spAt ss i)⟩
  else putL (ls.set i (lcAt ls (lastF ls ss i i))) ss (lastF ls ss i i)
def scanL (ss : List SpV) (regs : Int) : Nat → List LcV
  | 0 => List.replicate ss.length ⟨0, 0⟩
  | k + 1 => stepL ss regs k (scanL ss regs k)
def okN (ss : List SpV) (i : Nat) : Bool :=
  decide (0 ≤ (spAt ss i).f) && decide ((spAt ss i).f ≤ (spAt ss i).t) && decide ((spAt ss i).t ≤ 1099511627776) &&
  (decide (i = 0) || !(decide ((spAt ss (i - 1)).f > (spAt ss i).f) || (decide ((spAt ss (i - 1)).f = (spAt ss i).f) && decide ((spAt ss (i - 1)).v > (spAt ss i).v)))) &&
  (List.range i).all (fun k => !decide ((spAt ss k).v = (spAt ss i).v))
def rightB16 (ss : List SpV) : Bool := decide (ss.length ≤ 48) && (List.range ss.length).all (okN ss)

theorem spAt_of {ss : List SpV} {i : Nat} {s : SpV} (h : ss[i]? = some s) : spAt ss i = s := by unfold spAt; rw [List.getD, h]; rfl
theorem lcAt_of {ls : List LcV} {i : Nat} {s : LcV} (h : ls[i]? = some s) : lcAt ls i = s := by unfold lcAt; rw [List.getD, h]; rfl
theorem spAt_some {ss : List SpV} {i : Nat} (h : i < ss.length) : ss[i]? = some (spAt ss i) := by
  rw [List.getElem?_eq_getElem h, spAt_of (List.getElem?_eq_getElem h)]
theorem lcAt_some {ls : List LcV} {i : Nat} (h : i < ls.length) : ls[i]? = some (lcAt ls i) := by
  rw [List.getElem?_eq_getElem h, lcAt_of (List.getElem?_eq_getElem h)]
theorem lcAt_set {ls : List LcV} {i j : Nat} {x : LcV} (h : i < ls.length) : lcAt (ls.set i x) j = if j = i then x else lcAt ls j := by
  unfold lcAt
  rw [List.getD, List.getD, List.getElem?_set]
  by_cases e : i = j
  · subst e; simp [h]
  · have : ¬ j = i := fun h => e h.symm
    simp [e, this]
theorem meet_comm16 (a b : SpV) : meetB a b = meetB b a := by unfold meetB; congr 1; simp; omega

theorem pig : ∀ (k : Nat) (zs : List Int), (∀ n : Nat, n < k → (n : Int) ∈ zs) → k ≤ zs.length
  | 0, _, _ => Nat.zero_le _
  | k + 1, zs, h => by
    have hk := h k (by omega)
    have := pig k (zs.erase (k : Int)) (fun n hn => (List.mem_erase_of_ne (by omega)).2 (h n (by omega)))
    rw [List.length_erase_of_mem hk] at this
    have := List.length_pos_of_mem hk
    omega
theorem leastP_spec {p : Nat → Bool} {m : Nat} (h : ∃ n, n ≤ m ∧ p n = true) : leastP p m ≤ m ∧ p (leastP p m) = true ∧ ∀ n, n < leastP p m → p n = false := by
  unfold leastP
  cases hf : (List.range (m + 1)).find? p with
  | none =>
    obtain ⟨n, hn, hp⟩ := h
    have := List.find?_eq_none.1 hf n (List.mem_range.2 (by omega))
    rw [hp] at this
    exact absurd rfl this
  | some n =>
    have h1 := List.find?_some hf
    have h2 := List.mem_range.1 (List.mem_of_find?_eq_some hf)
    refine ⟨by simp; omega, by simpa using h1, fun j hj => ?_⟩
    simp at hj
    have := (List.find?_range_eq_some.1 hf).2.2 j hj
    simpa using this
def hitsN (ls : List LcV) (ss : List SpV) (k : Int) (s : SpV) : Nat := ((ls.zip ss).filter (fun p => decide (p.1.k = k) && meetB p.2 s)).length
theorem taken_hits {ls : List LcV} {ss : List SpV} {k : Int} {s : SpV} {m : Nat} (h : ∀ n : Nat, n < m → takenB ls ss k n s = true) : m ≤ hitsN ls ss k s := by
  have := pig m (((ls.zip ss).filter (fun p => decide (p.1.k = k) && meetB p.2 s)).map (fun p => p.1.n)) (fun n hn => by
    obtain ⟨p, hp, hq⟩ := List.any_eq_true.1 (h n hn)
    rw [Bool.and_eq_true] at hq
    have he := of_decide_eq_true hq.1
    refine List.mem_map.2 ⟨p, List.mem_filter.2 ⟨hp, ?_⟩, by rw [he]⟩
    rw [he, hq.2]; simp)
  rwa [List.length_map] at this
theorem hits_le (ls : List LcV) (ss : List SpV) (k : Int) (s : SpV) : hitsN ls ss k s ≤ ls.length := by
  refine Nat.le_trans (List.length_filter_le _ _) ?_
  rw [List.length_zip]
  omega
theorem least_spec (ls : List LcV) (ss : List SpV) (k : Int) (s : SpV) : takenB ls ss k (leastN ls ss k s) s = false ∧ (∀ n : Nat, n < leastN ls ss k s → takenB ls ss k n s = true) ∧ leastN ls ss k s ≤ hitsN ls ss k s := by
  have hex : ∃ n, n ≤ ls.length ∧ (!takenB ls ss k (n : Nat) s) = true := by
    by_cases h : ∃ n, n ≤ ls.length ∧ (!takenB ls ss k (n : Nat) s) = true
    · exact h
    · have h1 := taken_hits (ls := ls) (ss := ss) (k := k) (s := s) (m := ls.length + 1) (fun n hn => by
        cases e : takenB ls ss k n s with
        | true => rfl
        | false => exact absurd ⟨n, by omega, by rw [e]; rfl⟩ h)
      have := hits_le ls ss k s
      omega
  obtain ⟨h1, h2, h3⟩ := leastP_spec hex
  have h4 : ∀ n : Nat, n < leastN ls ss k s → takenB ls ss k n s = true := fun n hn => by have := h3 n hn; simpa using this
  exact ⟨by have := h2; unfold leastN; simpa using this, h4, taken_hits h4⟩
theorem least_le (ls : List LcV) (ss : List SpV) (k : Int) (s : SpV) : leastN ls ss k s ≤ ls.length := Nat.le_trans (least_spec ls ss k s).2.2 (hits_le _ _ _ _)
theorem taken_at {ls : List LcV} {ss : List SpV} {k n : Int} {s : SpV} : takenB ls ss k n s = true ↔ ∃ j, j < ls.length ∧ j < ss.length ∧ lcAt ls j = ⟨k, n⟩ ∧ meetB (spAt ss j) s = true := by
  unfold takenB
  rw [List.any_eq_true]
  constructor
  · rintro ⟨p, hp, hq⟩
    rw [Bool.and_eq_true] at hq
    obtain ⟨j, hj⟩ := List.getElem?_of_mem hp
    obtain ⟨h1, h2⟩ := List.getElem?_zip_eq_some.1 hj
    have e1 := lcAt_of h1
    have e2 := spAt_of h2
    exact ⟨j, (List.getElem?_eq_some_iff.1 h1).1, (List.getElem?_eq_some_iff.1 h2).1, by rw [e1]; exact of_decide_eq_true hq.1, by rw [e2]; exact hq.2⟩
  · rintro ⟨j, h1, h2, h3, h4⟩
    refine ⟨(lcAt ls j, spAt ss j), ?_, by rw [Bool.and_eq_true]; exact ⟨by rw [h3]; simp, h4⟩⟩
    exact List.mem_of_getElem? (i := j) (List.getElem?_zip_eq_some.2 ⟨lcAt_some h1, spAt_some h2⟩)
theorem last_spec (ls : List LcV) (ss : List SpV) (i : Nat) : ∀ k, (lastF ls ss i k = i ∨ (lastF ls ss i k < k ∧ (lcAt ls (lastF ls ss i k)).k = 1)) ∧ endsB16 (spAt ss (lastF ls ss i k)) (spAt ss i) = false ∧ ∀ j, j < k → (lcAt ls j).k = 1 → endsB16 (spAt ss (lastF ls ss i k)) (spAt ss j) = false
  | 0 => ⟨.inl rfl, by simp [lastF, endsB16], fun j hj => absurd hj (by omega)⟩
  | k + 1 => by
    obtain ⟨h1, h2, h3⟩ := last_spec ls ss i k
    rw [lastF]
    by_cases h : (lcAt ls k).k = 1 ∧ endsB16 (spAt ss (lastF ls ss i k)) (spAt ss k) = true
    · rw [if_pos h]
      obtain ⟨hk, he⟩ := h
      unfold endsB16 at he h2 h3
      refine ⟨.inr ⟨by omega, hk⟩, ?_, fun j hj hr => ?_⟩
      · unfold endsB16
        simp at he h2 ⊢
        omega
      · unfold endsB16
        by_cases e : j = k
        · subst e; simp
        · have := h3 j (by omega) hr
          simp at he this ⊢
          omega
    · rw [if_neg h]
      refine ⟨h1.imp_right fun ⟨a, b⟩ => ⟨by omega, b⟩, h2, fun j hj hr => ?_⟩
      by_cases e : j = k
      · subst e
        have : ¬ endsB16 (spAt ss (lastF ls ss i j)) (spAt ss j) = true := fun hh => h ⟨hr, hh⟩
        simpa using this
      · exact h3 j (by omega) hr

/-- What right spans give. -/
structure OkS (ss : List SpV) : Prop where
  len : ss.length ≤ 48
  lo : ∀ i, i < ss.length → 0 ≤ (spAt ss i).f ∧ (spAt ss i).f ≤ (spAt ss i).t ∧ (spAt ss i).t ≤ 1099511627776
  up : ∀ i j, i < j → j < ss.length → (spAt ss i).f ≤ (spAt ss j).f
  ne : ∀ i j, i < j → j < ss.length → (spAt ss i).v ≠ (spAt ss j).v
theorem okS_of {ss : List SpV} (h : rightB16 ss = true) : OkS ss := by
  unfold rightB16 at h
  rw [Bool.and_eq_true, List.all_eq_true] at h
  have h0 := of_decide_eq_true h.1
  have h1 : ∀ i, i < ss.length → okN ss i = true := fun i hi => h.2 i (List.mem_range.2 hi)
  have h2 : ∀ i, i < ss.length → (0 ≤ (spAt ss i).f ∧ (spAt ss i).f ≤ (spAt ss i).t ∧ (spAt ss i).t ≤ 1099511627776) ∧ (i = 0 ∨ (spAt ss (i - 1)).f ≤ (spAt ss i).f) ∧ ∀ k, k < i → (spAt ss k).v ≠ (spAt ss i).v := fun i hi => by
    have := h1 i hi
    unfold okN at this
    simp only [Bool.and_eq_true, List.all_eq_true] at this
    obtain ⟨⟨⟨⟨a, b⟩, c⟩, d⟩, e⟩ := this
    refine ⟨⟨of_decide_eq_true a, of_decide_eq_true b, of_decide_eq_true c⟩, ?_, fun k hk => ?_⟩
    · simp at d
      rcases d with d | d
      · exact .inl d
      · exact .inr (by omega)
    · have := e k (List.mem_range.2 hk)
      simpa using this
  refine ⟨h0, fun i hi => (h2 i hi).1, fun i j hij hj => ?_, fun i j hij hj => (h2 j hj).2.2 i hij⟩
  have key : ∀ d, i + d < ss.length → (spAt ss i).f ≤ (spAt ss (i + d)).f := by
    intro d
    induction d with
    | zero => intro _; exact Int.le_refl _
    | succ d ih =>
      intro hd
      have a := ih (by omega)
      rcases (h2 (i + (d + 1)) hd).2.1 with b | b
      · omega
      · have e : i + (d + 1) - 1 = i + d := by omega
        rw [e] at b
        omega
  have := key (j - i) (by omega)
  rwa [show i + (j - i) = j by omega] at this

structure InvS (ss : List SpV) (regs : Int) (i : Nat) (ls : List LcV) : Prop where
  len : ls.length = ss.length
  zero : ∀ j, i ≤ j → lcAt ls j = ⟨0, 0⟩
  kind : ∀ j, j < i → ((lcAt ls j).k = 1 ∧ 0 ≤ (lcAt ls j).n ∧ (lcAt ls j).n < regs) ∨ ((lcAt ls j).k = 2 ∧ 0 ≤ (lcAt ls j).n ∧ (lcAt ls j).n < 100)
  call : ∀ j, j < i → (spAt ss j).c = true → (lcAt ls j).k = 2
  apart : ∀ j k, j < k → k < i → lcAt ls j = lcAt ls k → meetB (spAt ss j) (spAt ss k) = false
theorem InvS.apart' {ss : List SpV} {regs : Int} {i : Nat} {ls : List LcV} (h : InvS ss regs i ls) {j k : Nat} (hjk : j ≠ k) (hj : j < i) (hk : k < i) (e : lcAt ls j = lcAt ls k) : meetB (spAt ss j) (spAt ss k) = false := by
  rcases Nat.lt_or_gt_of_ne hjk with g | g
  · exact h.apart j k g hk e
  · rw [meet_comm16]; exact h.apart k j g hj e.symm
theorem lcAt_out {ls : List LcV} {j : Nat} (h : ls.length ≤ j) : lcAt ls j = ⟨0, 0⟩ := by unfold lcAt; rw [List.getD, List.getElem?_eq_none h]; rfl
theorem inv_zero (ss : List SpV) (regs : Int) : InvS ss regs 0 (scanL ss regs 0) := by
  refine ⟨by simp [scanL], fun j _ => ?_, fun j h => absurd h (by omega), fun j h => absurd h (by omega), fun j k _ h => absurd h (by omega)⟩
  unfold lcAt scanL
  rw [List.getD, List.getElem?_replicate]
  split <;> rfl
theorem taken_no {ls : List LcV} {ss : List SpV} {k n : Int} {s : SpV} (h : takenB ls ss k n s = false) {j : Nat} (h1 : j < ls.length) (h2 : j < ss.length) (e : lcAt ls j = ⟨k, n⟩) : meetB (spAt ss j) s = false := by
  cases hm : meetB (spAt ss j) s with
  | false => rfl
  | true => rw [taken_at.2 ⟨j, h1, h2, e, hm⟩] at h; cases h
/-- One span more, ahead of which nothing changes. -/
theorem inv_set {ss : List SpV} {regs : Int} {i : Nat} {ls : List LcV} (h : InvS ss regs i ls) (hi : i < ss.length) (x : LcV) (hx : (x.k = 1 ∧ 0 ≤ x.n ∧ x.n < regs ∧ (spAt ss i).c = false) ∨ (x.k = 2 ∧ 0 ≤ x.n ∧ x.n < 100))
    (ha : takenB ls ss x.k x.n (spAt ss i) = false) : InvS ss regs (i + 1) (ls.set i x) := by
  have hl := h.len
  have hA : ∀ j, lcAt (ls.set i x) j = if j = i then x else lcAt ls j := fun j => lcAt_set (by omega)
  refine ⟨by rw [List.length_set]; exact hl, fun j hj => ?_, fun j hj => ?_, fun j hj hc => ?_, fun j k hjk hk e => ?_⟩
  · rw [hA, if_neg (by omega)]; exact h.zero j (by omega)
  · rw [hA]
    by_cases e : j = i
    · rw [if_pos e]
      exact hx.imp (fun ⟨a, b, c, _⟩ => ⟨a, b, c⟩) id
    · rw [if_neg e]; exact h.kind j (by omega)
  · rw [hA]
    by_cases e : j = i
    · rw [if_pos e]
      subst e
      rcases hx with ⟨_, _, _, q⟩ | q
      · rw [q] at hc; cases hc
      · exact q.1
    · rw [if_neg e]; exact h.call j (by omega) hc
  · rw [hA, hA] at e
    rw [if_neg (by omega)] at e
    by_cases ek : k = i
    · rw [if_pos ek] at e
      subst ek
      exact taken_no ha (by omega) (by omega) e
    · rw [if_neg ek] at e
      exact h.apart j k hjk (by omega) e
/-- The last one goes to a slot. -/
theorem inv_evict {ss : List SpV} {regs : Int} {i m : Nat} {ls : List LcV} (hok : OkS ss) (h : InvS ss regs i ls) (hi : i < ss.length) (hm : m < i) (hc : (spAt ss i).c = false) (hk : (lcAt ls m).k = 1) (ht : (spAt ss i).t ≤ (spAt ss m).t) (x : LcV) (hx : x.k = 2 ∧ 0 ≤ x.n ∧ x.n < 100)
    (ha : takenB (ls.set i (lcAt ls m)) ss x.k x.n (spAt ss m) = false) : InvS ss regs (i + 1) ((ls.set i (lcAt ls m)).set m x) := by
  have hl := h.len
  have hA : ∀ j, lcAt ((ls.set i (lcAt ls m)).set m x) j = if j = m then x else if j = i then lcAt ls m else lcAt ls j := fun j => by rw [lcAt_set (by rw [List.length_set]; omega), lcAt_set (by omega)]
  have hB : ∀ j, lcAt (ls.set i (lcAt ls m)) j = if j = i then lcAt ls m else lcAt ls j := fun j => lcAt_set (by omega)
  have hmi : ¬ m = i := by omega
  -- a span ahead of i with m's register doesn't meet i
  have key : ∀ j, j < i → j ≠ m → lcAt ls j = lcAt ls m → meetB (spAt ss j) (spAt ss i) = false := fun j hj hne e => by
    have hap := h.apart' hne hj hm e
    have f1 := hok.up j i hj hi
    have f2 := hok.up m i hm hi
    have o1 := (hok.lo i hi).2.1
    have o2 := (hok.lo j (by omega)).2.1
    have o3 := (hok.lo m (by omega)).2.1
    unfold meetB at hap ⊢
    simp at hap ⊢
    omega
  refine ⟨by rw [List.length_set, List.length_set]; exact hl, fun j hj => ?_, fun j hj => ?_, fun j hj hcj => ?_, fun j k hjk hk' e => ?_⟩
  · rw [hA, if_neg (by omega), if_neg (by omega)]; exact h.zero j (by omega)
  · rw [hA]
    by_cases e : j = m
    · rw [if_pos e]; exact .inr hx
    · rw [if_neg e]
      by_cases e2 : j = i
      · rw [if_pos e2]; exact h.kind m hm
      · rw [if_neg e2]; exact h.kind j (by omega)
  · rw [hA]
    by_cases e : j = m
    · rw [if_pos e]; exact hx.1
    · rw [if_neg e]
      by_cases e2 : j = i
      · subst e2; rw [hc] at hcj; cases hcj
      · rw [if_neg e2]; exact h.call j (by omega) hcj
  · rw [hA, hA] at e
    have slot : ∀ j, j < i + 1 → j ≠ m → (if j = i then lcAt ls m else lcAt ls j) = x → meetB (spAt ss j) (spAt ss m) = false := fun j hj hne e => by
      have e' : lcAt (ls.set i (lcAt ls m)) j = ⟨x.k, x.n⟩ := by rw [hB]; exact e
      exact taken_no ha (by rw [List.length_set]; omega) (by omega) e'
    by_cases e1 : j = m
    · rw [if_pos e1, if_neg (by omega)] at e
      subst e1
      rw [meet_comm16]
      exact slot k hk' (by omega) e.symm
    · rw [if_neg e1] at e
      by_cases e2 : k = m
      · rw [if_pos e2] at e
        subst e2
        exact slot j (by omega) e1 e
      · rw [if_neg e2, if_neg (by omega)] at e
        by_cases e3 : k = i
        · rw [if_pos e3] at e
          subst e3
          exact key j hjk e1 e
        · rw [if_neg e3] at e
          exact h.apart j k hjk (by omega) e
theorem last_lt (ls : List LcV) (ss : List SpV) (i : Nat) : lastF ls ss i i ≤ i := by
  rcases (last_spec ls ss i i).1 with h | h <;> omega
theorem ends_le {a b : SpV} (h : endsB16 a b = false) : b.t ≤ a.t := by unfold endsB16 at h; simp at h; omega
theorem inv_step16 {ss : List SpV} {regs : Int} {i : Nat} {ls : List LcV} (hok : OkS ss) (h : InvS ss regs i ls) (hi : i < ss.length) : InvS ss regs (i + 1) (stepL ss regs i ls) := by
  have hl := h.len
  have h48 := hok.len
  unfold stepL
  by_cases hc : (spAt ss i).c = true
  · rw [if_pos hc]
    have := least_le ls ss 2 (spAt ss i)
    exact inv_set h hi _ (.inr ⟨rfl, by simp, by simp; omega⟩) (least_spec ls ss 2 (spAt ss i)).1
  · rw [if_neg hc]
    by_cases hr : (leastN ls ss 1 (spAt ss i) : Int) < regs
    · rw [if_pos hr]
      exact inv_set h hi _ (.inl ⟨rfl, by simp, hr, by simpa using hc⟩) (least_spec ls ss 1 (spAt ss i)).1
    · rw [if_neg hr]
      obtain ⟨h1, h2, -⟩ := last_spec ls ss i i
      generalize lastF ls ss i i = m at *
      have hlm := least_le (ls.set i (lcAt ls m)) ss 2 (spAt ss m)
      rw [List.length_set] at hlm
      unfold putL
      rcases h1 with h1 | ⟨h1, h1'⟩
      · subst h1
        have e : ls.set m (lcAt ls m) = ls := by
          refine List.ext_getElem? fun j => ?_
          rw [List.getElem?_set]
          by_cases e : m = j
          · subst e; rw [if_pos rfl, if_pos (by omega), lcAt_some (by omega)]
          · rw [if_neg e]
        rw [e]
        rw [e] at hlm
        exact inv_set h hi _ (.inr ⟨rfl, by simp, by simp; omega⟩) (least_spec ls ss 2 (spAt ss m)).1
      · exact inv_evict hok h hi h1 (by simpa using hc) h1' (ends_le h2) _ ⟨rfl, by simp, by simp; omega⟩ (least_spec _ ss 2 (spAt ss m)).1
theorem inv_all {ss : List SpV} {regs : Int} (hok : OkS ss) : ∀ i, i ≤ ss.length → InvS ss regs i (scanL ss regs i)
  | 0, _ => inv_zero ss regs
  | i + 1, h => inv_step16 hok (inv_all hok i (by omega)) (by omega)
end Go.Proofs.Ytojobajeffipdaa
