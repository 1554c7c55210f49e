/- Layer 17, mathematics: moves, one behind the other. No condition. -/
import Derived.Test.YtkilfejcohnceaaPaQC
set_option linter.unusedSimpArgs false
set_option linter.unusedVariables false
namespace Go.Proofs.Ytkilfejcohnceaa
open Go.RowKit

structure MvV where
  t : LcV
  f : LcV
instance : DecidableEq MvV := fun x y => decidable_of_iff (x.t = y.t ∧ x.f = y.f) (by cases x; cases y; simp only [MvV.mk.injEq])
def mayB17 (x : LcV) : Bool := (decide (x.k = 1) && (decide (0 ≤ x.n) && decide (x.n < 32))) || (decide (x.k = 2) && (decide (0 ≤ x.n) && decide (x.n < 160)))
def metO (l : List MvV) (x : LcV) : Bool := l.any (fun m => decide (m.t = x))
/-- Right: each may be, and nobody ahead has its To. -/
def right17 : List MvV → Bool
  | [] => true
  | m :: l => mayB17 m.t && (mayB17 m.f && (!metO l m.t && right17 l))
def selfB (m : MvV) : Bool := decide (m.t = m.f)
def askB (l : List MvV) (x : LcV) : Bool := l.any (fun m => decide (m.f = x))
def freeN (l : List MvV) : Nat := l.findIdx (fun m => !askB l m.t)
def saveL (x sp : LcV) (l : List MvV) : List MvV := l.map (fun m => if m.f = x then ⟨m.t, sp⟩ else m)
def mvAt (l : List MvV) (i : Nat) : MvV := l.getD i ⟨⟨0, 0⟩, ⟨0, 0⟩⟩
/-- One step: what comes, and what is left. -/
def stepO (sp : LcV) (l : List MvV) : MvV × List MvV :=
  if freeN l < l.length then (mvAt l (freeN l), l.eraseIdx (freeN l)) else (⟨sp, (mvAt l 0).t⟩, saveL (mvAt l 0).t sp l)
def ordN (sp : LcV) : Nat → List MvV → List MvV
  | 0, _ => []
  | n + 1, l => if l = [] then [] else (stepO sp l).1 :: ordN sp n (stepO sp l).2
def dueN (l : List MvV) : Nat := 2 * l.length + (if freeN l < l.length then 0 else 1)
/-- What is under way: none into itself, none into the spare one, no two into one. -/
structure InvO (sp : LcV) (l : List MvV) : Prop where
  own : ∀ m ∈ l, m.t ≠ m.f ∧ m.t ≠ sp
  one : (l.map (·.t)).Nodup
theorem mvAt_of {l : List MvV} {i : Nat} {m : MvV} (h : l[i]? = some m) : mvAt l i = m := by unfold mvAt; rw [List.getD, h]; rfl
theorem mvAt_some {l : List MvV} {i : Nat} (h : i < l.length) : l[i]? = some (mvAt l i) := by
  rw [List.getElem?_eq_getElem h]
  congr 1
  exact (mvAt_of (List.getElem?_eq_getElem h)).symm
theorem mvAt_mem {l : List MvV} {i : Nat} (h : i < l.length) : mvAt l i ∈ l := List.mem_of_getElem? (mvAt_some h)
theorem ask_of {l : List MvV} {m : MvV} (h : m ∈ l) : askB l m.f = true := List.any_eq_true.2 ⟨m, h, by simp⟩
theorem ask_iff {l : List MvV} {x : LcV} : askB l x = true ↔ ∃ m ∈ l, m.f = x := by simp [askB]
theorem metO_iff {l : List MvV} {x : LcV} : metO l x = true ↔ ∃ m ∈ l, m.t = x := by simp [metO]
theorem free_le (l : List MvV) : freeN l ≤ l.length := List.findIdx_le_length
theorem free_at {l : List MvV} (h : freeN l < l.length) : askB l (mvAt l (freeN l)).t = false := by
  have t : (!askB l (l[freeN l]'h).t) = true := List.findIdx_getElem (xs := l) (p := fun m => !askB l m.t) (w := by unfold freeN at h; exact h)
  rw [← mvAt_of (List.getElem?_eq_getElem h)] at t
  simpa [freeN] using t
theorem free_lt {l : List MvV} {j : Nat} (h : j < freeN l) : askB l (mvAt l j).t = true := by
  have hl : j < l.length := Nat.lt_of_lt_of_le h (free_le l)
  have t := List.not_of_lt_findIdx (xs := l) (p := fun m => !askB l m.t) h
  rw [← mvAt_of (List.getElem?_eq_getElem hl)] at t
  simpa using t
theorem free_eq {l : List MvV} {i : Nat} (h1 : ∀ j, j < i → askB l (mvAt l j).t = true) (hi : i < l.length) (h2 : askB l (mvAt l i).t = false) : freeN l = i := by
  rcases Nat.lt_trichotomy (freeN l) i with h | h | h
  · have := free_at (Nat.lt_trans h hi)
    rw [h1 _ h] at this
    cases this
  · exact h
  · have := free_lt h
    rw [h2] at this
    cases this
theorem free_none {l : List MvV} (h : ∀ j, j < l.length → askB l (mvAt l j).t = true) : freeN l = l.length := by
  rcases Nat.lt_or_ge (freeN l) l.length with h1 | h1
  · have := free_at h1
    rw [h _ h1] at this
    cases this
  · have := free_le l
    omega
/-- As many as there are, and all of them among so many: then the others are among them. -/
theorem pigeon : ∀ (a b : List LcV), a.Nodup → (∀ x ∈ a, x ∈ b) → b.length ≤ a.length → ∀ x ∈ b, x ∈ a
  | [], b, _, _, hl, x, hx => by
    have : b = [] := List.eq_nil_of_length_eq_zero (by simpa using hl)
    subst this
    cases hx
  | y :: a, b, hn, hs, hl, x, hx => by
    have hy := hs y List.mem_cons_self
    obtain ⟨hy1, hn1⟩ := List.nodup_cons.1 hn
    have e := List.length_erase_of_mem hy
    have hp : 0 < b.length := List.length_pos_of_mem hy
    have ih := pigeon a (b.erase y) hn1 (fun z hz => (List.mem_erase_of_ne (fun e => hy1 (by rw [← e]; exact hz))).2 (hs z (List.mem_cons_of_mem _ hz))) (by rw [e]; simp at hl; omega)
    by_cases hxy : x = y
    · subst hxy; exact List.mem_cons_self
    · exact List.mem_cons_of_mem _ (ih x ((List.mem_erase_of_ne hxy).2 hx))
/-- Where each To is asked for, each From is a To. -/
theorem ring {sp : LcV} {l : List MvV} (h : InvO sp l) (hf : ¬ freeN l < l.length) : ∀ m ∈ l, ∃ q ∈ l, q.t = m.f := fun m hm => by
  have hs : ∀ x ∈ l.map (·.t), x ∈ l.map (·.f) := fun x hx => by
    obtain ⟨q, hq, rfl⟩ := List.mem_map.1 hx
    obtain ⟨j, hj⟩ := List.getElem?_of_mem hq
    have hjl := (List.getElem?_eq_some_iff.1 hj).1
    have t := free_lt (l := l) (j := j) (by have := free_le l; omega)
    rw [mvAt_of hj] at t
    obtain ⟨r, hr, e⟩ := ask_iff.1 t
    exact List.mem_map.2 ⟨r, hr, e⟩
  obtain ⟨q, hq, e⟩ := List.mem_map.1 (pigeon _ _ h.one hs (by simp) m.f (List.mem_map.2 ⟨m, hm, rfl⟩))
  exact ⟨q, hq, e⟩
theorem ring_spare {sp : LcV} {l : List MvV} (h : InvO sp l) (hf : ¬ freeN l < l.length) : askB l sp = false := by
  cases e : askB l sp
  · rfl
  · obtain ⟨m, hm, rfl⟩ := ask_iff.1 e
    obtain ⟨q, hq, e2⟩ := ring h hf m hm
    exact absurd e2 (h.own q hq).2
theorem InvO.erase {sp : LcV} {l : List MvV} (h : InvO sp l) (i : Nat) : InvO sp (l.eraseIdx i) :=
  ⟨fun m hm => h.own m (List.mem_of_mem_eraseIdx hm), by
    have : ((l.eraseIdx i).map (·.t)).Sublist (l.map (·.t)) := (List.eraseIdx_sublist l i).map _
    exact this.nodup h.one⟩
theorem save_t (x sp : LcV) (l : List MvV) : (saveL x sp l).map (·.t) = l.map (·.t) := by
  unfold saveL
  rw [List.map_map]
  refine List.map_congr_left fun m _ => ?_
  simp only [Function.comp]
  split <;> rfl
theorem save_len (x sp : LcV) (l : List MvV) : (saveL x sp l).length = l.length := by simp [saveL]
theorem save_at {x sp : LcV} {l : List MvV} {i : Nat} {m : MvV} (h : l[i]? = some m) : (saveL x sp l)[i]? = some (if m.f = x then ⟨m.t, sp⟩ else m) := by
  unfold saveL
  rw [List.getElem?_map, h]
  rfl
theorem InvO.save {sp x : LcV} {l : List MvV} (h : InvO sp l) : InvO sp (saveL x sp l) :=
  ⟨fun m hm => by
    obtain ⟨q, hq, rfl⟩ := List.mem_map.1 hm
    have t := h.own q hq
    split
    · exact ⟨t.2, t.2⟩
    · exact t, by rw [save_t]; exact h.one⟩
theorem InvO.step {sp : LcV} {l : List MvV} (h : InvO sp l) : InvO sp (stepO sp l).2 := by
  unfold stepO
  split
  · exact h.erase _
  · exact h.save
theorem save_ask {sp x y : LcV} {l : List MvV} (hx : x ≠ sp) : askB (saveL x sp l) y = (if y = x then false else if y = sp then askB l sp || askB l x else askB l y) := by
  rw [Bool.eq_iff_iff, ask_iff]
  constructor
  · rintro ⟨m, hm, rfl⟩
    obtain ⟨q, hq, rfl⟩ := List.mem_map.1 hm
    by_cases e : q.f = x
    · rw [if_pos e]
      show (if sp = x then false else if sp = sp then askB l sp || askB l x else askB l sp) = true
      rw [if_neg (fun h => hx h.symm), if_pos rfl, ask_iff.2 ⟨q, hq, e⟩, Bool.or_true]
    · rw [if_neg e, if_neg e]
      split
      · rename_i e2
        rw [ask_iff.2 ⟨q, hq, e2⟩, Bool.true_or]
      · exact ask_of hq
  · intro h
    split at h
    · cases h
    · rename_i hyx
      have key : ∀ z, z ≠ x → askB l z = true → ∃ m ∈ saveL x sp l, m.f = z := fun z hz h => by
        obtain ⟨q, hq, rfl⟩ := ask_iff.1 h
        exact ⟨q, List.mem_map.2 ⟨q, hq, by rw [if_neg hz]⟩, rfl⟩
      split at h
      · rename_i e
        subst e
        rcases Bool.or_eq_true .. ▸ h with h | h
        · exact key _ hyx h
        · obtain ⟨q, hq, e⟩ := ask_iff.1 h
          exact ⟨⟨q.t, y⟩, List.mem_map.2 ⟨q, hq, by rw [if_pos e]⟩, rfl⟩
      · exact key _ hyx h
/-- Behind a save the first one is free. -/
theorem save_free {sp : LcV} {l : List MvV} (h : InvO sp l) (h0 : 0 < l.length) : freeN (saveL (mvAt l 0).t sp l) = 0 ∧ mvAt (saveL (mvAt l 0).t sp l) 0 = mvAt l 0 := by
  have hm := mvAt_some h0
  have ho := h.own _ (mvAt_mem h0)
  have e : mvAt (saveL (mvAt l 0).t sp l) 0 = mvAt l 0 := by
    rw [mvAt_of (save_at hm), if_neg (fun e => ho.1 e.symm)]
  refine ⟨free_eq (fun j hj => absurd hj (by omega)) (by rw [save_len]; exact h0) ?_, e⟩
  rw [e, save_ask ho.2, if_pos rfl]
theorem due_step {sp : LcV} {l : List MvV} (h : InvO sp l) (h0 : 0 < l.length) : dueN (stepO sp l).2 < dueN l := by
  unfold stepO
  by_cases hf : freeN l < l.length
  · rw [if_pos hf]
    unfold dueN
    rw [if_pos hf]
    simp only
    rw [List.length_eraseIdx_of_lt hf]
    split <;> omega
  · rw [if_neg hf]
    unfold dueN
    rw [if_neg hf]
    simp only
    rw [(save_free h h0).1, save_len, if_pos h0]
    omega
theorem ord_nil (sp : LcV) (n : Nat) : ordN sp n [] = [] := by cases n <;> simp [ordN]
theorem ord_step {sp : LcV} {l : List MvV} (n : Nat) (h0 : 0 < l.length) : ordN sp (n + 1) l = (stepO sp l).1 :: ordN sp n (stepO sp l).2 := by
  rw [ordN, if_neg (by intro e; subst e; simp at h0)]
def updL (s : LcV → Int) (x : LcV) (v : Int) : LcV → Int := fun y => if y = x then v else s y
def seqE : List MvV → (LcV → Int) → LcV → Int
  | [], s => s
  | m :: l, s => seqE l (updL s m.t (s m.f))
theorem seqE_app : ∀ (a b : List MvV) (s : LcV → Int), seqE (a ++ b) s = seqE b (seqE a s)
  | [], _, _ => rfl
  | m :: a, b, s => seqE_app a b _
theorem erase_mem {l : List MvV} (hn : (l.map (·.t)).Nodup) {i : Nat} (hi : i < l.length) {m : MvV} (hm : m ∈ l) : m = mvAt l i ∨ m ∈ l.eraseIdx i := by
  obtain ⟨j, hj⟩ := List.getElem?_of_mem hm
  by_cases e : j = i
  · subst e; exact .inl (mvAt_of hj).symm
  · refine .inr (List.mem_eraseIdx_iff_getElem?.2 ⟨j, e, hj⟩)
/-- How many go to the spare one. -/
def sparesN (sp : LcV) (o : List MvV) : Nat := (o.filter (fun m => decide (m.t = sp))).length
theorem ord_spares {sp : LcV} : ∀ (n : Nat) (l : List MvV), InvO sp l → 2 * sparesN sp (ordN sp n l) + (if askB l sp = true then 1 else 0) ≤ l.length
  | n, l, h => by
    rcases Nat.eq_zero_or_pos l.length with h0 | h0
    · have : l = [] := List.eq_nil_of_length_eq_zero h0
      subst this
      rw [ord_nil]
      simp [sparesN, askB]
    · match n with
      | 0 =>
        simp only [ordN, sparesN, List.filter_nil, List.length_nil]
        split <;> omega
      | n + 1 =>
        rw [ord_step n h0]
        unfold stepO
        by_cases hf : freeN l < l.length
        · rw [if_pos hf]
          simp only
          have hmm := h.own _ (mvAt_mem hf)
          have ih := ord_spares n _ (h.erase (freeN l))
          rw [List.length_eraseIdx_of_lt hf] at ih
          have e : sparesN sp (mvAt l (freeN l) :: ordN sp n (l.eraseIdx (freeN l))) = sparesN sp (ordN sp n (l.eraseIdx (freeN l))) := by
            unfold sparesN
            rw [List.filter_cons_of_neg (by simpa using hmm.2)]
          rw [e]
          by_cases ha : askB (l.eraseIdx (freeN l)) sp = true
          · rw [if_pos ha] at ih
            split <;> omega
          · rw [if_neg ha] at ih
            split <;> omega
        · rw [if_neg hf]
          simp only
          have hsp := ring_spare h hf
          rw [hsp]
          have e : sparesN sp (⟨sp, (mvAt l 0).t⟩ :: ordN sp n (saveL (mvAt l 0).t sp l)) = sparesN sp (ordN sp n (saveL (mvAt l 0).t sp l)) + 1 := by
            unfold sparesN
            rw [List.filter_cons_of_pos (by simp), List.length_cons]
          rw [e]
          have hx := h.own _ (mvAt_mem h0)
          -- somebody else asks for the first one's To
          have hask : askB l (mvAt l 0).t = true := free_lt (by have := free_le l; omega)
          obtain ⟨q, hq, hqe⟩ := ask_iff.1 hask
          have hq0 : q ≠ mvAt l 0 := fun e => hx.1 (by rw [← hqe, e])
          have hq1 : q ∈ l.eraseIdx 0 := (erase_mem h.one h0 hq).resolve_left hq0
          have hl2 : 2 ≤ l.length := by
            have := List.length_pos_of_mem hq1
            rw [List.length_eraseIdx_of_lt h0] at this
            omega
          match n with
          | 0 => simp only [ordN, sparesN, List.filter_nil, List.length_nil, Bool.false_eq_true, if_false]; omega
          | n + 1 =>
            obtain ⟨s1, s2⟩ := save_free h h0
            have hlen := save_len (mvAt l 0).t sp l
            rw [ord_step n (by omega)]
            unfold stepO
            rw [s1, if_pos (by omega), s2]
            simp only
            have e : sparesN sp (mvAt l 0 :: ordN sp n ((saveL (mvAt l 0).t sp l).eraseIdx 0)) = sparesN sp (ordN sp n ((saveL (mvAt l 0).t sp l).eraseIdx 0)) := by
              unfold sparesN
              rw [List.filter_cons_of_neg (by simpa using hx.2)]
            rw [e]
            have ih := ord_spares n _ ((h.save (x := (mvAt l 0).t)).erase 0)
            rw [List.length_eraseIdx_of_lt (by omega), hlen] at ih
            have ha : askB ((saveL (mvAt l 0).t sp l).eraseIdx 0) sp = true := by
              obtain ⟨j, hj0, hj⟩ := List.mem_eraseIdx_iff_getElem?.1 hq1
              refine ask_iff.2 ⟨⟨q.t, sp⟩, List.mem_eraseIdx_iff_getElem?.2 ⟨j, hj0, ?_⟩, rfl⟩
              rw [save_at hj, if_pos hqe]
            rw [if_pos ha] at ih
            simp only [Bool.false_eq_true, if_false]
            omega
theorem ord_len {sp : LcV} : ∀ (n : Nat) (l : List MvV), InvO sp l → dueN l ≤ n → (ordN sp n l).length = l.length + sparesN sp (ordN sp n l)
  | n, l, h, hn => by
    rcases Nat.eq_zero_or_pos l.length with h0 | h0
    · have : l = [] := List.eq_nil_of_length_eq_zero h0
      subst this
      rw [ord_nil]
      rfl
    · have hd : 2 ≤ dueN l := by unfold dueN; omega
      match n, hn with
      | 0, hn => omega
      | n + 1, hn =>
        have hs := due_step h h0
        have ih := ord_len n _ h.step (by omega)
        rw [ord_step n h0]
        revert ih
        unfold stepO
        by_cases hf : freeN l < l.length
        · rw [if_pos hf]
          simp only
          intro ih
          have e : sparesN sp (mvAt l (freeN l) :: ordN sp n (l.eraseIdx (freeN l))) = sparesN sp (ordN sp n (l.eraseIdx (freeN l))) := by
            unfold sparesN
            rw [List.filter_cons_of_neg (by simpa using (h.own _ (mvAt_mem hf)).2)]
          rw [e, List.length_cons, ih, List.length_eraseIdx_of_lt hf]
          omega
        · rw [if_neg hf]
          simp only
          intro ih
          have e : sparesN sp (⟨sp, (mvAt l 0).t⟩ :: ordN sp n (saveL (mvAt l 0).t sp l)) = sparesN sp (ordN sp n (saveL (mvAt l 0).t sp l)) + 1 := by
            unfold sparesN
            rw [List.filter_cons_of_pos (by simp), List.length_cons]
          rw [e, List.length_cons, ih, save_len]
          omega
/-- What Order answers. -/
def okO (l : List MvV) (sp : LcV) : Bool := right17 l && (mayB17 sp && !(l.any (fun m => decide (m.t = sp) || decide (m.f = sp))))
def leftO (l : List MvV) : List MvV := l.filter (fun m => !selfB m)
def orderL (l : List MvV) (sp : LcV) : List MvV := ordN sp (dueN (leftO l)) (leftO l)
theorem right_one : ∀ {l : List MvV}, right17 l = true → (l.map (·.t)).Nodup
  | [], _ => List.nodup_nil
  | m :: l, h => by
    simp only [right17, Bool.and_eq_true, Bool.not_eq_true'] at h
    rw [List.map_cons, List.nodup_cons]
    refine ⟨fun hm => ?_, right_one h.2.2.2⟩
    obtain ⟨q, hq, e⟩ := List.mem_map.1 hm
    have := metO_iff.2 ⟨q, hq, e⟩
    rw [h.2.2.1] at this
    cases this
theorem ok_inv {l : List MvV} {sp : LcV} (h : okO l sp = true) : InvO sp (leftO l) := by
  simp only [okO, Bool.and_eq_true, Bool.not_eq_true'] at h
  have h1 := right_one h.1
  refine ⟨fun m hm => ?_, (List.filter_sublist.map _).nodup h1⟩
  obtain ⟨hm1, hm2⟩ := List.mem_filter.1 hm
  refine ⟨by simpa [selfB] using hm2, fun e => ?_⟩
  have t := List.any_eq_false.1 h.2.2 m hm1
  simp [e] at t
end Go.Proofs.Ytkilfejcohnceaa
