/- The statement ParOnce, walked: it answers true. No condition. -/
import Derived.Test.YtkilfejcohnceaaPaIY
set_option linter.unusedSimpArgs false
set_option linter.unusedVariables false
namespace Go.Proofs.Ytkilfejcohnceaa
open Go.RowKit

/-- All at once. -/
def parE (l : List MvV) (s : LcV → Int) (x : LcV) : Int := match l.find? (fun m => decide (m.t = x)) with | some m => s m.f | none => s x
theorem par_some {l : List MvV} {s : LcV → Int} {m : MvV} (hn : (l.map (·.t)).Nodup) (hm : m ∈ l) : parE l s m.t = s m.f := by
  unfold parE
  cases e : l.find? (fun q => decide (q.t = m.t)) with
  | none => exact absurd (List.find?_eq_none.1 e m hm) (by simp)
  | some q =>
    have h1 := List.mem_of_find?_eq_some e
    have h2 := List.find?_some e
    simp only [decide_eq_true_eq] at h2
    have : q = m := by
      obtain ⟨i, hi⟩ := List.getElem?_of_mem h1
      obtain ⟨j, hj⟩ := List.getElem?_of_mem hm
      have hil := (List.getElem?_eq_some_iff.1 hi).1
      have hjl := (List.getElem?_eq_some_iff.1 hj).1
      have hij : i = j := by
        refine (List.getElem?_inj (l := l.map (·.t)) (by simpa using hil) hn).1 ?_
        rw [List.getElem?_map, List.getElem?_map, hi, hj]
        simp [h2]
      subst hij
      rw [hi] at hj
      exact Option.some.inj hj
    rw [this]
theorem par_none {l : List MvV} {s : LcV → Int} {x : LcV} (h : ∀ m ∈ l, m.t ≠ x) : parE l s x = s x := by
  unfold parE
  rw [List.find?_eq_none.2 (fun m hm => by simpa using h m hm)]
theorem par_cases (l : List MvV) (s : LcV → Int) (x : LcV) : (∃ m ∈ l, m.t = x) ∨ ∀ m ∈ l, m.t ≠ x := by
  by_cases h : ∃ m ∈ l, m.t = x
  · exact .inl h
  · exact .inr (fun m hm e => h ⟨m, hm, e⟩)
/-- What is ordered does, one by one, what the moves do all at once. -/
theorem ord_once {sp : LcV} : ∀ (n : Nat) (l : List MvV) (s : LcV → Int), InvO sp l → dueN l ≤ n → ∀ y, y ≠ sp → seqE (ordN sp n l) s y = parE l s y
  | n, l, s, h, hn, y, hy => by
    rcases Nat.eq_zero_or_pos l.length with h0 | h0
    · have : l = [] := List.eq_nil_of_length_eq_zero h0
      subst this
      rw [ord_nil]
      rfl
    · have hd : 2 ≤ dueN l := by unfold dueN; omega
      match n, hn with
      | 0, hn => omega
      | n + 1, hn =>
        have hs := due_step h h0
        rw [ord_step n h0]
        show seqE (ordN sp n (stepO sp l).2) (updL s (stepO sp l).1.t (s (stepO sp l).1.f)) y = _
        rw [ord_once n _ _ h.step (by omega) y hy]
        unfold stepO
        by_cases hf : freeN l < l.length
        · rw [if_pos hf]
          simp only
          have ha := free_at hf
          have hmm := mvAt_mem hf
          rcases par_cases (l.eraseIdx (freeN l)) s y with ⟨m, hm, rfl⟩ | hno
          · rw [par_some (h.erase _).one hm, par_some h.one (List.mem_of_mem_eraseIdx hm)]
            unfold updL
            rw [if_neg (fun e => by rw [← e, ask_of (List.mem_of_mem_eraseIdx hm)] at ha; cases ha)]
          · rw [par_none hno]
            unfold updL
            by_cases e : y = (mvAt l (freeN l)).t
            · rw [if_pos e, e, par_some h.one hmm]
            · rw [if_neg e, par_none (fun m hm e2 => by
                rcases erase_mem h.one hf hm with rfl | h1
                · exact e e2.symm
                · exact hno m h1 e2)]
        · rw [if_neg hf]
          simp only
          have hsp := ring_spare h hf
          have hx := (h.own _ (mvAt_mem h0)).2
          rcases par_cases l s y with ⟨m, hm, rfl⟩ | hno
          · rw [par_some h.one hm]
            have hm2 : (if m.f = (mvAt l 0).t then (⟨m.t, sp⟩ : MvV) else m) ∈ saveL (mvAt l 0).t sp l := List.mem_map.2 ⟨m, hm, rfl⟩
            by_cases e : m.f = (mvAt l 0).t
            · rw [if_pos e] at hm2
              have t := par_some (s := updL s sp (s (mvAt l 0).t)) (h.save (x := (mvAt l 0).t)).one hm2
              simp only at t
              rw [t, e]
              unfold updL
              rw [if_pos rfl]
            · rw [if_neg e] at hm2
              rw [par_some (h.save (x := (mvAt l 0).t)).one hm2]
              unfold updL
              rw [if_neg (fun e2 => by rw [← e2, ask_of hm] at hsp; cases hsp)]
          · rw [par_none hno, par_none (fun m hm e => by
              obtain ⟨q, hq, rfl⟩ := List.mem_map.1 hm
              refine hno q hq ?_
              rw [← e]
              split <;> rfl)]
            unfold updL
            rw [if_neg hy]
theorem par_left {l : List MvV} (hn : (l.map (·.t)).Nodup) (s : LcV → Int) (y : LcV) : parE (leftO l) s y = parE l s y := by
  have hn2 : ((leftO l).map (·.t)).Nodup := (List.filter_sublist.map _).nodup hn
  rcases par_cases l s y with ⟨m, hm, rfl⟩ | hno
  · rw [par_some hn hm]
    by_cases e : selfB m = true
    · have e' : m.t = m.f := by simpa [selfB] using e
      rw [par_none (fun q (hq : q ∈ leftO l) e2 => ?_), e']
      obtain ⟨hq1, hq2⟩ := List.mem_filter.1 hq
      have : q = m := by
        obtain ⟨i, hi⟩ := List.getElem?_of_mem hq1
        obtain ⟨j, hj⟩ := List.getElem?_of_mem hm
        have hil := (List.getElem?_eq_some_iff.1 hi).1
        have hij : i = j := by
          refine (List.getElem?_inj (l := l.map (·.t)) (by simpa using hil) hn).1 ?_
          rw [List.getElem?_map, List.getElem?_map, hi, hj]
          simp [e2]
        subst hij
        rw [hi] at hj
        exact Option.some.inj hj
      rw [this, e] at hq2
      cases hq2
    · exact par_some hn2 (List.mem_filter.2 ⟨hm, by simpa using e⟩)
  · rw [par_none hno, par_none (fun m (hm : m ∈ leftO l) => hno m (List.mem_filter.1 hm).1)]
theorem order_once {l : List MvV} {sp : LcV} (h : okO l sp = true) (s : LcV → Int) {y : LcV} (hy : y ≠ sp) : seqE (orderL l sp) s y = parE l s y := by
  unfold orderL
  rw [ord_once _ _ s (ok_inv h) (Nat.le_refl _) y hy]
  simp only [okO, Bool.and_eq_true] at h
  exact par_left (right_one h.1) s y
theorem Ow.intsV {w : World} {base : Nat} {v : Value} {zs : List Int} (h : Ow w base 3 .i64 v zs) (hr : ∀ z ∈ zs, i64R z) : IntsV w (· < w.heap.size) v zs := by
  obtain ⟨A, c, e, h1, h2, h3⟩ := h.sl
  refine ⟨A, c, e, h1, by simp only [maxLen] at h2; omega, fun hp => ?_⟩
  obtain ⟨b, o, e2, hb, hc⟩ := h3 hp
  refine ⟨b, o, e2, hb, fun j x hj => ⟨?_, hr x (List.mem_of_getElem? hj)⟩⟩
  have := hc j (List.getElem?_eq_some_iff.1 hj).1
  rw [Nat.mul_one, this]
  simp [List.getD, hj]
theorem left_le (l : List MvV) (k : Nat) : (leftO (l.take k)).length ≤ k := Nat.le_trans (List.length_filter_le _ _) (by rw [List.length_take]; omega)
/-- The i-th location that the moves name: To, From, To, From .. -/
def nameL (l : List MvV) (i : Nat) : LcV := if i % 2 = 1 then (mvAt l (i / 2)).f else (mvAt l (i / 2)).t
def numL (has : List Int) (i : Nat) : Int := if i < has.length then has.getD i 0 else 1000 + i
/-- The locations and their numbers behind k names. -/
def atF (l : List MvV) (has : List Int) : Nat → List LcV × List Int
  | 0 => ([], [])
  | k + 1 => if (atF l has k).1.any (fun y => decide (y = nameL l k)) = true then atF l has k else ((atF l has k).1 ++ [nameL l k], (atF l has k).2 ++ [numL has k])
theorem atF_len (l : List MvV) (has : List Int) : ∀ k, (atF l has k).2.length = (atF l has k).1.length ∧ (atF l has k).1.length ≤ k
  | 0 => ⟨rfl, Nat.le_refl _⟩
  | k + 1 => by
    have h := atF_len l has k
    unfold atF
    split
    · exact ⟨h.1, by omega⟩
    · simp only [List.length_append, List.length_singleton]
      exact ⟨by omega, by omega⟩
theorem atF_mem (l : List MvV) (has : List Int) : ∀ k j, j < k → nameL l j ∈ (atF l has k).1
  | 0, j, h => absurd h (by omega)
  | k + 1, j, h => by
    unfold atF
    split
    · rename_i ha
      by_cases e : j = k
      · subst e
        obtain ⟨y, hy, e⟩ := List.any_eq_true.1 ha
        have e : y = nameL l j := by simpa using e
        rw [← e]
        exact hy
      · exact atF_mem l has k j (by omega)
    · by_cases e : j = k
      · subst e; simp
      · exact List.mem_append_left _ (atF_mem l has k j (by omega))
theorem atF_of (l : List MvV) (has : List Int) : ∀ k x, x ∈ (atF l has k).1 → ∃ j, j < k ∧ x = nameL l j
  | 0, x, h => by simp [atF] at h
  | k + 1, x, h => by
    unfold atF at h
    split at h
    · obtain ⟨j, h1, h2⟩ := atF_of l has k x h
      exact ⟨j, by omega, h2⟩
    · rcases List.mem_append.1 h with h | h
      · obtain ⟨j, h1, h2⟩ := atF_of l has k x h
        exact ⟨j, by omega, h2⟩
      · rw [List.mem_singleton] at h
        exact ⟨k, by omega, h⟩
theorem atF_once (l : List MvV) (has : List Int) : ∀ k, (atF l has k).1.Nodup
  | 0 => List.nodup_nil
  | k + 1 => by
    unfold atF
    split
    · exact atF_once l has k
    · rename_i ha
      rw [List.nodup_append]
      refine ⟨atF_once l has k, by simp, fun a ha' b hb e => ?_⟩
      rw [List.mem_singleton] at hb
      subst hb
      refine ha (List.any_eq_true.2 ⟨a, ha', by simpa using e⟩)
theorem name_in {l : List MvV} {m : MvV} (hm : m ∈ l) (has : List Int) : m.t ∈ (atF l has (2 * l.length)).1 ∧ m.f ∈ (atF l has (2 * l.length)).1 := by
  obtain ⟨i, hi⟩ := List.getElem?_of_mem hm
  have hl := (List.getElem?_eq_some_iff.1 hi).1
  have h0 := atF_mem l has (2 * l.length) (2 * i) (by omega)
  have h1 := atF_mem l has (2 * l.length) (2 * i + 1) (by omega)
  unfold nameL at h0 h1
  rw [if_neg (by omega), show 2 * i / 2 = i by omega, mvAt_of hi] at h0
  rw [if_pos (by omega), show (2 * i + 1) / 2 = i by omega, mvAt_of hi] at h1
  exact ⟨h0, h1⟩
theorem name_of {l : List MvV} {has : List Int} {x : LcV} (h : x ∈ (atF l has (2 * l.length)).1) : ∃ m ∈ l, x = m.t ∨ x = m.f := by
  obtain ⟨j, hj, rfl⟩ := atF_of l has _ x h
  have hl : j / 2 < l.length := by omega
  refine ⟨mvAt l (j / 2), by rw [mvAt_of (List.getElem?_eq_getElem hl)]; exact List.getElem_mem hl, ?_⟩
  unfold nameL
  split
  · exact .inr rfl
  · exact .inl rfl
theorem idx_nodup {ats : List LcV} (h : ats.Nodup) {i : Nat} (hi : i < ats.length) : idxL ats (lcAt ats i) = i := by
  have h1 := idx_le17 hi
  have h2 : idxL ats (lcAt ats i) < ats.length := by omega
  have h3 := idx_at17 h2
  rw [lcAt_of (List.getElem?_eq_getElem h2)] at h3
  exact (List.getElem_inj h).1 (h3.trans (lcAt_of (List.getElem?_eq_getElem hi)))
/-- What is wanted behind i moves. -/
def wantL (l : List MvV) (ats : List LcV) (s : LcV → Int) (i : Nat) : List Int := ats.map (fun x => parE (l.take i) s x)
theorem told_self {fs : List Int} : toldL fs.length fs = fs := by
  refine List.ext_getElem? fun j => ?_
  unfold toldL
  rw [List.getElem?_map]
  by_cases hj : j < fs.length
  · rw [List.getElem?_range hj, List.getElem?_eq_getElem hj]
    simp [List.getD, hj]
  · rw [List.getElem?_eq_none (by simp; omega), List.getElem?_eq_none (by omega)]
    rfl
/-- What Play says of what is ordered is what is wanted. -/
theorem once_play {l : List MvV} {sp : LcV} (h : okO l sp = true) (has : List Int) {ats : List LcV} {fs : List Int} (ha : ats = (atF l has (2 * l.length)).1) (hf : fs = (atF l has (2 * l.length)).2) : playL (orderL l sp) ats fs = wantL l ats (st0 ats fs) l.length := by
  have hlen : fs.length = ats.length := by rw [ha, hf]; exact (atF_len l has _).1
  unfold playL wantL
  rw [← hlen, told_self, List.take_of_length_le (Nat.le_refl _)]
  refine List.ext_getElem? fun j => ?_
  rw [List.getElem?_map, List.getElem?_map]
  by_cases hj : j < ats.length
  · rw [List.getElem?_range (by omega), List.getElem?_eq_getElem hj, Option.map_some, Option.map_some, idx_nodup (by rw [ha]; exact atF_once l has _) hj, if_pos rfl]
    have he := lcAt_of (List.getElem?_eq_getElem hj)
    rw [he]
    congr 1
    refine order_once h _ fun e => ?_
    obtain ⟨m, hm, hx⟩ := name_of (l := l) (has := has) (x := ats[j]) (by rw [← ha]; exact List.getElem_mem hj)
    simp only [okO, Bool.and_eq_true, Bool.not_eq_true'] at h
    have t := List.any_eq_false.1 h.2.2 m hm
    rcases hx with hx | hx
    · rw [← hx, e] at t; simp at t
    · rw [← hx, e] at t; simp at t
  · rw [List.getElem?_eq_none (by simp; omega), List.getElem?_eq_none (by omega)]
    rfl
section
variable {β : Type} {c : β → List Value} {T : TypeId} {sz : Nat} {w w' : World} {base : Nat} {v : Value} {l : List β}
theorem flatC_len17 (hc : ∀ y, (c y).length = sz) : ∀ l : List β, (l.flatMap c).length = l.length * sz
  | [] => by simp
  | x :: l => by rw [List.flatMap_cons, List.length_append, hc, flatC_len17 hc l, List.length_cons, Nat.succ_mul]; omega
theorem flatC_set17 (hc : ∀ y, (c y).length = sz) {p q : β} {j : Nat} {u : Value} (hq : (c p).set j u = c q) (hj : j < sz) : ∀ {l : List β} {k : Nat}, l[k]? = some p → (l.flatMap c).set (k * sz + j) u = (l.set k q).flatMap c
  | [], k, h => by simp at h
  | x :: l, 0, h => by
    simp at h
    subst h
    rw [List.flatMap_cons, List.set_cons_zero, List.flatMap_cons, Nat.zero_mul, Nat.zero_add, List.set_append_left _ _ (by rw [hc]; exact hj), hq]
  | x :: l, k + 1, h => by
    rw [List.flatMap_cons, List.set_cons_succ, List.flatMap_cons, ← flatC_set17 hc hq hj (l := l) (k := k) (by simpa using h), List.set_append_right _ _ (by rw [hc, Nat.succ_mul]; omega), hc, show (k + 1) * sz + j - sz = k * sz + j by rw [Nat.succ_mul]; omega]
theorem OwC.setAt17 (hc : ∀ y, (c y).length = sz) {g n cap k j : Nat} {p q : β} {u : Value} (h : OwC c T sz w base (.slice (some ⟨g, 0, none⟩) n cap) l) (hp : l[k]? = some p) (hq : (c p).set j u = c q) (hj : j < sz) :
    OwC c T sz (w.setCell ⟨g, k * sz + j, none⟩ u) base (.slice (some ⟨g, 0, none⟩) n cap) (l.set k q) := by
  unfold OwC at *
  rcases h.2 with ⟨h0, -⟩ | ⟨g', cap', cur, hv, hg, hh, hnc, hcm, hsz, htake⟩
  · cases h0
  · injection hv with h1 h2 h3
    injection h1 with h1
    injection h1 with h1
    subst h1; subst h2; subst h3
    rw [List.length_set]
    refine ⟨by rw [flatC_len17 hc, List.length_set], .inr ⟨_, _, cur.setIfInBounds (k * sz + j) u, rfl, hg, heap_setCell_same _ _ _ _ _ _ hh, hnc, hcm, by simpa using hsz, ?_⟩⟩
    rw [Array.toList_setIfInBounds, List.take_set, htake, flatC_set17 hc hq hj hp]
end
theorem parE_no {l : List MvV} {m : MvV} {s : LcV → Int} {x : LcV} (h : m.t ≠ x) : parE (l ++ [m]) s x = parE l s x := by
  unfold parE
  rw [List.find?_append, List.find?_cons_of_neg (by simpa using h), List.find?_nil, Option.or_none]
theorem parE_yes {l : List MvV} {m : MvV} {s : LcV → Int} (h : ∀ q ∈ l, q.t ≠ m.t) : parE (l ++ [m]) s m.t = s m.f := by
  unfold parE
  have e : l.find? (fun q => decide (q.t = m.t)) = none := List.find?_eq_none.2 (fun q hq => by simpa using h q hq)
  rw [List.find?_append, e, List.find?_cons_of_pos (by simp), Option.none_or]
theorem par_pre {l : List MvV} {sp : LcV} (h : okO l sp = true) {i : Nat} {m : MvV} (hm : l[i]? = some m) : ∀ q ∈ l.take i, q.t ≠ m.t := fun q hq e => by
  simp only [okO, Bool.and_eq_true] at h
  have hn := right_one h.1
  obtain ⟨j, hj⟩ := List.getElem?_of_mem hq
  have hji : j < i := by have := (List.getElem?_eq_some_iff.1 hj).1; rw [List.length_take] at this; omega
  rw [List.getElem?_take, if_pos hji] at hj
  have hil := (List.getElem?_eq_some_iff.1 hm).1
  have t := (List.getElem_inj (i := j) (j := i) (h₀ := by rw [List.length_map]; omega) (h₁ := by rw [List.length_map]; exact hil) hn).1 (by
    rw [List.getElem_map, List.getElem_map, (List.getElem?_eq_some_iff.1 hj).2, (List.getElem?_eq_some_iff.1 hm).2, e])
  omega
/-- What is wanted: of the first k places behind i + 1 moves, of the others behind i. -/
def mixW (l : List MvV) (ats : List LcV) (s : LcV → Int) (i k : Nat) : List Int := (wantL l ats s (i + 1)).take k ++ (wantL l ats s i).drop k
section
variable {l : List MvV} {ats : List LcV} {s : LcV → Int} {i k : Nat} {x : LcV} {m : MvV}
theorem want_len : (wantL l ats s i).length = ats.length := by simp [wantL]
theorem mixW_len (hk : k ≤ ats.length) : (mixW l ats s i k).length = ats.length := by
  unfold mixW
  rw [List.length_append, List.length_take, List.length_drop, want_len, want_len]
  omega
theorem mixW0 : mixW l ats s i 0 = wantL l ats s i := by simp [mixW]
theorem mixWAll : mixW l ats s i ats.length = wantL l ats s (i + 1) := by
  unfold mixW
  rw [List.take_of_length_le (by rw [want_len]; exact Nat.le_refl _), List.drop_eq_nil_of_le (by rw [want_len]; exact Nat.le_refl _), List.append_nil]
theorem want_at (hx : ats[k]? = some x) : (wantL l ats s i)[k]? = some (parE (l.take i) s x) := by
  unfold wantL
  rw [List.getElem?_map, hx]
  rfl
theorem mixW_at (hx : ats[k]? = some x) : (mixW l ats s i k)[k]? = some (parE (l.take i) s x) := by
  have hk := (List.getElem?_eq_some_iff.1 hx).1
  unfold mixW
  rw [List.getElem?_append_right (by rw [List.length_take, want_len]; omega), List.length_take, want_len, Nat.min_eq_left (by omega), List.getElem?_drop, Nat.sub_self, Nat.add_zero, want_at hx]
theorem set_same17 {α : Type} {L : List α} {k : Nat} {v : α} (h : L[k]? = some v) : L.set k v = L := by
  obtain ⟨hk, rfl⟩ := List.getElem?_eq_some_iff.1 h
  exact List.set_getElem_self hk
theorem mixW_set (hx : ats[k]? = some x) : mixW l ats s i (k + 1) = (mixW l ats s i k).set k (parE (l.take (i + 1)) s x) := by
  have hk := (List.getElem?_eq_some_iff.1 hx).1
  unfold mixW
  have h1 := want_at (l := l) (s := s) (i := i + 1) hx
  have h2 := want_at (l := l) (s := s) (i := i) hx
  have hl : ((wantL l ats s (i + 1)).take k).length = k := by rw [List.length_take, want_len]; omega
  rw [List.take_add_one, h1, Option.toList_some, List.append_assoc, List.set_append_right _ _ (by omega), hl, Nat.sub_self]
  congr 1
  rw [List.drop_eq_getElem_cons (show k < (wantL l ats s i).length by rw [want_len]; exact hk), List.set_cons_zero]
  rfl
theorem mixW_no (hx : ats[k]? = some x) (hm : l[i]? = some m) (h : ¬ x = m.t) : mixW l ats s i (k + 1) = mixW l ats s i k := by
  rw [mixW_set hx, List.take_add_one, hm, Option.toList_some, parE_no (fun e => h e.symm)]
  exact set_same17 (mixW_at hx)
theorem mixW_yes {sp : LcV} (ho : okO l sp = true) (hx : ats[k]? = some m.t) (hm : l[i]? = some m) : mixW l ats s i (k + 1) = (mixW l ats s i k).set k (s m.f) := by
  rw [mixW_set hx, List.take_add_one, hm, Option.toList_some, parE_yes (par_pre ho hm)]
end
theorem st0_at {ats : List LcV} {fs : List Int} (h : ats.Nodup) {j : Nat} {x : LcV} (hx : ats[j]? = some x) : st0 ats fs x = fs.getD j 0 := by
  have hj := (List.getElem?_eq_some_iff.1 hx).1
  have e := idx_nodup h hj
  rw [lcAt_of hx] at e
  unfold st0
  rw [e, if_pos hj]
theorem want_start {l : List MvV} {ats : List LcV} {fs : List Int} (h : ats.Nodup) (hl : fs.length = ats.length) : wantL l ats (st0 ats fs) 0 = fs := by
  refine List.ext_getElem? fun j => ?_
  by_cases hj : j < ats.length
  · rw [want_at (List.getElem?_eq_getElem hj), List.getElem?_eq_getElem (by omega), List.take_zero]
    show some (st0 ats fs ats[j]) = _
    rw [st0_at h (List.getElem?_eq_getElem hj), List.getD_eq_getElem?_getD, List.getElem?_eq_getElem (by omega)]
    rfl
  · rw [List.getElem?_eq_none (by rw [want_len]; omega), List.getElem?_eq_none (by omega)]
def midW (M : List Int) (k q j : Nat) (v : Int) : List Int := if q < j then M.set k v else M
section
variable {M : List Int} {k q j n : Nat} {v : Int}
theorem mid0 : midW M k q 0 v = M := by unfold midW; rw [if_neg (by omega)]
theorem midAll (h : q < n) : midW M k q n v = M.set k v := by unfold midW; rw [if_pos h]
theorem midHit : midW M k q (q + 1) v = (midW M k q q v).set k v := by unfold midW; rw [if_pos (by omega), if_neg (by omega)]
theorem midMiss (h : ¬ j = q) : midW M k q (j + 1) v = midW M k q j v := by
  unfold midW
  by_cases e : q < j
  · rw [if_pos e, if_pos (by omega)]
  · rw [if_neg e, if_neg (by omega)]
theorem midAt (h : k < M.length) : ∃ p, (midW M k q j v)[k]? = some p := by
  refine ⟨_, List.getElem?_eq_getElem ?_⟩
  unfold midW
  split
  · rw [List.length_set]; exact h
  · exact h
end
theorem zC_one17 (zs : List Int) : ∀ u ∈ zs.flatMap zC, u.oneCell' = true := by
  intro u hu
  obtain ⟨x, -, hu⟩ := List.mem_flatMap.1 hu
  simp only [zC, List.mem_singleton] at hu
  subst hu
  rfl
theorem OwC.cells17 {w : World} {base n cp : Nat} {A : Option Addr} {zs : List Int} {T : TypeId} (h : OwC zC T 1 w base (.slice A n cp) zs) (hn : zs.length = n) (W : World) (hW : Below w.heap.size w W) (h0 : 0 < n) : ∃ b o, A = some ⟨b, o, none⟩ ∧ ∀ (j : Nat) (u : Value), (zs.flatMap zC)[j]? = some u → W.cell? ⟨b, o + j, none⟩ = some u := by
  have h' := h
  rcases h.2 with ⟨e, h1⟩ | ⟨g, cap, cur, e, hg, hh, -⟩
  · omega
  · injection e with e1 e2 e3
    subst e1
    subst e2
    subst e3
    refine ⟨g, 0, rfl, fun j u hu => ?_⟩
    have hj : j < (zs.flatMap zC).length := (List.getElem?_eq_some_iff.1 hu).1
    rw [flatC_len17 (c := zC) (fun _ => rfl)] at hj
    rw [hW.cell (p := ⟨g, 0 + j, none⟩) (Array.getElem?_eq_some_iff.1 hh).1, Nat.zero_add, World.ownsRow.cellAt h' _ (by omega)]
    exact hu
theorem st0_R17 {ats : List LcV} {fs : List Int} (h : ∀ z ∈ fs, i64R z) (x : LcV) : i64R (st0 ats fs x) := by
  unfold st0
  split
  · rw [List.getD_eq_getElem?_getD]
    cases e : fs[idxL ats x]? with
    | none => simp [i64R]
    | some z => simpa using h z (List.mem_of_getElem? e)
  · simp [i64R]
theorem want_R {l : List MvV} {ats : List LcV} {s : LcV → Int} (hs : ∀ x, i64R (s x)) (i : Nat) : ∀ z ∈ wantL l ats s i, i64R z := fun z hz => by
  unfold wantL at hz
  obtain ⟨x, -, rfl⟩ := List.mem_map.1 hz
  unfold parE
  split
  · exact hs _
  · exact hs _
theorem num_R {has : List Int} (h : ∀ z ∈ has, i64R z) {i : Nat} (hi : i ≤ 1000000) : i64R (numL has i) := by
  unfold numL
  split
  · rw [List.getD_eq_getElem?_getD]
    cases e : has[i]? with
    | none => simp [i64R]
    | some z => simpa using h z (List.mem_of_getElem? e)
  · unfold i64R; omega
theorem atF_R {l : List MvV} {has : List Int} (h : ∀ z ∈ has, i64R z) : ∀ k, k ≤ 1000000 → ∀ z ∈ (atF l has k).2, i64R z
  | 0, _, z, hz => by simp [atF] at hz
  | k + 1, hk, z, hz => by
    unfold atF at hz
    split at hz
    · exact atF_R h k (by omega) z hz
    · rcases List.mem_append.1 hz with hz | hz
      · exact atF_R h k (by omega) z hz
      · rw [List.mem_singleton] at hz
        subst hz
        exact num_R h (by omega)
theorem zC_ints17 {w : World} {base : Nat} {v : Value} {zs : List Int} (h : OwC zC 3 1 w base v zs) : ∃ A c, v = .slice A zs.length c ∧ Sl w w.heap.size .i64 A zs := by
  obtain ⟨A, c, rfl, -, -, h4⟩ := (show Ow w base 3 .i64 v zs from OwC.ints (h : OwC intC 3 1 w base v zs)).sl
  exact ⟨A, c, rfl, h4⟩
theorem at_R {l : List MvV} {has : List Int} (h : mvR l) {k : Nat} (hk : k ≤ 2 * l.length) : ∀ x ∈ (atF l has k).1, lcR x := fun x hx => by
  obtain ⟨j, hj, rfl⟩ := atF_of l has k x hx
  have hl : j / 2 < l.length := by omega
  have hm := h _ (List.getElem_mem hl)
  unfold nameL
  rw [mvAt_of (List.getElem?_eq_getElem hl)]
  split
  · exact hm.2
  · exact hm.1
theorem two_ow9 {base : Nat} {va vf : Value} {at0 : List LcV} {fs : List Int} {W8 W9 : World} (hA : OwC lcC 24 2 W8 base va at0) (hF : OwC zC 3 1 W8 base vf fs) (hg5 : W8.grownBy W9 va.ownBlock) : OwC zC 3 1 W9 base vf fs :=
  hF.kept fun g hg => hg5.block g (hF.lt g hg).2 (fun e => hA.apart (hF.row g hg) (by decide) e.symm)
theorem two_app {base g5 n5 k5 : Nat} {va vf : Value} {at0 at1 : List LcV} {fs : List Int} {w6 W8 W9 W10 W11 : World} (hA : OwC lcC 24 2 W8 base va at0) (hF : OwC zC 3 1 W8 base vf fs) (ho5 : OwC lcC 24 2 W9 base (.slice (some ⟨g5, 0, none⟩) n5 k5) at1) (hg5 : W8.grownBy W9 va.ownBlock) (h10 : Below W9.heap.size W9 W10) (hg6 : W10.grownBy W11 vf.ownBlock) (hb : Below base w6 W8) (hs : base ≤ W8.heap.size) : OwC lcC 24 2 W11 base (.slice (some ⟨g5, 0, none⟩) n5 k5) at1 ∧ Below base w6 W11 := by
  have f10 := (two_ow9 hA hF hg5).below h10
  have a10 := ho5.below h10
  have s9 : base ≤ W9.heap.size := Nat.le_trans hs hg5.size
  have s10 : base ≤ W10.heap.size := Nat.le_trans s9 h10.size
  exact ⟨a10.kept fun g hg => hg6.block g (a10.lt g hg).2 (fun e => a10.apart (f10.row g e.symm) (by decide) hg), ((hb.grown hg5 hs (fun b hb' => (hA.lt b hb').1)).trans (h10.mono s9)).grown hg6 s10 (fun b hb' => (f10.lt b hb').1)⟩
set_option maxHeartbeats 4000000 in
set_option maxRecDepth 100000 in
theorem once17_law (v vh : Value) (l : List MvV) (sp : LcV) (has : List Int) (w : World) (hl : MvsV w (· < w.heap.size) v l) (hsp : lcR sp) (hh : IntsV w (· < w.heap.size) vh has) :
    Calls Try.prog 5 #[v, lcA sp, vh] w fun e w' => e = .returned (.bool true) ∧ Below w.heap.size w w' := by
  have HAL := hide (fun (W : World) => alive17_any W)
  have HSP := hide hsp
  obtain ⟨A, c, rfl, hc, hcm⟩ := hl.open'
  obtain ⟨n, hn⟩ := letl l.length
  rw [hn] at hl hc ⊢
  by_cases hlim : n ≤ 40
  rotate_left
  · obtain ⟨sk, sn⟩ := sp
    unfold lcA
    clear hl hn
    have hgt : 40 < n := by omega
    go_enter Try.func5, Try.ntmps5
    go_wp2_with (go_at_call 8; refine (HAL.out _).mono ?_; rintro e w1 ⟨rfl, hb1⟩)
    go_ret
    exact ⟨rfl, (alloc1 w _).trans (hb1.mono (by simp))⟩
  have HLV := hide (fun (W : World) (hW : Below w.heap.size w W) => hl.up hW)
  have HN := hide hn
  have HMR := hide hl.range
  have HOU := hide (show okO l sp = true → (outL l sp).length = (leftO l).length + sparesN sp (outL l sp) ∧ 2 * sparesN sp (outL l sp) ≤ (leftO l).length from fun ho => by
    unfold outL
    rw [if_pos ho]
    have h1 := ord_len _ _ (ok_inv ho) (Nat.le_refl (dueN (leftO l)))
    have h2 := ord_spares (dueN (leftO l)) _ (ok_inv ho)
    exact ⟨h1, by unfold orderL; omega⟩)
  obtain ⟨Ah, ch, rfl, hch, hchm⟩ := hh.open'
  obtain ⟨nh, hnh⟩ := letl has.length
  rw [hnh] at hh hch ⊢
  have HH := hide hh
  have HNH := hide hnh
  obtain ⟨sk, sn⟩ := sp
  unfold lcA
  clear hl hn hsp hh hnh
  go_enter Try.func5, Try.ntmps5
  go_upto_region 1 with (fail)
  obtain ⟨w0, hw0⟩ := letr (w.alloc (.cells #[.int .i64 sk, .int .i64 sn] 24))
  obtain ⟨hs, hhs⟩ := letl w.heap.size
  have HXS := lBox hw0 hhs
  have HB0 := lBel hw0
  rw [← hw0, hhs]
  clear hw0 hhs
  go_upto_region 5 with (go_at_call 8; refine (HAL.out w0).mono ?_; rintro e w1 ⟨rfl, hb1⟩; have HX1 := hide (HXS.out.below hb1); have HB1 := hide (HB0.out.trans (hb1.mono HB0.out.size)); clear hb1 HXS)
  have HOR := hide ((iorder_any (.slice A n c) l ⟨sk, sn⟩ w1 (HLV.out w1 HB1.out) (by have := HN.out; omega) HSP.out).mono (R' := OutP w1 l ⟨sk, sn⟩) (fun e w' h => h.out))
  have HOK := hide (show okO l ⟨sk, sn⟩ = false → outE l ⟨sk, sn⟩ = 1 ∧ outL l ⟨sk, sn⟩ = [] from fun h => by unfold outE outL; rw [h]; exact ⟨rfl, rfl⟩)
  have HOK1 := hide (show okO l ⟨sk, sn⟩ = true → outE l ⟨sk, sn⟩ = 0 from fun h => by unfold outE; rw [h]; rfl)
  unfold lcA at HOR
  unfold OutP at HOR
  have x0 := (HX1.out.cell 0 (v := .int .i64 sk) rfl).1
  have x1 := (HX1.out.cell 1 (v := .int .i64 sn) rfl).1
  have lx := HX1.out.lt
  cases hok : okO l ⟨sk, sn⟩ with
  | false =>
    obtain ⟨e1, e2⟩ := HOK.out hok
    rw [e1, e2] at HOR
    simp only [List.length_nil] at HOR
    clear HOU HOK HOK1 e1 e2 hok
    go_upto_region 6 with (go_at_call 9; (with_reducible refine HOR.out.mono ?_); rintro e w6 ⟨A6, c6, rfl, hc6, hm6, ho6, hv6, hb6⟩; have HB6 := hide (HB1.out.trans (hb6.mono HB1.out.size)); clear ho6 hv6 hb6)
    go_wp2
    go_ret
    exact ⟨by simp, HB6.out⟩
  | true =>
    have e1 := HOK1.out hok
    rw [e1] at HOR
    obtain ⟨hq1, hq2⟩ := HOU.out hok
    obtain ⟨ol, hol⟩ := letl (outL l ⟨sk, sn⟩)
    rw [hol] at HOR hq1 hq2
    have HQ := hide (And.intro hq1 hq2)
    obtain ⟨m, hm⟩ := letl ol.length
    rw [hm] at HOR hq1
    have HM := hide hm
    have HM80 := hide (show m ≤ 80 from by
      have := left_le l n
      rw [List.take_of_length_le (by have := HN.out; omega)] at this
      omega)
    have HOKK := hide hok
    have HOLL := hide (show ol = orderL l ⟨sk, sn⟩ from by rw [← hol]; unfold outL; rw [if_pos hok])
    clear HOU HOK HOK1 e1 hok hol hm hq1 hq2
    go_upto_region 6 with (go_at_call 9; (with_reducible refine HOR.out.mono ?_); rintro e w6 ⟨A6, c6, rfl, hc6, hm6, ho6, hv6, hb6⟩; have HV6 := hide hv6; have HB6 := hide (HB1.out.trans (hb6.mono HB1.out.size)); have HX6 := hide (HX1.out.below hb6); clear ho6 hv6 hb6)
    clear x0 x1 lx HOR HX1
    have HBASE := hide (HB6.out.size)
    obtain ⟨i0, hi0, iz0, iz1, iz2⟩ := info_parts info_loc17
    have HI := hide hi0
    obtain ⟨j0, hj0, jz0, jz1, jz2⟩ := info_parts info_int16
    have HJ := hide hj0
    clear hi0 hj0
    go_upto_region 11 with (fail)
    go_loopw [9, 10, 11] (fun va vf z wr => ∃ k : Nat, k ≤ 2 * n ∧ z = .int .i64 (k : Int) ∧ Hid (OwC lcC 24 2 wr w6.heap.size va (atF l has k).1) ∧ Hid (OwC zC 3 1 wr w6.heap.size vf (atF l has k).2) ∧ Below w6.heap.size w6 wr) (fun _ _ z _ => 2 * n - (intOf z).toNat)
    case atStart => exact ⟨0, Nat.zero_le _, rfl, hide (OwC.nil _ _), hide (OwC.nil _ _), Below.refl _ _⟩
    case round =>
      obtain ⟨k, hk, rfl, HA, HF, hb⟩ := hrel
      obtain ⟨w7, rfl⟩ : ∃ w7, w7 = wr := ⟨_, rfl⟩
      have HB7 := hide hb
      clear hb
      have hw2 : IntKind.i64.wrap (2 * (n : Int)) = 2 * (n : Int) := IntWalk.i64_in _ ⟨by omega, by omega⟩
      by_cases hlt : k < 2 * n
      case neg =>
        obtain rfl : k = 2 * n := by omega
        have hnn : ¬ (((2 * n : Nat) : Int) < 2 * (n : Int)) := by omega
        obtain ⟨⟨at0, fs0⟩, hst⟩ := letl (atF l has (2 * n))
        have HON := hide (show playL ol at0 fs0 = wantL l at0 (st0 at0 fs0) n from by
          have t := once_play HOKK.out has (ats := at0) (fs := fs0) (by rw [HN.out, hst]) (by rw [HN.out, hst])
          rw [HOLL.out, t, HN.out])
        have HND := hide (show at0.Nodup from by have t := atF_once l has (2 * n); rw [hst] at t; exact t)
        have HLE := hide (show fs0.length = at0.length ∧ at0.length ≤ 2 * n from by have t := atF_len l has (2 * n); rw [hst] at t; exact t)
        have HAR := hide (show ∀ x ∈ at0, lcR x from by have t := at_R (has := has) HMR.out (k := 2 * n) (by have := HN.out; omega); rw [hst] at t; exact t)
        have HFR := hide (show ∀ z ∈ fs0, i64R z from fun z hz => by
          have t := atF_R (l := l) (has := has) HH.out.range (2 * n) (by omega) z
          rw [hst] at t
          exact t hz)
        have HIN := hide (show ∀ m ∈ l, m.f ∈ at0 from fun m hm => by have t := (name_in hm has).2; rw [HN.out, hst] at t; exact t)
        rw [hst] at HA HF
        simp only at HA HF
        obtain ⟨Aat, cat', hva, hca1, hca2⟩ := HA.out.sl
        obtain ⟨Afs, cfs, hvf, hcf1, hcf2⟩ := HF.out.sl
        rw [HLE.out.1] at hvf hcf1
        subst hva
        subst hvf
        obtain ⟨na, hna⟩ := letl at0.length
        rw [hna] at HA HF HLE hca1 hcf1 ⊢
        have HNA := hide hna
        have HLA := hide (lcs_own17 HA.out HAR.out)
        clear hst hna hca2 hcf2
        go_upto_region 26 with (fail)
        have hna80 : na ≤ 80 := by have := HLE.out.2; omega
        obtain ⟨s0, hs0⟩ := letl (st0 at0 fs0)
        rw [hs0] at HON
        have HS0 := hide hs0
        have HWS := hide (show wantL l at0 s0 0 = fs0 from by rw [← HS0.out]; exact want_start HND.out (by rw [HLE.out.1, HNA.out]))
        have HSR := hide (show ∀ x, i64R (s0 x) from by rw [← HS0.out]; exact st0_R17 HFR.out)
        have HO := hide (OwC.lit0 (c := zC) (T := 3) (sz := 1) w7)
        have HBA := hide (alloc1 w7 (.cells #[] 3))
        clear hs0
        go_upto_region 27 with (at_builtin; refine wpList_append_cs (c := zC) (sz := 1) (fun _ => rfl) _ rfl (.tmp 92) (.tmp 93) rfl w7.heap.size j0 _ 8 Try.underlying33 HJ.out jz0 jz1 jz2 rfl (by omega) (by omega) (.slice (some ⟨w7.heap.size, 0, none⟩) 0 0) [] (by rfl) HO.out Afs na cfs fs0 (by rfl) HLE.out.1 (zC_one17 fs0) (HF.out.cells17 HLE.out.1 _ HBA.out) (by simp; omega) (by simp) ?_; intro vw w8 ho8 hb8; have HO8 := hide (show OwC zC 3 1 w8 w7.heap.size vw fs0 from ho8); have HB8 := hide (show Below w7.heap.size w7 w8 from HBA.out.trans hb8); clear ho8 hb8)
        obtain ⟨Aw, cw, hvw, hcw1, hcw2⟩ := HO8.out.sl
        rw [HLE.out.1] at hvw hcw1
        subst hvw
        have HWI0 := hide (show OwC zC 3 1 w8 w7.heap.size (.slice Aw na cw) (wantL l at0 s0 0) from by rw [HWS.out]; exact HO8.out)
        have HW7 := hide (HB6.out.trans (HB7.out.mono HB6.out.size))
        have hcw3 : cw ≤ 9223372036854775807 := by simpa [maxLen] using hcw2
        clear HO8 HO HBA hcw2
        go_upto_region 28 with (fail)
        go_loopw [17] (fun z wr => ∃ i : Nat, i ≤ n ∧ z = .int .i64 (i : Int) ∧ Hid (OwC zC 3 1 wr w7.heap.size (.slice Aw na cw) (wantL l at0 s0 i)) ∧ Below w7.heap.size w7 wr) (fun z _ => n - (intOf z).toNat)
        case atStart => exact ⟨0, Nat.zero_le _, rfl, HWI0, HB8.out⟩
        case round =>
          obtain ⟨i, hi, rfl, HWI, hb⟩ := hrel
          obtain ⟨w9, rfl⟩ : ∃ w9, w9 = wr := ⟨_, rfl⟩
          have HB9 := hide hb
          clear hb HWI0 HB8
          by_cases hil : i < n
          case neg =>
            obtain rfl : n = i := by omega
            have hnn2 : ¬ ((n : Int) < (n : Int)) := by omega
            have HW9 := hide (HW7.out.trans (HB9.out.mono HW7.out.size))
            have hmn : m ≤ 2 * n := by
              obtain ⟨h1, h2⟩ := HQ.out
              have := left_le l n
              rw [List.take_of_length_le (by have := HN.out; omega)] at this
              rw [HM.out] at h1
              omega
            have HMV9 := hide (HV6.out.up (HB7.out.trans (HB9.out.mono HB7.out.size)))
            have HF9 := hide (HF.out.kept (w' := w9) fun g hg => HB9.out.block g (HF.out.lt g hg).2)
            have HPL := hide (iplay_any _ _ _ ol at0 fs0 w9 HMV9.out (HLA.out.up HB9.out) ((OwC.ints (show OwC intC 3 1 w9 w6.heap.size (.slice Afs na cfs) fs0 from HF9.out)).intsV HFR.out) (by have := HM80.out; have := HM.out; omega) (by have := HNA.out; omega) (by have := HLE.out.1; omega))
            rw [HNA.out, HON.out] at HPL
            have HINT := hide (fun (W : World) (g1 : Nat) (b1 : Box W g1 (intsA (wantL l at0 s0 n)) 3) (h2 : OwC zC 3 1 W w7.heap.size (.slice Aw na cw) (wantL l at0 s0 n)) => (show Calls Try.prog 14 #[.slice (some ⟨g1, 0, none⟩) na na, .slice Aw na cw] W fun e w' => e = .returned (.bool true) ∧ Below W.heap.size W w' from by
              have hwl : (wantL l at0 s0 n).length = na := by rw [want_len, HNA.out]
              obtain ⟨A1, c1, e1, -, -, s1, -⟩ := (ints_of_box (n := na) (zs := wantL l at0 s0 n) b1 (want_R HSR.out n) hwl (by omega)).sl
              obtain ⟨A2, c2, e2, s2⟩ := zC_ints17 h2
              injection e1 with e1 _ _
              injection e2 with e2 _ _
              subst e1
              subst e2
              refine (ints_any _ _ na na na cw _ _ W _ _ s1 s2 hwl hwl (by omega) (by omega)).mono ?_
              rintro e w' ⟨he, q, rfl⟩
              exact ⟨by rw [he, decide_eq_true rfl], below_drewN (Below.refl _ _) q⟩))
            have hw2n : IntKind.i64.wrap (2 * (n : Int)) = 2 * (n : Int) := IntWalk.i64_in _ ⟨by omega, by omega⟩
            have hmn2 : (m : Int) ≤ 2 * (n : Int) := by omega
            clear hi hil
            go_wp2_with (first
              | (go_at_call 14; (with_reducible refine (HINT.out w11 g11 HX11.out HW11.out).mono ?_); rintro e w12 ⟨rfl, hb12⟩; have HB12 := hide (HB11.out.trans (hb12.mono HB11.out.size)); clear hb12)
              | (go_at_call 15; (with_reducible refine HPL.out.mono ?_); rintro e w11 ⟨g11, rfl, hx11, -, hb11⟩; have HX11 := hide hx11; have HW11 := hide (HWI.out.below hb11); have HB11 := hide (HW9.out.trans (hb11.mono HW9.out.size)); clear hb11 hx11))
            all_goals
              go_ret
              exact ⟨by simp [hmn2], HB12.out⟩
          have hil' : (i : Int) < (n : Int) := by omega
          obtain ⟨y, hy⟩ : ∃ y, l[i]? = some y := ⟨_, List.getElem?_eq_getElem (by have := HN.out; omega)⟩
          obtain ⟨b, o, hA, -⟩ := (HLV.out w (Below.refl _ _)).get hy
          subst hA
          have HYC := hide (fun (W : World) (hW : Below w.heap.size w W) => (HLV.out w (Below.refl _ _)).at' hW hy)
          have HYF := hide (HIN.out y (List.mem_of_getElem? hy))
          have HMN := hide (fun (k : Nat) (x : LcV) (hx : at0[k]? = some x) (h : ¬ x = y.t) => mixW_no (s := s0) hx hy h)
          have HMY := hide (fun (k : Nat) (hx : at0[k]? = some y.t) => mixW_yes (s := s0) HOKK.out hx hy)
          obtain ⟨⟨tk, tn⟩, ⟨fk, fn⟩⟩ := y
          simp only at HYC HYF HMN HMY
          have hi0 : (0 : Int) ≤ (i : Int) := by omega
          have HIL := hide hil
          clear hy
          go_upto_region 31 with (fail)
          go_loopw [18] (fun z wr => ∃ k : Nat, k ≤ na ∧ z = .int .i64 (k : Int) ∧ Hid (OwC zC 3 1 wr w7.heap.size (.slice Aw na cw) (mixW l at0 s0 i k)) ∧ Below w7.heap.size w7 wr) (fun z _ => na - (intOf z).toNat)
          case atStart => exact ⟨0, Nat.zero_le _, rfl, hide (by rw [mixW0]; exact HWI.out), HB9.out⟩
          case round =>
            obtain ⟨k, hk, rfl, HMK, hb⟩ := hrel
            obtain ⟨w10, rfl⟩ : ∃ w10, w10 = wr := ⟨_, rfl⟩
            have HB10 := hide hb
            clear hb
            by_cases hkl : k < na
            case neg =>
              obtain rfl : na = k := by omega
              have hnn2 : ¬ ((na : Int) < (na : Int)) := by omega
              rw [show mixW l at0 s0 i na = wantL l at0 s0 (i + 1) by rw [← HNA.out]; exact mixWAll] at HMK
              go_wp2
              go_roundw
              case rel => exact ⟨i + 1, by have := HIL.out; omega, by go_num, HMK, HB10.out⟩
              case measure => have := HIL.out; simp [intOf]; omega
            have hk0 : (0 : Int) ≤ (k : Int) := by omega
            have hk1 : (k : Int) < (na : Int) := by omega
            have hkl' := hk1
            have HKL := hide hkl
            obtain ⟨x, hx⟩ : ∃ x, at0[k]? = some x := ⟨_, List.getElem?_eq_getElem (by have := HNA.out; omega)⟩
            obtain ⟨bq, oq, hA2, -⟩ := HLA.out.get hx
            subst hA2
            have HXC := hide (fun (W : World) (hW : Below w7.heap.size w7 W) => HLA.out.at' hW hx)
            have e1 := lc_cases x ⟨tk, tn⟩
            rcases e1 with e1 | e1
            · subst e1
              have HMY2 := hide (HMY.out k hx)
              simp only at HXC HMY2
              have hq : idxL at0 ⟨fk, fn⟩ < na := by
                obtain ⟨jq, hjq⟩ := List.getElem?_of_mem HYF.out
                have h1 := (List.getElem?_eq_some_iff.1 hjq).1
                have h2 := idx_nodup HND.out h1
                rw [lcAt_of hjq] at h2
                have := HNA.out
                omega
              have HQI := hide (fun (j : Nat) (z : LcV) (hz : at0[j]? = some z) => (show (z = ⟨fk, fn⟩ ↔ j = idxL at0 ⟨fk, fn⟩) from by
                have h1 := (List.getElem?_eq_some_iff.1 hz).1
                have h2 := idx_nodup HND.out h1
                rw [lcAt_of hz] at h2
                constructor
                · intro e; rw [← e, h2]
                · intro e
                  subst e
                  have t := idx_at17 (x := ⟨fk, fn⟩) h1
                  rw [lcAt_of hz] at t
                  exact t))
              obtain ⟨q, hqq⟩ := letl (idxL at0 ⟨fk, fn⟩)
              rw [hqq] at hq HQI
              clear hqq
              have HSV := hide (fun (j : Nat) (z : LcV) (v : Int) (hz : at0[j]? = some z) (e : z = ⟨fk, fn⟩) (hv : fs0[j]? = some v) => (show s0 ⟨fk, fn⟩ = v from by
                rw [← HS0.out, ← e, st0_at HND.out hz, List.getD_eq_getElem?_getD, hv]
                rfl))
              have HML := hide (show k < (mixW l at0 s0 i k).length from by rw [mixW_len (by have := HNA.out; omega), HNA.out]; exact HKL.out)
              obtain ⟨M, hM⟩ := letl (mixW l at0 s0 i k)
              rw [hM] at HMK HMY2 HML
              obtain ⟨sv, hsv⟩ := letl (s0 ⟨fk, fn⟩)
              rw [hsv] at HSV HMY2
              clear hM hsv
              go_upto_region 34 with (fail)
              go_loopw [19] (fun z wr => ∃ j : Nat, j ≤ na ∧ z = .int .i64 (j : Int) ∧ Hid (OwC zC 3 1 wr w7.heap.size (.slice Aw na cw) (midW M k q j sv)) ∧ Below w7.heap.size w7 wr) (fun z _ => na - (intOf z).toNat)
              case atStart => exact ⟨0, Nat.zero_le _, rfl, hide (by rw [mid0]; exact HMK.out), HB10.out⟩
              case round =>
                obtain ⟨j, hj, rfl, HMJ, hb⟩ := hrel
                obtain ⟨wj, rfl⟩ : ∃ wj, wj = wr := ⟨_, rfl⟩
                have HBJ := hide hb
                clear hb
                by_cases hjl : j < na
                case neg =>
                  obtain rfl : na = j := by omega
                  have hnn2 : ¬ ((na : Int) < (na : Int)) := by omega
                  rw [midAll hq, ← HMY2.out] at HMJ
                  go_wp2
                  go_quiet (fail)
                  go_wp2
                  go_roundw
                  case rel => exact ⟨k + 1, by have := HKL.out; omega, by go_num, HMJ, below_drewN HBJ.out _⟩
                  case measure => have := HKL.out; simp [intOf]; omega
                have HJL := hide hjl
                have hj0 : (0 : Int) ≤ (j : Int) := by omega
                have hj1 : (j : Int) < (na : Int) := by omega
                have HWJ := hide (HW7.out.trans (HBJ.out.mono HW7.out.size))
                obtain ⟨q1, q2, lq⟩ := HXC.out wj HBJ.out
                obtain ⟨d1, d2, d3, d4, lb⟩ := HYC.out wj HWJ.out
                obtain ⟨z, hz⟩ : ∃ z, at0[j]? = some z := ⟨_, List.getElem?_eq_getElem (by have := HNA.out; omega)⟩
                obtain ⟨p1, p2, -⟩ := HLA.out.at' HBJ.out hz
                obtain ⟨v, hv⟩ : ∃ v, fs0[j]? = some v := ⟨_, List.getElem?_eq_getElem (by have := HLE.out.1; omega)⟩
                have HHIT := hide (fun e => HSV.out j z v hz e hv)
                have HQZ := hide (HQI.out j z hz)
                obtain ⟨gf, cf2, hvf2, hgf, lgf, -⟩ := HF.out.blk (by have := HLE.out.1; omega)
                injection hvf2 with u1 u2 u3
                subst u1
                clear u2 u3
                have fv := (HF.out.at' (i := 0) HLE.out.1 (fun _ => rfl) hv (by omega)).1
                simp only [Nat.mul_one, Nat.add_zero, zC, List.getElem?_cons_zero] at fv
                replace fv := (HBJ.out.cell (p := ⟨gf, j, none⟩) lgf).trans fv
                have lgf2 : gf < wj.heap.size := Nat.lt_of_lt_of_le lgf HBJ.out.size
                obtain ⟨pm, hpm⟩ := midAt (q := q) (j := j) (v := sv) HML.out
                obtain ⟨gw, cw2, hvw2, hgw, lgw, -⟩ := HMJ.out.blk (by have := (List.getElem?_eq_some_iff.1 hpm).1; omega)
                injection hvw2 with u1 u2 u3
                subst u1
                have hml : (midW M k q j sv).length = na := u2.symm
                clear u2 u3
                obtain ⟨gv, gfz⟩ := HMJ.out.at' (i := 0) hml (fun _ => rfl) hpm (by omega)
                simp only [Nat.mul_one, Nat.add_zero, zC, List.getElem?_cons_zero] at gv gfz
                have HSET := hide (show ∀ (q2 : Nat) (u : Int), OwC zC 3 1 ((wj.drewN q2).setCell ⟨gw, k, none⟩ (.int .i64 u)) w7.heap.size (.slice (some ⟨gw, 0, none⟩) na cw) ((midW M k q j sv).set k u) from fun q2 u => by
                  have t := OwC.setAt17 (c := zC) (sz := 1) (j := 0) (q := u) (u := .int .i64 u) (fun _ => rfl) (HMJ.out.below (below_drewN (Below.refl _ _) q2)) hpm rfl (by omega)
                  simpa only [Nat.mul_one, Nat.add_zero] using t)
                have HSB := hide (show ∀ (q2 : Nat) (u : Value), Below w7.heap.size w7 ((wj.drewN q2).setCell ⟨gw, k, none⟩ u) from fun q2 u => (below_drewN HBJ.out q2).setCell (p := ⟨gw, k, none⟩) hgw u)
                have e2 := lc_cases z ⟨fk, fn⟩
                obtain ⟨zk, zn⟩ := z
                simp only at p1 p2 e2
                clear hz hv hpm hml
                rcases e2 with e2 | e2
                · have hjq := (HQZ.out).1 e2
                  have hsv := HHIT.out e2
                  injection e2 with e2 e3
                  subst e2
                  subst e3
                  subst hsv
                  have HNX := hide (show midW M k q (j + 1) sv = (midW M k q j sv).set k sv from by rw [hjq]; exact midHit)
                  clear hjq
                  go_wp2
                  go_quiet (fail)
                  go_wp2
                  go_quiet (fail)
                  go_wp2
                  go_roundw
                  case rel => exact ⟨j + 1, by have := HJL.out; omega, by go_num, hide (by rw [HNX.out]; exact HSET.out _ _), HSB.out _ _⟩
                  case measure => have := HJL.out; simp [intOf]; omega
                · have HNX := hide (show midW M k q (j + 1) sv = midW M k q j sv from midMiss (fun e => by
                    have t := (HQZ.out).2 e
                    injection t with t1 t2
                    rcases e2 with h | h
                    · exact h t1
                    · exact h.2 t2))
                  rcases e2 with e2 | ⟨e0, e2⟩
                  all_goals
                    try subst e0
                    go_wp2
                    go_quiet (fail)
                    go_wp2
                    go_quiet (fail)
                    go_wp2
                    go_roundw
                    case rel => exact ⟨j + 1, by have := HJL.out; omega, by go_num, hide (by rw [HNX.out]; exact HMJ.out.below (below_drewN (Below.refl _ _) _)), below_drewN HBJ.out _⟩
                    case measure => have := HJL.out; simp [intOf]; omega
            · have HMN2 := hide (HMN.out k x hx (fun e => by
                have t := congrArg LcV.k e
                have t2 := congrArg LcV.n e
                simp only at t t2
                rcases e1 with h | h
                · exact h t
                · exact h.2 t2))
              rw [← HMN2.out] at HMK
              obtain ⟨xk, xn⟩ := x
              simp only at e1 HXC
              clear hx HMN2
              go_upto_region 34 with (fail)
              go_loopw [19] (fun z wr => z = .int .i64 (0 : Int) ∧ Hid (OwC zC 3 1 wr w7.heap.size (.slice Aw na cw) (mixW l at0 s0 i (k + 1))) ∧ Below w7.heap.size w7 wr) (fun z _ => 0)
              case atStart => exact ⟨rfl, HMK, HB10.out⟩
              case round =>
                obtain ⟨rfl, HMJ, hb⟩ := hrel
                obtain ⟨wj, rfl⟩ : ∃ wj, wj = wr := ⟨_, rfl⟩
                have HBJ := hide hb
                clear hb
                have hz1 : (0 : Int) < (na : Int) := by omega
                have hz2 : 0 < na := by omega
                have HWJ := hide (HW7.out.trans (HBJ.out.mono HW7.out.size))
                obtain ⟨q1, q2, lq⟩ := HXC.out wj HBJ.out
                obtain ⟨d1, d2, d3, d4, lb⟩ := HYC.out wj HWJ.out
                rcases e1 with e1 | ⟨e0, e1⟩
                all_goals
                  try subst e0
                  go_wp2
                  go_quiet (fail)
                  go_wp2
                  go_roundw
                  case rel => exact ⟨k + 1, by have := HKL.out; omega, by go_num, hide (HMJ.out.below (below_drewN (Below.refl _ _) _)), below_drewN HBJ.out _⟩
                  case measure => have := HKL.out; simp [intOf]; omega
      have hlt' : (k : Int) < 2 * (n : Int) := by omega
      have hq : (k : Int).tdiv 2 = ((k / 2 : Nat) : Int) := rfl
      have hr : (k : Int).tmod 2 = ((k % 2 : Nat) : Int) := rfl
      obtain ⟨h, hh⟩ := letl (k / 2)
      have hhn : h < n := by omega
      have hh0 : (0 : Int) ≤ (h : Int) := by omega
      have hh1 : (h : Int) < (n : Int) := by omega
      rw [hh] at hq
      have hwh : IntKind.i64.wrap (h : Int) = (h : Int) := IntWalk.i64_in _ ⟨by omega, by omega⟩
      obtain ⟨y, hy⟩ : ∃ y, l[h]? = some y := ⟨_, List.getElem?_eq_getElem (by have := HN.out; omega)⟩
      have HW7 := hide (HB6.out.trans (HB7.out.mono HB6.out.size))
      obtain ⟨b, o, hA, -⟩ := (HLV.out w (Below.refl _ _)).get hy
      subst hA
      obtain ⟨d1, d2, d3, d4, lb⟩ := (HLV.out w (Below.refl _ _)).at' HW7.out hy
      have HNAME := hide (show nameL l k = if k % 2 = 1 then y.f else y.t from by unfold nameL; rw [hh, mvAt_of hy])
      obtain ⟨⟨tk, tn⟩, ⟨fk, fn⟩⟩ := y
      simp only at d1 d2 d3 d4 HNAME
      have HLT := hide hlt
      clear hy hh
      have HAR := hide (at_R (has := has) HMR.out (k := k) (by have := HN.out; omega))
      have HAL2 := hide (atF_len l has k)
      have HST := hide (show atF l has (k + 1) = if (atF l has k).1.any (fun y => decide (y = nameL l k)) = true then atF l has k else ((atF l has k).1 ++ [nameL l k], (atF l has k).2 ++ [numL has k]) from rfl)
      obtain ⟨⟨at0, fs0⟩, hst⟩ := letl (atF l has k)
      rw [hst] at HA HF HAR HAL2 HST
      simp only at HA HF HAR HAL2 HST
      obtain ⟨Aat, cat', hva, hca1, hca2⟩ := HA.out.sl
      obtain ⟨Afs, cfs, hvf, hcf1, hcf2⟩ := HF.out.sl
      rw [HAL2.out.1] at hvf hcf1
      subst hva
      subst hvf
      obtain ⟨na, hna⟩ := letl at0.length
      rw [hna] at HA HF HAL2 hca1 hcf1 ⊢
      have HNA := hide hna
      have hna80 : na ≤ 80 := by have := HAL2.out.2; omega
      clear hst hna hca2 hcf2
      by_cases hpar : k % 2 = 1
      · rw [if_pos hpar] at HNAME
        rw [hpar] at hr
        have hr1 : ((k : Int).tmod 2 == 1) = true := by rw [hr]; rfl
        have hwr1 : IntKind.i64.wrap (1 : Int) = 1 := IntWalk.i64_in _ ⟨by omega, by omega⟩
        go_upto_region 14 with (fail)
        obtain ⟨w8, hw8⟩ := letr (w7.alloc (.cells #[.int .i64 tk, .int .i64 tn] 24))
        obtain ⟨Hx, hHx⟩ := letl w7.heap.size
        have HX8 := lBox hw8 hHx
        have HB8 := lBel hw8
        have HGX := hide (show w6.heap.size ≤ Hx from by have := HB7.out.size; omega)
        rw [← hw8, hHx]
        have HHX := hide hHx
        clear hw8 hHx
        obtain ⟨x0, f0⟩ := HX8.out.cell 0 (v := .int .i64 tk) rfl
        obtain ⟨x1, f1⟩ := HX8.out.cell 1 (v := .int .i64 tn) rfl
        have lx := HX8.out.lt
        have d3 := (HB8.out.cell (p := ⟨b, o + h * 4 + 2, none⟩) lb).trans d3
        have d4 := (HB8.out.cell (p := ⟨b, o + h * 4 + 3, none⟩) lb).trans d4
        have lb : b < w8.heap.size := Nat.lt_of_lt_of_le lb HB8.out.size
        clear d1 d2
        go_upto_region 16 with (fail)
        obtain ⟨wb, hwb⟩ := letr ((w8.setCell ⟨Hx, 0, none⟩ (.int .i64 fk)).setCell ⟨Hx, 1, none⟩ (.int .i64 fn))
        have HXB := hide (show Box wb Hx #[.int .i64 fk, .int .i64 fn] 24 from by rw [hwb]; have t := (HX8.out.set 0 (.int .i64 fk)).set 1 (.int .i64 fn); simpa using t)
        have HSB := hide (show w7.heap.size ≤ wb.heap.size ∧ (∀ g, g < w7.heap.size → wb.heap[g]? = w7.heap[g]?) ∧ Below w6.heap.size w6 wb from by
          rw [hwb]
          refine ⟨by rw [World.size_setCell, World.size_setCell]; exact HB8.out.size, fun g hg => ?_, ((HB7.out.trans (HB8.out.mono HB7.out.size)).setCell (p := ⟨Hx, 0, none⟩) HGX.out _).setCell (p := ⟨Hx, 1, none⟩) HGX.out _⟩
          have hne : g ≠ Hx := fun e => by have := HHX.out; omega
          rw [heap_setCell_other _ _ _ _ hne, heap_setCell_other _ _ _ _ hne]
          exact HB8.out.block g hg)
        rw [← hwb]
        clear hwb x0 x1 f0 f1 lx d3 d4 lb HX8 HB8
        rw [HNAME.out] at HST
        have HAB := hide (show OwC lcC 24 2 wb w6.heap.size (.slice Aat na cat') at0 from HA.out.kept fun g hg => HSB.out.2.1 g (HA.out.lt g hg).2)
        have HFB := hide (show OwC zC 3 1 wb w6.heap.size (.slice Afs na cfs) fs0 from HF.out.kept fun g hg => HSB.out.2.1 g (HF.out.lt g hg).2)
        have HLB := hide (lcs_own17 HAB.out HAR.out)
        go_upto_region 18 with (fail)
        go_loopw [13, 14] (fun bb z wr => ∃ j : Nat, j ≤ na ∧ z = .int .i64 (j : Int) ∧ bb = .bool ((at0.take j).any (fun y => decide (y = ⟨fk, fn⟩))) ∧ Below wb.heap.size wb wr) (fun _ z _ => na - (intOf z).toNat)
        case atStart => exact ⟨0, Nat.zero_le _, rfl, rfl, Below.refl _ _⟩
        case round =>
          obtain ⟨j, hj, rfl, rfl, hb⟩ := hrel
          obtain ⟨wj, rfl⟩ : ∃ wj, wj = wr := ⟨_, rfl⟩
          have HBJ := hide hb
          clear hb
          by_cases hjl : j < na
          case neg =>
            obtain rfl : na = j := by omega
            have hnn2 : ¬ ((na : Int) < (na : Int)) := by omega
            rw [List.take_of_length_le (Nat.le_of_eq HNA.out)]
            have HWJ := hide (show Below w6.heap.size w6 wj from HSB.out.2.2.trans (HBJ.out.mono HSB.out.2.2.size))
            cases hth : at0.any (fun y => decide (y = ⟨fk, fn⟩)) with
            | true =>
              rw [hth, if_pos rfl] at HST
              clear hth
              go_wp2
              go_roundw
              case rel => exact ⟨k + 1, by have := HLT.out; omega, by go_num, hide (by rw [HST.out]; exact HAB.out.below HBJ.out), hide (by rw [HST.out]; exact HFB.out.below HBJ.out), HWJ.out⟩
              case measure => have := HLT.out; simp [intOf]; omega
            | false =>
              rw [hth, if_neg (by simp)] at HST
              clear hth
              have hw1 : IntKind.i64.wrap (1000 + (k : Int)) = 1000 + (k : Int) := IntWalk.i64_in _ ⟨by omega, by omega⟩
              have HAJ := hide (HAB.out.below HBJ.out)
              have HFJ := hide (HFB.out.below HBJ.out)
              have HFL := hide (show fs0.length = na from HAL2.out.1)
              have x0 := ((HXB.out.belowB HBJ.out HXB.out.lt).cell 0 (v := .int .i64 fk) rfl).1
              have x1 := ((HXB.out.belowB HBJ.out HXB.out.lt).cell 1 (v := .int .i64 fn) rfl).1
              have lx := (HXB.out.belowB HBJ.out HXB.out.lt).lt
              obtain ⟨nv, hnv⟩ := letl (numL has k)
              have HNV := hide hnv
              rw [hnv] at HST
              clear hnv
              have hcase : (k < nh) ∨ ¬ k < nh := by omega
              rcases hcase with hin | hin
              focus
                obtain ⟨y, hy⟩ : ∃ y, has[k]? = some y := ⟨_, List.getElem?_eq_getElem (by have := HNH.out; omega)⟩
                obtain ⟨b9, o9, hA9, hbs, hcell, -⟩ := HH.out.get hy
                subst hA9
                (try rw [Nat.mul_one] at hcell)
                have HW9 := hide (HB6.out.trans (HWJ.out.mono HB6.out.size))
                have d1 := (HW9.out.cell (p := ⟨b9, o9 + k, none⟩) hbs).trans hcell
                have l9 : b9 < wj.heap.size := Nat.lt_of_lt_of_le hbs HW9.out.size
                have hyv : y = nv := by rw [← HNV.out]; unfold numL; rw [if_pos (by have := HNH.out; omega), List.getD_eq_getElem?_getD, hy]; rfl
                rw [hyv] at d1
                clear hyv
                have hk0 : (0 : Int) ≤ (k : Int) := by omega
                have hk1 : (k : Int) < (nh : Int) := by omega
                clear hy hcell
                go_upto_region 25 with (fail)
                clear d1 l9
              rotate_left
              focus
                have hyv : nv = 1000 + (k : Int) := by rw [← HNV.out]; unfold numL; rw [if_neg (by have := HNH.out; omega)]
                have hk1 : ¬ ((k : Int) < (nh : Int)) := by omega
                go_upto_region 25 with (fail)
                rw [← hyv]
                clear hyv
              all_goals
                obtain ⟨Hb, hHb⟩ := letl wj.heap.size
                obtain ⟨w8, hw8⟩ := letr (wj.alloc (.cells #[.int .i64 fk, .int .i64 fn] 24))
                have BXb := lBox hw8 hHb
                have HW8 := hide (And.intro hw8 hHb)
                have HA8 := hide (show OwC lcC 24 2 w8 w6.heap.size (.slice Aat na cat') at0 from HAJ.out.below (lBel hw8).out)
                have HF8 := hide (show OwC zC 3 1 w8 w6.heap.size (.slice Afs na cfs) fs0 from HFJ.out.below (lBel hw8).out)
                have HC8 := hide (HWJ.out.trans ((lBel hw8).out.mono HWJ.out.size))
                clear hw8 hHb
                go_wp2_with (first
                  | (at_builtin; obtain ⟨Hc, hHc⟩ := letl w9.heap.size; obtain ⟨w10, hw10⟩ := letr (w9.alloc (.cells #[.int .i64 nv] 3)); have BXc := lBox hw10 hHc; have B10 := lBel hw10; rw [← hw10, hHc]; clear hw10 hHc; refine wpList_append_c (c := zC) (sz := 1) w10 (by rfl) _ _ _ (by rfl) w6.heap.size j0 _ 8 Try.underlying33 HJ.out jz0 jz1 jz2 rfl (by omega) (by omega) (.slice Afs na cfs) fs0 na HFL.out (by rfl) ((two_ow9 HA8.out HF8.out HG5.out).below B10.out) nv rfl (fun u hu => by simp only [zC, List.mem_singleton] at hu; subst hu; rfl) Hc _ BXc.out rfl (by rfl) (by omega) (by have := HC8.out.size; have := HG5.out.size; have := B10.out.size; omega) ?_; intro g6 k6 w11 ho6 hg6 hv6 hl6; have HO6 := hide ho6; have HTW := hide (two_app HA8.out HF8.out HO5.out HG5.out B10.out hg6 HC8.out HC8.out.size); clear ho6 hg6 hv6 hl6)
                  | (at_builtin; rw [← HW8.out.1, HW8.out.2]; refine wpList_append_c (c := lcC) (sz := 2) w8 (by rfl) _ _ _ (by rfl) w6.heap.size i0 _ 16 Try.underlying32 HI.out iz0 iz1 iz2 rfl (by omega) (by omega) (.slice Aat na cat') at0 na HNA.out (by rfl) HA8.out ⟨fk, fn⟩ rfl (fun u hu => by simp only [lcC, List.mem_cons, List.mem_nil_iff, or_false] at hu; rcases hu with rfl | rfl <;> rfl) Hb _ BXb.out rfl (by rfl) (by omega) HC8.out.size ?_; intro g5 k5 w9 ho5 hg5 hv5 hl5; have HO5 := hide ho5; have HG5 := hide hg5; clear ho5 hg5 hv5 hl5))
                go_roundw
                case rel => exact ⟨k + 1, by have := HLT.out; omega, by go_num, hide (by rw [HST.out]; exact HTW.out.1), hide (by rw [HST.out]; exact HO6.out), HTW.out.2⟩
                case measure => have := HLT.out; simp [intOf]; omega
          obtain ⟨z, hz⟩ : ∃ z, at0[j]? = some z := ⟨_, List.getElem?_eq_getElem (by have := HNA.out; omega)⟩
          obtain ⟨bq, oq, hA2, -⟩ := HLB.out.get hz
          subst hA2
          obtain ⟨q1, q2, lq⟩ := HLB.out.at' HBJ.out hz
          have x0 := ((HXB.out.belowB HBJ.out HXB.out.lt).cell 0 (v := .int .i64 fk) rfl).1
          have x1 := ((HXB.out.belowB HBJ.out HXB.out.lt).cell 1 (v := .int .i64 fn) rfl).1
          have lx := (HXB.out.belowB HBJ.out HXB.out.lt).lt
          have HSN := hide (show (at0.take (j + 1)).any (fun y => decide (y = ⟨fk, fn⟩)) = ((at0.take j).any (fun y => decide (y = ⟨fk, fn⟩)) || decide (z = ⟨fk, fn⟩)) from by rw [List.take_add_one, hz, Option.toList_some, List.any_append]; simp)
          have e1 := lc_cases z ⟨fk, fn⟩
          have hj0 : (0 : Int) ≤ (j : Int) := by omega
          have hj1 : (j : Int) < (na : Int) := by omega
          have HJL := hide hjl
          obtain ⟨zk, zn⟩ := z
          simp only at q1 q2 e1
          clear hz
          cases hth : (at0.take j).any (fun y => decide (y = ⟨fk, fn⟩)) with
          | true =>
            rw [hth, Bool.true_or] at HSN
            clear hth
            go_wp2
            go_quiet (fail)
            go_wp2
            go_roundw
            case rel => exact ⟨j + 1, by have := HJL.out; omega, by go_num, by rw [HSN.out], below_drewN HBJ.out _⟩
            case measure => have := HJL.out; simp [intOf]; omega
          | false =>
            rw [hth, Bool.false_or] at HSN
            clear hth
            rcases e1 with e1 | e1
            · have HSN2 := hide (HSN.out.trans (decide_eq_true e1))
              injection e1 with e1 e2
              subst e1
              subst e2
              go_wp2
              go_quiet (fail)
              go_wp2
              go_roundw
              case rel => exact ⟨j + 1, by have := HJL.out; omega, by go_num, by rw [HSN2.out], below_drewN HBJ.out _⟩
              case measure => have := HJL.out; simp [intOf]; omega
            · have HSN2 := hide (HSN.out.trans (lc_ne e1))
              rcases e1 with e1 | ⟨e0, e1⟩
              all_goals
                try subst e0
                go_wp2
                go_quiet (fail)
                go_wp2
                go_roundw
                case rel => exact ⟨j + 1, by have := HJL.out; omega, by go_num, by rw [HSN2.out], below_drewN HBJ.out _⟩
                case measure => have := HJL.out; simp [intOf]; omega
      · rw [if_neg hpar] at HNAME
        have hr0 : k % 2 = 0 := by omega
        rw [hr0] at hr
        have hwr0 : IntKind.i64.wrap (0 : Int) = 0 := IntWalk.i64_in _ ⟨by omega, by omega⟩
        go_upto_region 14 with (fail)
        obtain ⟨wb, hw8⟩ := letr (w7.alloc (.cells #[.int .i64 tk, .int .i64 tn] 24))
        obtain ⟨Hx, hHx⟩ := letl w7.heap.size
        have HXB := lBox hw8 hHx
        have HB8 := lBel hw8
        rw [← hw8, hHx]
        have HSB := hide (show w7.heap.size ≤ wb.heap.size ∧ (∀ g, g < w7.heap.size → wb.heap[g]? = w7.heap[g]?) ∧ Below w6.heap.size w6 wb from ⟨HB8.out.size, fun g hg => HB8.out.block g hg, HB7.out.trans (HB8.out.mono HB7.out.size)⟩)
        clear hw8 hHx HB8 d1 d2 d3 d4 lb
        go_upto_region 16 with (fail)
        rw [HNAME.out] at HST
        have HAB := hide (show OwC lcC 24 2 wb w6.heap.size (.slice Aat na cat') at0 from HA.out.kept fun g hg => HSB.out.2.1 g (HA.out.lt g hg).2)
        have HFB := hide (show OwC zC 3 1 wb w6.heap.size (.slice Afs na cfs) fs0 from HF.out.kept fun g hg => HSB.out.2.1 g (HF.out.lt g hg).2)
        have HLB := hide (lcs_own17 HAB.out HAR.out)
        go_upto_region 18 with (fail)
        go_loopw [13, 14] (fun bb z wr => ∃ j : Nat, j ≤ na ∧ z = .int .i64 (j : Int) ∧ bb = .bool ((at0.take j).any (fun y => decide (y = ⟨tk, tn⟩))) ∧ Below wb.heap.size wb wr) (fun _ z _ => na - (intOf z).toNat)
        case atStart => exact ⟨0, Nat.zero_le _, rfl, rfl, Below.refl _ _⟩
        case round =>
          obtain ⟨j, hj, rfl, rfl, hb⟩ := hrel
          obtain ⟨wj, rfl⟩ : ∃ wj, wj = wr := ⟨_, rfl⟩
          have HBJ := hide hb
          clear hb
          by_cases hjl : j < na
          case neg =>
            obtain rfl : na = j := by omega
            have hnn2 : ¬ ((na : Int) < (na : Int)) := by omega
            rw [List.take_of_length_le (Nat.le_of_eq HNA.out)]
            have HWJ := hide (show Below w6.heap.size w6 wj from HSB.out.2.2.trans (HBJ.out.mono HSB.out.2.2.size))
            cases hth : at0.any (fun y => decide (y = ⟨tk, tn⟩)) with
            | true =>
              rw [hth, if_pos rfl] at HST
              clear hth
              go_wp2
              go_roundw
              case rel => exact ⟨k + 1, by have := HLT.out; omega, by go_num, hide (by rw [HST.out]; exact HAB.out.below HBJ.out), hide (by rw [HST.out]; exact HFB.out.below HBJ.out), HWJ.out⟩
              case measure => have := HLT.out; simp [intOf]; omega
            | false =>
              rw [hth, if_neg (by simp)] at HST
              clear hth
              have hw1 : IntKind.i64.wrap (1000 + (k : Int)) = 1000 + (k : Int) := IntWalk.i64_in _ ⟨by omega, by omega⟩
              have HAJ := hide (HAB.out.below HBJ.out)
              have HFJ := hide (HFB.out.below HBJ.out)
              have HFL := hide (show fs0.length = na from HAL2.out.1)
              have x0 := ((HXB.out.belowB HBJ.out HXB.out.lt).cell 0 (v := .int .i64 tk) rfl).1
              have x1 := ((HXB.out.belowB HBJ.out HXB.out.lt).cell 1 (v := .int .i64 tn) rfl).1
              have lx := (HXB.out.belowB HBJ.out HXB.out.lt).lt
              obtain ⟨nv, hnv⟩ := letl (numL has k)
              have HNV := hide hnv
              rw [hnv] at HST
              clear hnv
              have hcase : (k < nh) ∨ ¬ k < nh := by omega
              rcases hcase with hin | hin
              focus
                obtain ⟨y, hy⟩ : ∃ y, has[k]? = some y := ⟨_, List.getElem?_eq_getElem (by have := HNH.out; omega)⟩
                obtain ⟨b9, o9, hA9, hbs, hcell, -⟩ := HH.out.get hy
                subst hA9
                (try rw [Nat.mul_one] at hcell)
                have HW9 := hide (HB6.out.trans (HWJ.out.mono HB6.out.size))
                have d1 := (HW9.out.cell (p := ⟨b9, o9 + k, none⟩) hbs).trans hcell
                have l9 : b9 < wj.heap.size := Nat.lt_of_lt_of_le hbs HW9.out.size
                have hyv : y = nv := by rw [← HNV.out]; unfold numL; rw [if_pos (by have := HNH.out; omega), List.getD_eq_getElem?_getD, hy]; rfl
                rw [hyv] at d1
                clear hyv
                have hk0 : (0 : Int) ≤ (k : Int) := by omega
                have hk1 : (k : Int) < (nh : Int) := by omega
                clear hy hcell
                go_upto_region 25 with (fail)
                clear d1 l9
              rotate_left
              focus
                have hyv : nv = 1000 + (k : Int) := by rw [← HNV.out]; unfold numL; rw [if_neg (by have := HNH.out; omega)]
                have hk1 : ¬ ((k : Int) < (nh : Int)) := by omega
                go_upto_region 25 with (fail)
                rw [← hyv]
                clear hyv
              all_goals
                obtain ⟨Hb, hHb⟩ := letl wj.heap.size
                obtain ⟨w8, hw8⟩ := letr (wj.alloc (.cells #[.int .i64 tk, .int .i64 tn] 24))
                have BXb := lBox hw8 hHb
                have HW8 := hide (And.intro hw8 hHb)
                have HA8 := hide (show OwC lcC 24 2 w8 w6.heap.size (.slice Aat na cat') at0 from HAJ.out.below (lBel hw8).out)
                have HF8 := hide (show OwC zC 3 1 w8 w6.heap.size (.slice Afs na cfs) fs0 from HFJ.out.below (lBel hw8).out)
                have HC8 := hide (HWJ.out.trans ((lBel hw8).out.mono HWJ.out.size))
                clear hw8 hHb
                go_wp2_with (first
                  | (at_builtin; obtain ⟨Hc, hHc⟩ := letl w9.heap.size; obtain ⟨w10, hw10⟩ := letr (w9.alloc (.cells #[.int .i64 nv] 3)); have BXc := lBox hw10 hHc; have B10 := lBel hw10; rw [← hw10, hHc]; clear hw10 hHc; refine wpList_append_c (c := zC) (sz := 1) w10 (by rfl) _ _ _ (by rfl) w6.heap.size j0 _ 8 Try.underlying33 HJ.out jz0 jz1 jz2 rfl (by omega) (by omega) (.slice Afs na cfs) fs0 na HFL.out (by rfl) ((two_ow9 HA8.out HF8.out HG5.out).below B10.out) nv rfl (fun u hu => by simp only [zC, List.mem_singleton] at hu; subst hu; rfl) Hc _ BXc.out rfl (by rfl) (by omega) (by have := HC8.out.size; have := HG5.out.size; have := B10.out.size; omega) ?_; intro g6 k6 w11 ho6 hg6 hv6 hl6; have HO6 := hide ho6; have HTW := hide (two_app HA8.out HF8.out HO5.out HG5.out B10.out hg6 HC8.out HC8.out.size); clear ho6 hg6 hv6 hl6)
                  | (at_builtin; rw [← HW8.out.1, HW8.out.2]; refine wpList_append_c (c := lcC) (sz := 2) w8 (by rfl) _ _ _ (by rfl) w6.heap.size i0 _ 16 Try.underlying32 HI.out iz0 iz1 iz2 rfl (by omega) (by omega) (.slice Aat na cat') at0 na HNA.out (by rfl) HA8.out ⟨tk, tn⟩ rfl (fun u hu => by simp only [lcC, List.mem_cons, List.mem_nil_iff, or_false] at hu; rcases hu with rfl | rfl <;> rfl) Hb _ BXb.out rfl (by rfl) (by omega) HC8.out.size ?_; intro g5 k5 w9 ho5 hg5 hv5 hl5; have HO5 := hide ho5; have HG5 := hide hg5; clear ho5 hg5 hv5 hl5))
                go_roundw
                case rel => exact ⟨k + 1, by have := HLT.out; omega, by go_num, hide (by rw [HST.out]; exact HTW.out.1), hide (by rw [HST.out]; exact HO6.out), HTW.out.2⟩
                case measure => have := HLT.out; simp [intOf]; omega
          obtain ⟨z, hz⟩ : ∃ z, at0[j]? = some z := ⟨_, List.getElem?_eq_getElem (by have := HNA.out; omega)⟩
          obtain ⟨bq, oq, hA2, -⟩ := HLB.out.get hz
          subst hA2
          obtain ⟨q1, q2, lq⟩ := HLB.out.at' HBJ.out hz
          have x0 := ((HXB.out.belowB HBJ.out HXB.out.lt).cell 0 (v := .int .i64 tk) rfl).1
          have x1 := ((HXB.out.belowB HBJ.out HXB.out.lt).cell 1 (v := .int .i64 tn) rfl).1
          have lx := (HXB.out.belowB HBJ.out HXB.out.lt).lt
          have HSN := hide (show (at0.take (j + 1)).any (fun y => decide (y = ⟨tk, tn⟩)) = ((at0.take j).any (fun y => decide (y = ⟨tk, tn⟩)) || decide (z = ⟨tk, tn⟩)) from by rw [List.take_add_one, hz, Option.toList_some, List.any_append]; simp)
          have e1 := lc_cases z ⟨tk, tn⟩
          have hj0 : (0 : Int) ≤ (j : Int) := by omega
          have hj1 : (j : Int) < (na : Int) := by omega
          have HJL := hide hjl
          obtain ⟨zk, zn⟩ := z
          simp only at q1 q2 e1
          clear hz
          cases hth : (at0.take j).any (fun y => decide (y = ⟨tk, tn⟩)) with
          | true =>
            rw [hth, Bool.true_or] at HSN
            clear hth
            go_wp2
            go_quiet (fail)
            go_wp2
            go_roundw
            case rel => exact ⟨j + 1, by have := HJL.out; omega, by go_num, by rw [HSN.out], below_drewN HBJ.out _⟩
            case measure => have := HJL.out; simp [intOf]; omega
          | false =>
            rw [hth, Bool.false_or] at HSN
            clear hth
            rcases e1 with e1 | e1
            · have HSN2 := hide (HSN.out.trans (decide_eq_true e1))
              injection e1 with e1 e2
              subst e1
              subst e2
              go_wp2
              go_quiet (fail)
              go_wp2
              go_roundw
              case rel => exact ⟨j + 1, by have := HJL.out; omega, by go_num, by rw [HSN2.out], below_drewN HBJ.out _⟩
              case measure => have := HJL.out; simp [intOf]; omega
            · have HSN2 := hide (HSN.out.trans (lc_ne e1))
              rcases e1 with e1 | ⟨e0, e1⟩
              all_goals
                try subst e0
                go_wp2
                go_quiet (fail)
                go_wp2
                go_roundw
                case rel => exact ⟨j + 1, by have := HJL.out; omega, by go_num, by rw [HSN2.out], below_drewN HBJ.out _⟩
                case measure => have := HJL.out; simp [intOf]; omega
end Go.Proofs.Ytkilfejcohnceaa
