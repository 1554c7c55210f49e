/- Layer 13: what was split is split: no edge of it is critical. -/
import Derived.Test.YtnoknodijombpaaDoorPhDM
set_option linter.unusedSimpArgs false
set_option linter.unusedVariables false
namespace Go.Proofs.YtnoknodijombpaaDoor
open Go.RowKit

theorem nextL_in {x : InsV} {y : Int} : y ∈ nextL x ↔ (x.op = 21 ∧ y = x.n) ∨ (x.op = 22 ∧ (y = x.n ∨ y = x.m)) := by
  unfold nextL
  split
  · rename_i h
    rw [List.mem_singleton]
    rcases h with h | ⟨h, h2⟩
    · simp [h]
    · rw [h2]; simp [h]
  · split <;> simp_all <;> omega
theorem nextL_jump (t : Int) : nextL (jumpI t) = [t] := by simp [nextL, jumpI]
theorem nextL_tgt {L b : Nat} {es : List (Int × Int)} {x : InsV} {y : Int} (h : y ∈ nextL (tgI L es b x)) : ∃ t, t ∈ nextL x ∧ y = tgt L es b t := by
  rcases nextL_in.1 h with ⟨h1, h2⟩ | ⟨h1, h2⟩
  · exact ⟨x.n, nextL_in.2 (.inl ⟨h1, rfl⟩), h2⟩
  · rcases h2 with h2 | h2
    · exact ⟨x.n, nextL_in.2 (.inr ⟨h1, .inl rfl⟩), h2⟩
    · exact ⟨x.m, nextL_in.2 (.inr ⟨h1, .inr rfl⟩), h2⟩
theorem nextL_tgt2 {L b : Nat} {es : List (Int × Int)} {x : InsV} (h : 2 ≤ (nextL (tgI L es b x)).length) : 2 ≤ (nextL x).length := by
  obtain ⟨h1, h2, -⟩ := nextL_two h
  have h1' : x.op = 22 := h1
  have h2' : x.n ≠ x.m := fun e => h2 (show tgt L es b x.n = tgt L es b x.m by rw [e])
  have hn : x.n ∈ nextL x := nextL_in.2 (.inr ⟨h1', .inl rfl⟩)
  have hm : x.m ∈ nextL x := nextL_in.2 (.inr ⟨h1', .inr rfl⟩)
  apply Classical.byContradiction
  intro hc
  match hl : nextL x with
  | [] => rw [hl] at hn; cases hn
  | [a] => rw [hl] at hn hm; simp at hn hm; exact h2' (hn.trans hm.symm)
  | a :: b :: r => rw [hl] at hc; simp at hc
theorem two_other {l : List Int} (hn : l.Nodup) (h : 2 ≤ l.length) (a : Int) : ∃ p ∈ l, p ≠ a := by
  match l, hn, h with
  | x :: y :: r, hn, _ =>
    by_cases hx : x = a
    · refine ⟨y, by simp, fun hy => ?_⟩
      simp at hn
      exact hn.1.1 (hx.trans hy.symm)
    · exact ⟨x, by simp, hx⟩
theorem other_two {l : List Int} {a p : Int} (ha : a ∈ l) (hp : p ∈ l) (h : p ≠ a) : 2 ≤ l.length := by
  match l, ha, hp with
  | [x], ha, hp => simp at ha hp; exact (h (hp.trans ha.symm)).elim
  | x :: y :: r, _, _ => simp
theorem prevN_nodup1 (f : FunV) (z : Int) : (prevN f z).Nodup := by
  unfold prevN
  have h1 : ((edgesN f).filter (fun e => e.2 == z)).Nodup := (edgesTo_nodup f _).filter _
  generalize hl : (edgesN f).filter (fun e => e.2 == z) = l at h1
  have h2 : ∀ e ∈ l, e.2 = z := fun e he => by
    rw [← hl] at he
    simpa using (List.mem_filter.1 he).2
  clear hl
  induction l with
  | nil => simp
  | cons e l ih =>
    rw [List.map_cons, List.nodup_cons]
    rw [List.nodup_cons] at h1
    refine ⟨fun hm => ?_, ih h1.2 (fun x hx => h2 x (by simp [hx]))⟩
    obtain ⟨x, hx, hxe⟩ := List.mem_map.1 hm
    have e1 := h2 e (by simp)
    have e2 := h2 x (by simp [hx])
    exact h1.1 (by rw [show e = x from Prod.ext hxe.symm (e1.trans e2.symm)]; exact hx)
section
variable {f : FunV}
theorem split_len (hok : FlowOk f) : (splitF f).blocks.length = f.blocks.length + (critN f).length := (SpI.all hok).len
theorem split_new (hok : FlowOk f) {j : Nat} {e : Int × Int} (h : (critN f)[j]? = some e) : (splitF f).blocks[f.blocks.length + j]? = some [jumpI e.2] := (SpI.all hok).new j e (List.getElem?_eq_some_iff.1 h).1 h
theorem split_old (hok : FlowOk f) {b : Nat} {l : List InsV} (h : f.blocks[b]? = some l) : (splitF f).blocks[b]? = some (bentB f.blocks.length (critN f) b l) := by
  have t := (SpI.all hok).old b l h
  rw [List.take_length] at t
  exact t
theorem nxt_new (hok : FlowOk f) {j : Nat} {e : Int × Int} (h : (critN f)[j]? = some e) : nxt (splitF f) (f.blocks.length + j) = [e.2] := by
  rw [nxt_last (split_new hok h) (mp := 0) rfl rfl, nextL_jump]
theorem nxt_old (hok : FlowOk f) {b : Nat} {l : List InsV} {x : InsV} (h : f.blocks[b]? = some l) (hx : l[l.length - 1]? = some x) : nxt (splitF f) b = nextL (tgI f.blocks.length (critN f) b x) ∧ nxt f b = nextL x := by
  have hlt := (List.getElem?_eq_some_iff.1 hx).1
  exact ⟨nxt_last (split_old hok h) (mp := l.length - 1) (by rw [bentB_len]; omega) (by have t := bentB_last (L := f.blocks.length) (es := critN f) (b := b) hx; exact t), nxt_last h (mp := l.length - 1) (by omega) hx⟩
/-- Where a block of what was split leads. -/
theorem nxt_split (hok : FlowOk f) {a : Nat} {y : Int} (ha : a < (splitF f).blocks.length) (hy : y ∈ nxt (splitF f) a) :
    (a < f.blocks.length ∧ ∃ t, t ∈ nxt f a ∧ y = tgt f.blocks.length (critN f) a t) ∨ ∃ j e, a = f.blocks.length + j ∧ (critN f)[j]? = some e ∧ y = e.2 := by
  rw [split_len hok] at ha
  by_cases hL : a < f.blocks.length
  · refine .inl ⟨hL, ?_⟩
    obtain ⟨l, hl⟩ : ∃ l, f.blocks[a]? = some l := ⟨_, List.getElem?_eq_getElem hL⟩
    cases hx : l[l.length - 1]? with
    | none =>
      have h0 : l.length = 0 := by
        have := List.getElem?_eq_none_iff.1 hx
        omega
      rw [nxt_none (split_old hok hl) (by rw [bentB_len]; exact h0)] at hy
      cases hy
    | some x =>
      obtain ⟨e1, e2⟩ := nxt_old hok hl hx
      rw [e1] at hy
      rw [e2]
      exact nextL_tgt hy
  · obtain ⟨e, he⟩ : ∃ e, (critN f)[a - f.blocks.length]? = some e := ⟨_, List.getElem?_eq_getElem (by omega)⟩
    have ea : a = f.blocks.length + (a - f.blocks.length) := by omega
    refine .inr ⟨_, e, ea, he, ?_⟩
    rw [ea, nxt_new hok he] at hy
    simpa using hy
theorem crit_rng (hok : FlowOk f) {e : Int × Int} (h : e ∈ critN f) : 0 ≤ e.2 ∧ e.2 < (f.blocks.length : Int) := by
  obtain ⟨h1, -, -⟩ := mem_critN.1 h
  obtain ⟨a, -, -, hm⟩ := edgesN_mem h1
  exact hok.2.2 a e.2 hm
theorem tgt_in {L b : Nat} {es : List (Int × Int)} {t : Int} (h : ((b : Int), t) ∈ es) : tgt L es b t = ((L + es.idxOf ((b : Int), t) : Nat) : Int) := by unfold tgt; rw [if_pos h]
theorem nxt_split_rng (hok : FlowOk f) (k : Nat) (v : Int) (hv : v ∈ nxt (splitF f) k) : 0 ≤ v ∧ v < ((splitF f).blocks.length : Int) := by
  have hk : k < (splitF f).blocks.length := by
    apply Classical.byContradiction
    intro hc
    unfold nxt at hv
    rw [List.getElem?_eq_none_iff.2 (by omega)] at hv
    cases hv
  rw [split_len hok]
  rcases nxt_split hok hk hv with ⟨hL, t, ht, rfl⟩ | ⟨j, e, rfl, he, rfl⟩
  · have := hok.2.2 k t ht
    by_cases hc : ((k : Int), t) ∈ critN f
    · have h2 := List.idxOf_lt_length_of_mem hc
      rw [tgt_in hc]
      omega
    · rw [tgt_not hc]
      omega
  · have := crit_rng hok (List.mem_of_getElem? he)
    omega
theorem split_none (hok : FlowOk f) : critN (splitF f) = [] := by
  apply List.eq_nil_iff_forall_not_mem.2
  intro e he
  obtain ⟨h1, h2, h3⟩ := mem_critN.1 he
  obtain ⟨a, ha, hal, hm⟩ := edgesN_mem h1
  rw [ha, Int.toNat_natCast] at h2
  obtain ⟨p, hp, hpa⟩ := two_other (prevN_nodup1 _ _) h3 (a : Int)
  obtain ⟨q, rfl, hql⟩ := prevN_nat hp
  have hq := (mem_prevN hql).1 hp
  have hqa : q ≠ a := fun e => hpa (by rw [e])
  generalize e.2 = y at *
  rcases nxt_split hok hal hm with ⟨hL, t, ht, hy⟩ | ⟨j, e', rfl, he', -⟩
  · have htr := hok.2.2 a t ht
    by_cases hc : ((a : Int), t) ∈ critN f
    · rw [tgt_in hc] at hy
      rcases nxt_split hok hql hq with ⟨hqL, t2, ht2, hy2⟩ | ⟨j, e', -, he', hy2⟩
      · have htr2 := hok.2.2 q t2 ht2
        by_cases hc2 : ((q : Int), t2) ∈ critN f
        · rw [tgt_in hc2] at hy2
          have hi : (critN f).idxOf ((q : Int), t2) = (critN f).idxOf ((a : Int), t) := by omega
          have h4 := List.getElem_idxOf (List.idxOf_lt_length_of_mem hc2)
          have h5 := List.getElem_idxOf (List.idxOf_lt_length_of_mem hc)
          simp only [hi] at h4
          rw [h4] at h5
          injection h5 with h6 _
          exact hqa (by omega)
        · rw [tgt_not hc2] at hy2
          omega
      · have := crit_rng hok (List.mem_of_getElem? he')
        omega
    · rw [tgt_not hc] at hy
      subst hy
      have hn2 : 2 ≤ (nxt f a).length := by
        obtain ⟨l, hl⟩ : ∃ l, f.blocks[a]? = some l := ⟨_, List.getElem?_eq_getElem hL⟩
        cases hx : l[l.length - 1]? with
        | none =>
          have h0 : l.length = 0 := by
            have := List.getElem?_eq_none_iff.1 hx
            omega
          rw [nxt_none hl h0] at ht
          cases ht
        | some x =>
          obtain ⟨e1, e2⟩ := nxt_old hok hl hx
          rw [e1] at h2
          rw [e2]
          exact nextL_tgt2 h2
      refine hc (mem_critN.2 ⟨(mem_edgesN hL).2 ht, by simpa using hn2, ?_⟩)
      have hap : (a : Int) ∈ prevN f y := (mem_prevN hL).2 ht
      rcases nxt_split hok hql hq with ⟨hqL, t2, ht2, hy2⟩ | ⟨j, e', -, he', hy2⟩
      · by_cases hc2 : ((q : Int), t2) ∈ critN f
        · rw [tgt_in hc2] at hy2
          omega
        · rw [tgt_not hc2] at hy2
          subst hy2
          exact other_two hap ((mem_prevN hqL).2 ht2) hpa
      · subst hy2
        exact (mem_critN.1 (List.mem_of_getElem? he')).2.2
  · rw [nxt_new hok he'] at h2
    simp at h2
/-- A block of what was split: as long as it was, with the arguments that were there; or a jump. -/
theorem split_code (hok : FlowOk f) {l : List InsV} (h : l ∈ (splitF f).blocks) : (∃ l0 ∈ f.blocks, l.length = l0.length ∧ ∀ x ∈ l, ∃ y ∈ l0, x.args = y.args) ∨ ∃ t, l = [jumpI t] := by
  obtain ⟨k, hk, rfl⟩ := List.getElem_of_mem h
  have hk' := hk
  rw [split_len hok] at hk'
  by_cases hL : k < f.blocks.length
  · have t := split_old hok (List.getElem?_eq_getElem hL)
    rw [List.getElem?_eq_getElem hk] at t
    injection t with t
    rw [t]
    refine .inl ⟨_, List.getElem_mem hL, bentB_len _ _ _ _, fun x hx => ?_⟩
    unfold bentB at hx
    split at hx
    · rename_i x0 hx0
      rcases List.mem_or_eq_of_mem_set hx with h1 | rfl
      · exact ⟨x, h1, rfl⟩
      · exact ⟨x0, List.mem_of_getElem? hx0, rfl⟩
    · exact ⟨x, hx, rfl⟩
  · obtain ⟨e, he⟩ : ∃ e, (critN f)[k - f.blocks.length]? = some e := ⟨_, List.getElem?_eq_getElem (by omega)⟩
    have t := split_new hok he
    rw [show f.blocks.length + (k - f.blocks.length) = k by omega, List.getElem?_eq_getElem hk] at t
    injection t with t
    exact .inr ⟨_, t⟩
theorem split_flow (hok : FlowOk f) (hf : fitsB f = true) : FlowOk (splitF f) := by
  refine ⟨by rw [split_len hok]; exact of_decide_eq_true hf, fun b hb => ?_, fun k v hv => nxt_split_rng hok k v hv⟩
  rcases split_code hok hb with ⟨l0, h0, h1, -⟩ | ⟨t, rfl⟩
  · rw [h1]; exact hok.2.1 l0 h0
  · simp
end
end Go.Proofs.YtnoknodijombpaaDoor
