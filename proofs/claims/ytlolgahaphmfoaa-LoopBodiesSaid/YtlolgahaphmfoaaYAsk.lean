/- The statement DomAsks, walked: it answers true. Condition: no slice of the program is longer than any machine's memory. -/
import Derived.Test.YtlolgahaphmfoaaYZ
set_option linter.unusedSimpArgs false
set_option linter.unusedVariables false
namespace Go.Proofs.Ytlolgahaphmfoaa
open Go.RowKit
attribute [local go_sem ↓] Go.wp_at_zero Go.wp_at_succ

theorem AbvOf.trn' {f : FunV} {A : List Int} (hok : FlowOk f) (h1 : 1 ≤ f.blocks.length) (h : AbvOf f A) : ∃ tn, Tr tn (inA A) (upA A) ∧ ∀ b, inA A b → tn b < f.blocks.length := by
  obtain ⟨o, ho, hr⟩ := h
  refine ⟨_, hr.gi.tr, fun b hb => ?_⟩
  have h2 := (tnO_lt ((hr.all b).1 hb)).1
  obtain ⟨m, lF, hD, rfl⟩ := ho
  have h3 := dfs_len hok h1 hD
  rw [List.length_reverse] at h2
  omega
theorem asc_eq : ∀ {l1 l2 : List Int}, l1.Pairwise (· < ·) → l2.Pairwise (· < ·) → (∀ x, x ∈ l1 ↔ x ∈ l2) → l1 = l2
  | [], [], _, _, _ => rfl
  | [], b :: l2, _, _, h => by have := (h b).2 (by simp); simp at this
  | a :: l1, [], _, _, h => by have := (h a).1 (by simp); simp at this
  | a :: l1, b :: l2, h1, h2, h => by
    obtain ⟨p1, p2⟩ := List.pairwise_cons.1 h1
    obtain ⟨q1, q2⟩ := List.pairwise_cons.1 h2
    have hab : a = b := by
      have ha := (h a).1 (by simp)
      have hb := (h b).2 (by simp)
      rcases List.mem_cons.1 ha with e | e
      · exact e
      · rcases List.mem_cons.1 hb with e2 | e2
        · exact e2.symm
        · have := q1 a e; have := p1 b e2; omega
    subst hab
    have : l1 = l2 := asc_eq p2 q2 (fun x => by
      constructor
      · intro hx
        rcases List.mem_cons.1 ((h x).1 (List.mem_cons_of_mem _ hx)) with e | e
        · have := p1 x hx; omega
        · exact e
      · intro hx
        rcases List.mem_cons.1 ((h x).2 (List.mem_cons_of_mem _ hx)) with e | e
        · have := q1 x hx; omega
        · exact e)
    rw [this]
theorem sortL_asc {l : List Int} (hn : l.Nodup) : (sortL l).Pairwise (· < ·) := by
  have h1 := List.pairwise_mergeSort (le := fun x y : Int => decide (x ≤ y)) (fun a b c h1 h2 => by simp at *; omega) (fun a b => by simp; omega) l
  have h2 : (sortL l).Nodup := (List.mergeSort_perm l _).nodup_iff.2 hn
  unfold sortL at h2 ⊢
  exact (h1.and h2).imp fun ⟨a, b⟩ => by simp at a; omega
theorem allTo_asc (p : Int → Int → Bool) (b : Int) (n : Nat) : (allTo p b n).Pairwise (· < ·) := by
  unfold allTo
  rw [List.pairwise_map]
  exact (List.Pairwise.filter _ List.pairwise_lt_range).imp fun h => by omega
/-- Up the tree from b: those passed, and where one stands. -/
def ChI (A : List Int) (tn : Nat → Nat) (b : Nat) (cs : List Int) (z : Int) : Prop :=
  cs.Nodup ∧ (∀ y ∈ cs, ∃ k : Nat, y = k ∧ inA A k ∧ Anc (upA A) k b) ∧
  ((∃ x : Nat, z = x ∧ inA A x ∧ Anc (upA A) x b ∧ (∀ k : Nat, Anc (upA A) k b → (k : Int) ∈ cs ∨ Anc (upA A) k x) ∧ (∀ k : Nat, (k : Int) ∈ cs → tn x < tn k) ∧ cs.length + tn x ≤ tn b) ∨ (z = -1 ∧ (∀ k : Nat, Anc (upA A) k b → (k : Int) ∈ cs) ∧ cs.length ≤ tn b + 1))
theorem ch_step {f : FunV} {A : List Int} {tn : Nat → Nat} (h : AbvOf f A) (ht : Tr tn (inA A) (upA A)) {b x : Nat} {cs : List Int} (hc : ChI A tn b cs (x : Int)) : inA A x ∧ ChI A tn b (cs ++ [(x : Int)]) (A.getD x (-1)) ∧ (A.getD x (-1) = -1 ∨ ∃ u : Nat, A.getD x (-1) = u ∧ tn u < tn x) ∧ cs.length ≤ tn b := by
  obtain ⟨c1, c2, ⟨x', e, c3, c4, c5, c6, c7⟩ | ⟨e, -⟩⟩ := hc
  · obtain rfl : x = x' := by omega
    have hnx : (x : Int) ∉ cs := fun hx => by have := c6 x hx; omega
    have hnod : (cs ++ [(x : Int)]).Nodup := by
      rw [List.nodup_append]
      refine ⟨c1, by simp, fun y hy z hz e => ?_⟩
      simp at hz
      subst e; subst hz
      exact hnx hy
    have hmem : ∀ y ∈ cs ++ [(x : Int)], ∃ k : Nat, y = k ∧ inA A k ∧ Anc (upA A) k b := by
      intro y hy
      rcases List.mem_append.1 hy with hy | hy
      · exact c2 y hy
      · simp at hy; exact ⟨x, hy, c3, c4⟩
    refine ⟨c3, ?_, ?_, by omega⟩
    · refine ⟨hnod, hmem, ?_⟩
      by_cases hx0 : x = 0
      · right
        subst hx0
        refine ⟨h.zero, fun k hk => ?_, by simp; omega⟩
        rcases c5 k hk with h9 | h9
        · exact List.mem_append_left _ h9
        · rw [h9.zero]; simp
      · left
        obtain ⟨l1, l2⟩ := ht.lt x c3 hx0
        refine ⟨upA A x, h.neg x c3 hx0, l1, (Anc.step hx0 .refl).trans c4, fun k hk => ?_, fun k hk => ?_, by simp; omega⟩
        · rcases c5 k hk with h9 | h9
          · exact .inl (List.mem_append_left _ h9)
          · cases h9 with
            | refl => exact .inl (by simp)
            | step _ h9 => exact .inr h9
        · rcases List.mem_append.1 hk with h9 | h9
          · have := c6 k h9; omega
          · simp at h9
            obtain rfl : k = x := by omega
            exact l2
    · by_cases hx0 : x = 0
      · subst hx0; exact .inl h.zero
      · exact .inr ⟨upA A x, h.neg x c3 hx0, (ht.lt x c3 hx0).2⟩
  · omega
theorem ch_end {f : FunV} {A : List Int} {tn : Nat → Nat} {p : Int → Int → Bool} (h : AbvOf f A) (h1 : 1 ≤ f.blocks.length) (hp : ∀ a b, p a b = true ↔ domQ A a b) {b : Nat} {cs : List Int} (hb : inA A b) (hc : ChI A tn b cs (-1)) : sortL cs = allTo p (b : Int) f.blocks.length := by
  obtain ⟨c1, c2, ⟨x', e, -⟩ | ⟨-, c3, -⟩⟩ := hc
  · omega
  · refine asc_eq (sortL_asc c1) (allTo_asc _ _ _) fun y => ?_
    rw [mem_sortL, all_mem]
    constructor
    · intro hy
      obtain ⟨k, rfl, k1, k2⟩ := c2 y hy
      have := h.lt h1 k k1
      rw [h.len] at this
      exact ⟨k, rfl, this, (hp _ _).2 ((domQ_nat h h1 _ _).2 ⟨k1, hb, k2⟩)⟩
    · rintro ⟨k, rfl, k1, k2⟩
      rw [hp, domQ_nat h h1] at k2
      exact c3 k k2.2.2
theorem all_none {f : FunV} {A : List Int} {p : Int → Int → Bool} (hp : ∀ a b, p a b = true ↔ domQ A a b) {b : Int} (hb : hasA A b = false) (n : Nat) : allTo p b n = [] := by
  apply List.eq_nil_iff_forall_not_mem.2
  intro y hy
  obtain ⟨k, rfl, -, h2⟩ := all_mem.1 hy
  rw [hp] at h2
  rw [h2.2.1] at hb
  cases hb
theorem meetZ_one {f : FunV} {A : List Int} (h : AbvOf f A) {a b m m' : Int} (h1 : meetZ A a b m) (h2 : meetZ A a b m') : m = m' := by
  obtain ⟨tn, ht⟩ := h.tr
  rcases h1 with ⟨ha, hb, k, rfl, hk, hs⟩ | ⟨hn, rfl⟩
  · rcases h2 with ⟨-, -, k', rfl, hk', hs'⟩ | ⟨hn, -⟩
    · have q1 := (hs' k).2 ((hs k).1 .refl)
      have q2 := (hs k').2 ((hs' k').1 .refl)
      rw [q1.eq ht hk' (q2.le ht hk).2]
    · exact absurd ⟨ha, hb⟩ hn
  · rcases h2 with ⟨ha, hb, -⟩ | ⟨-, rfl⟩
    · exact absurd ⟨ha, hb⟩ hn
    · rfl
end Go.Proofs.Ytlolgahaphmfoaa
