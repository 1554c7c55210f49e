/- Plain mathematics: which block dominates which, and where two meet, by the list of next aboves. No condition. -/
import Derived.Test.YtkpikgakphdjjaaYM
import Derived.Test.YtkpikgakphdjjaaFU
set_option linter.unusedSimpArgs false
set_option linter.unusedVariables false
namespace Go.Proofs.Ytkpikgakphdjjaa
open Go.RowKit

theorem dom0 {f : FunV} {A : List Int} (h : AbvOf f A) (h1 : 1 ≤ f.blocks.length) (x : Nat) : domQ A 0 x ↔ inA A x := by
  have hl : 1 ≤ A.length := by rw [h.len]; exact h1
  have hz : hasA A 0 = true := (hasA_iff hl (by omega)).2 (.inl rfl)
  obtain ⟨tn, ht⟩ := h.tr
  constructor
  · rintro ⟨-, hx, -⟩
    simpa using (hasA_iff hl (by omega)).1 hx
  · intro hx
    exact ⟨hz, (hasA_iff hl (by omega)).2 (by simpa using hx), Anc.root ht _ _ (Nat.le_refl _) (by simpa using hx)⟩
theorem domQ_nat {f : FunV} {A : List Int} (h : AbvOf f A) (h1 : 1 ≤ f.blocks.length) (x y : Nat) : domQ A x y ↔ inA A x ∧ inA A y ∧ Anc (upA A) x y := by
  have hl : 1 ≤ A.length := by rw [h.len]; exact h1
  unfold domQ
  rw [hasA_iff hl (by omega), hasA_iff hl (by omega)]
  simp
theorem meet_ex {f : FunV} {A : List Int} (h : AbvOf f A) (h1 : 1 ≤ f.blocks.length) {x y : Nat} (hx : inA A x) (hy : inA A y) : ∃ m : Nat, inA A m ∧ (∀ z, Anc (upA A) z m ↔ Anc (upA A) z x ∧ Anc (upA A) z y) ∧ (∀ m', meetZ A x y m' → m' = m) ∧ (∀ m', meetZ A y x m' → m' = m) := by
  have hl : 1 ≤ A.length := by rw [h.len]; exact h1
  obtain ⟨tn, ht⟩ := h.tr
  obtain ⟨m, hm⟩ := MeetR.all ht _ x y (Nat.le_refl _) hx hy
  obtain ⟨s1, s2⟩ := hm.spec ht hx hy
  have hxq := (hasA_iff (z := (x : Int)) hl (by omega)).2 (by simpa using hx)
  have hyq := (hasA_iff (z := (y : Int)) hl (by omega)).2 (by simpa using hy)
  have key : ∀ k : Nat, inA A k → (∀ z, Anc (upA A) z k ↔ Anc (upA A) z x ∧ Anc (upA A) z y) → k = m := by
    intro k hk hs
    have k1 := (s2 k).2 ((hs k).1 .refl)
    have k2 := (hs m).2 ((s2 m).1 .refl)
    exact k1.eq ht s1 (k2.le ht hk).2
  refine ⟨m, s1, s2, fun m' hm' => ?_, fun m' hm' => ?_⟩
  · rcases hm' with ⟨-, -, k, rfl, hk, hs⟩ | ⟨hn, -⟩
    · rw [key k hk (by simpa using hs)]
    · exact absurd ⟨hxq, hyq⟩ hn
  · rcases hm' with ⟨-, -, k, rfl, hk, hs⟩ | ⟨hn, -⟩
    · rw [key k hk (fun z => by have := hs z; simp only [Int.toNat_natCast] at this; rw [this]; exact And.comm)]
    · exact absurd ⟨hyq, hxq⟩ hn
theorem meet_no {f : FunV} {A : List Int} (h : AbvOf f A) (h1 : 1 ≤ f.blocks.length) {x y : Nat} (hn : ¬ (inA A x ∧ inA A y)) : ∀ m', meetZ A x y m' → m' = -1 := by
  have hl : 1 ≤ A.length := by rw [h.len]; exact h1
  intro m' hm'
  rcases hm' with ⟨hx, hy, -⟩ | ⟨-, e⟩
  · exact absurd ⟨by simpa using (hasA_iff hl (by omega)).1 hx, by simpa using (hasA_iff hl (by omega)).1 hy⟩ hn
  · exact e
theorem kid_not {f : FunV} {A : List Int} (h : AbvOf f A) (h1 : 1 ≤ f.blocks.length) {x y m k : Nat} (hs : ∀ z, Anc (upA A) z m ↔ Anc (upA A) z x ∧ Anc (upA A) z y) (hm : inA A m) (hk : A.getD k (-1) = (m : Int)) : ¬ (domQ A k x ∧ domQ A k y) := by
  rintro ⟨hx, hy⟩
  rw [domQ_nat h h1] at hx hy
  have hkm := (hs k).2 ⟨hx.2.2, hy.2.2⟩
  obtain ⟨tn, ht⟩ := h.tr
  have k0 : k ≠ 0 := fun e => by subst e; rw [h.zero] at hk; omega
  have hu : upA A k = m := by unfold upA; rw [hk]; simp
  have := (ht.lt k hx.1 k0).2
  rw [hu] at this
  have := (hkm.le ht hm).2
  omega
end Go.Proofs.Ytkpikgakphdjjaa
