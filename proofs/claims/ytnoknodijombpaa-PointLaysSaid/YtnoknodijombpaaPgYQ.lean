/- What dom's tree says: its list is one alone, and what is above is what dominates; what Above and Dominates answer. Condition: the function is one of a program that may be. -/
import Derived.Test.YtnoknodijombpaaPgNY
set_option linter.unusedSimpArgs false
set_option linter.unusedVariables false
namespace Go.Proofs.Ytnoknodijombpaa
open Go.RowKit

/-- The list of next aboves of a function. -/
def AbvOf (f : FunV) (A : List Int) : Prop := ∃ o, OrderOf f o ∧ Rest f.blocks.length (tnO o) (rO o) (fun b => prevN f (b : Int)) (Dmn f) A
/-- The block b is reached. -/
def Rch (f : FunV) (b : Nat) : Prop := ∃ o, OrderOf f o ∧ (b : Int) ∈ o
section
variable {f : FunV} {A : List Int} {a b : Nat}
theorem AbvOf.tr (h : AbvOf f A) : ∃ tn, Tr tn (inA A) (upA A) := by
  obtain ⟨o, -, hr⟩ := h
  exact ⟨_, hr.gi.tr⟩
theorem AbvOf.len (h : AbvOf f A) : A.length = f.blocks.length := by
  obtain ⟨o, -, hr⟩ := h
  exact hr.gi.len
theorem AbvOf.rch (h : AbvOf f A) (b : Nat) : inA A b ↔ Rch f b := by
  obtain ⟨o, ho, hr⟩ := h
  rw [hr.all]
  exact ⟨fun h => ⟨o, ho, h⟩, fun ⟨o', ho', h⟩ => by rw [ho.one ho']; exact h⟩
theorem AbvOf.neg (h : AbvOf f A) (b : Nat) (hb : inA A b) (h0 : b ≠ 0) : A.getD b (-1) = ((upA A b : Nat) : Int) := by
  obtain ⟨o, -, hr⟩ := h
  have := hr.gi.neg b (hb.resolve_left h0)
  unfold upA
  omega
theorem AbvOf.zero (h : AbvOf f A) : A.getD 0 (-1) = -1 := by
  obtain ⟨o, -, hr⟩ := h
  exact hr.gi.z0
theorem AbvOf.lt (h : AbvOf f A) (h1 : 1 ≤ f.blocks.length) (b : Nat) (hb : inA A b) : b < A.length := by
  rw [h.len]
  rcases hb with rfl | hb
  · exact h1
  · rcases Nat.lt_or_ge b f.blocks.length with h4 | h4
    · exact h4
    · exact absurd (by rw [List.getD_eq_getElem?_getD, List.getElem?_eq_none (by rw [h.len]; exact h4)]; rfl) hb
theorem AbvOf.anc (hok : FlowOk f) (h1 : 1 ≤ f.blocks.length) (h : AbvOf f A) (ha : inA A a) (hb : inA A b) : Anc (upA A) a b ↔ Dmn f a b := by
  obtain ⟨o, ho, hr⟩ := h
  have g := gr_of hok h1 ho
  have hro := order_reach hok h1 ho
  constructor
  · intro hab
    by_cases he : a = b
    · exact .inl he
    · refine .inr fun hw => ?_
      have := hw (fun x => rO o x ∧ ¬ Anc (upA A) a x) (fun h0 => ⟨hro.zer, fun hz => h0 hz.zero⟩) (fun x v hx hv hva => by
        obtain ⟨hx1, hx2⟩ := hx
        have hvo : rO o v := hro.fwd x hx1 v (by simpa using hv)
        refine ⟨hvo, fun hav => ?_⟩
        cases hav with
        | refl => exact hva rfl
        | step hv0 hav =>
          have hj := hr.fix v hvo hv0
          have hxr := hro.rng x hx1
          have hxp : (x : Int) ∈ prevN f (v : Int) := (mem_prevN (by omega)).2 (by simpa using hv)
          rcases hj.spec hr.gi.tr (g.pp v) (.inl rfl) with ⟨-, -, hn⟩ | ⟨-, -, hs⟩
          · exact hn _ hxp (by simpa using (hr.all x).2 hx1)
          · have := ((hs (upA A v)).1 (by unfold upA; exact .refl)).2 x hxp (by simpa using (hr.all x).2 hx1)
            exact hx2 (hav.trans (by simpa using this)))
      exact this.2 hab
  · intro hd
    exact anc_of hr.gi.tr (g.d0 a) (fun c hc h0 hdc hne => hr.gi.dom c hc h0 a hdc hne) _ b (Nat.le_refl _) hb hd
theorem AbvOf.one (hok : FlowOk f) (h1 : 1 ≤ f.blocks.length) {A' : List Int} (h : AbvOf f A) (h' : AbvOf f A') : A = A' := by
  have hin : ∀ b, inA A b ↔ inA A' b := fun b => by rw [h.rch, h'.rch]
  have hanc : ∀ a b, inA A a → inA A b → (Anc (upA A) a b ↔ Anc (upA A') a b) := fun a b ha hb => by rw [h.anc hok h1 ha hb, h'.anc hok h1 ((hin a).1 ha) ((hin b).1 hb)]
  apply List.ext_getElem
  · rw [h.len, h'.len]
  · intro b hb hb'
    have e1 : A[b] = A.getD b (-1) := by simp [List.getD, hb]
    have e2 : A'[b] = A'.getD b (-1) := by simp [List.getD, hb']
    rw [e1, e2]
    by_cases h0 : b = 0
    · subst h0; rw [h.zero, h'.zero]
    · by_cases hI : inA A b
      · have hI' := (hin b).1 hI
        rw [h.neg b hI h0, h'.neg b hI' h0]
        obtain ⟨tn, ht⟩ := h.tr
        obtain ⟨tn', ht'⟩ := h'.tr
        have hu := ht.lt b hI h0
        have hu' := ht'.lt b hI' h0
        have k1 : Anc (upA A') (upA A b) b := (hanc _ _ hu.1 hI).1 (.step h0 .refl)
        have k2 : Anc (upA A) (upA A' b) b := (hanc _ _ ((hin _).2 hu'.1) hI).2 (.step h0 .refl)
        have n1 : upA A b ≠ b := fun e => by rw [e] at hu; omega
        have n2 : upA A' b ≠ b := fun e => by rw [e] at hu'; omega
        have k3 : Anc (upA A') (upA A b) (upA A' b) := by
          generalize upA A b = u at *
          cases k1 with
          | refl => exact absurd rfl n1
          | step _ h => exact h
        have k4 : Anc (upA A) (upA A' b) (upA A b) := by
          generalize upA A' b = u at *
          cases k2 with
          | refl => exact absurd rfl n2
          | step _ h => exact h
        have k5 := (hanc _ _ hu.1 ((hin _).2 hu'.1)).2 k3
        have := k5.eq ht ((hin _).2 hu'.1) (k4.le ht hu.1).2
        omega
      · have hI' : ¬ inA A' b := fun h => hI ((hin b).2 h)
        have e3 : A.getD b (-1) = -1 := Classical.byContradiction fun h => hI (.inr h)
        have e4 : A'.getD b (-1) = -1 := Classical.byContradiction fun h => hI' (.inr h)
        rw [e3, e4]
end
end Go.Proofs.Ytnoknodijombpaa
namespace Go.Proofs.Ytnoknodijombpaa
open Go.RowKit

end Go.Proofs.Ytnoknodijombpaa
namespace Go.Proofs.Ytnoknodijombpaa
open Go.RowKit

/-- A block of numbers that is known whole, as a slice of numbers. -/
theorem AbW.ints {w : World} {g n : Nat} {A : List Int} (h : AbW w g A) (hn : A.length = n) (hm : n ≤ 1000) (hr : ∀ z ∈ A, i64R z) : IntsV w (· < w.heap.size) (.slice (some ⟨g, 0, none⟩) n n) A := by
  subst hn
  have hs : Sl w w.heap.size .i64 (some ⟨g, 0, none⟩) A := fun hp => ⟨g, 0, rfl, Box.lt h, fun j hj => by
    rw [Nat.zero_add]
    have := (Box.cell h j (v := .int .i64 (A.getD j 0)) (by simp [List.getD, hj])).1
    exact this⟩
  exact hs.vec (Nat.le_refl _) (by omega) hr
end Go.Proofs.Ytnoknodijombpaa
