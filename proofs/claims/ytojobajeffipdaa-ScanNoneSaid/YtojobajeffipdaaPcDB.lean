/- Layer 13: slices.Clone of blocks and of instructions; an own list of blocks, each with its own instructions. No condition but on lengths. -/
import Derived.Test.YtojobajeffipdaaPcDA
import Derived.Test.YtojobajeffipdaaPcHC
import Derived.Test.YtojobajeffipdaaPcRDp
set_option linter.unusedSimpArgs false
set_option linter.unusedVariables false
namespace Go.Proofs.Ytojobajeffipdaa
open Go.RowKit

theorem vec_build {α β : Type} {sz : Nat} {P : Nat → Nat → α → Prop} {c : β → List Value} {w : World} (hc : ∀ y, (c y).length = sz) (g : β → α) (R : β → Prop) (b : Nat) (hP : ∀ o x, P b o x → ∃ y, g y = x ∧ R y ∧ ∀ (i : Nat) (u : Value), (c y)[i]? = some u → w.cell? ⟨b, o + i, none⟩ = some u) :
    ∀ (xs : List α) (o : Nat), (∀ (j : Nat) (x : α), xs[j]? = some x → P b (o + j * sz) x) → ∃ l : List β, l.map g = xs ∧ (∀ p ∈ l, R p) ∧ ∀ (j : Nat) (u : Value), (l.flatMap c)[j]? = some u → w.cell? ⟨b, o + j, none⟩ = some u
  | [], o, _ => ⟨[], rfl, by simp, fun j u hu => by simp at hu⟩
  | x :: xs, o, h => by
    obtain ⟨y, hy, hr, hcell⟩ := hP o x (by have := h 0 x rfl; rwa [Nat.zero_mul, Nat.add_zero] at this)
    obtain ⟨l, e1, e2, e3⟩ := vec_build hc g R b hP xs (o + sz) (fun j x hj => by
      have := h (j + 1) x (by simpa using hj)
      rwa [show o + (j + 1) * sz = o + sz + j * sz by rw [Nat.succ_mul]; omega] at this)
    refine ⟨y :: l, by simp [hy, e1], fun p hp => ?_, fun j u hu => ?_⟩
    · rcases List.mem_cons.1 hp with rfl | hp
      · exact hr
      · exact e2 p hp
    · rw [List.flatMap_cons] at hu
      by_cases hj : j < sz
      · rw [List.getElem?_append_left (by rw [hc y]; exact hj)] at hu
        exact hcell j u hu
      · rw [List.getElem?_append_right (by rw [hc y]; omega), hc y] at hu
        have := e3 (j - sz) u hu
        rwa [show o + sz + (j - sz) = o + j by omega] at this
theorem vec_cells {α β : Type} {sz : Nat} {P : Nat → Nat → α → Prop} {S : Nat → Prop} {c : β → List Value} {w : World} (hc : ∀ y, (c y).length = sz) (g : β → α) (R : β → Prop) (hP : ∀ b o x, S b → P b o x → ∃ y, g y = x ∧ R y ∧ ∀ (i : Nat) (u : Value), (c y)[i]? = some u → w.cell? ⟨b, o + i, none⟩ = some u) {A : Option Addr} {n cp : Nat} {xs : List α} (h : Vec sz P S (.slice A n cp) xs) :
    ∃ l : List β, l.map g = xs ∧ (∀ p ∈ l, R p) ∧ (0 < xs.length → ∃ b o, A = some ⟨b, o, none⟩ ∧ S b ∧ ∀ (j : Nat) (u : Value), (l.flatMap c)[j]? = some u → w.cell? ⟨b, o + j, none⟩ = some u) := by
  obtain ⟨A', c', e, h1, h2, h3⟩ := h
  injection e with eA _ _
  subst eA
  by_cases h0 : 0 < xs.length
  · obtain ⟨b, o, eA, hb, hx⟩ := h3 h0
    obtain ⟨l, e1, e2, e3⟩ := vec_build hc g R b (fun o x hx => hP b o x hb hx) xs o hx
    exact ⟨l, e1, e2, fun _ => ⟨b, o, eA, hb, e3⟩⟩
  · have hx : xs = [] := List.eq_nil_of_length_eq_zero (by omega)
    subst hx
    exact ⟨[], rfl, by simp, fun h => absurd h (by simp)⟩
end Go.Proofs.Ytojobajeffipdaa
