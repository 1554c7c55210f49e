/- Own lists of objects in memory: out of a heap, and as one; append onto one; Clone; one object put anew. No condition but on lengths. -/
import Derived.Test.YteoopilmdlhkhaaDoorPaHA
import Derived.Deep.AppendLies
import Derived.Lib.SliceRun
set_option linter.unusedSimpArgs false
set_option linter.unusedVariables false
namespace Go.Proofs.YteoopilmdlhkhaaDoor
open Go.RowKit

/-- An object with the values of its two slices. -/
abbrev ObjT : Type := ObjV × Value × Value
def objC (p : ObjT) : List Value := [p.2.1, p.2.2]
def ObjOk (w : World) (S : Nat → Prop) (p : ObjT) : Prop := ObjI w S p.2.1 p.2.2 p.1
theorem ObjOk.keep {w w' : World} {S S' : Nat → Prop} {p : ObjT} (h : ObjOk w S p) (hk : Same' S w w') (hS : ∀ b, S b → S' b) : ObjOk w' S' p := ObjI.keep h hk hS
theorem ObjOk.one {w : World} {S : Nat → Prop} {l : List ObjT} (h : ∀ p ∈ l, ObjOk w S p) : ∀ u ∈ l.flatMap objC, u.oneCell' = true := by
  intro u hu
  obtain ⟨p, hp, hu⟩ := List.mem_flatMap.1 hu
  obtain ⟨⟨A, c, e, -⟩, ⟨A', c', e', -⟩⟩ := h p hp
  simp only [objC, List.mem_cons, List.mem_nil_iff, or_false] at hu
  rcases hu with rfl | rfl
  · rw [e]; rfl
  · rw [e']; rfl
theorem objC_len (l : List ObjT) : (l.flatMap objC).length = l.length * 2 := by
  induction l with
  | nil => rfl
  | cons x l ih => rw [List.flatMap_cons, List.length_append, ih, List.length_cons, show (objC x).length = 2 from rfl]; omega
/-- A heap's objects with their values, and its cells. -/
theorem ObjsV.cells {w : World} {S : Nat → Prop} {A : Option Addr} {n c : Nat} {xs : List ObjV} (h : ObjsV w S (.slice A n c) xs) :
    ∃ l : List ObjT, l.map (·.1) = xs ∧ (∀ p ∈ l, ObjOk w S p) ∧ (0 < xs.length → ∃ b o, A = some ⟨b, o, none⟩ ∧ S b ∧ ∀ (j : Nat) (u : Value), (l.flatMap objC)[j]? = some u → w.cell? ⟨b, o + j, none⟩ = some u) := by
  obtain ⟨A', c', e, h1, h2, h3⟩ := h
  injection e with eA _ _
  subst eA
  have key : ∀ ys : List ObjV, (∀ y ∈ ys, ∃ vr vi, ObjI w S vr vi y) → True := fun _ _ => trivial
  by_cases h0 : 0 < xs.length
  · obtain ⟨b, o, eA, hb, hc⟩ := h3 h0
    have build : ∀ (k : Nat), k ≤ xs.length → ∃ l : List ObjT, l.map (·.1) = xs.take k ∧ (∀ p ∈ l, ObjOk w S p) ∧ ∀ (j : Nat) (u : Value), (l.flatMap objC)[j]? = some u → w.cell? ⟨b, o + j, none⟩ = some u := by
      intro k
      induction k with
      | zero => exact fun _ => ⟨[], by simp, by simp, fun j u hu => by simp at hu⟩
      | succ k ih =>
        intro hk
        obtain ⟨l, e1, e2, e3⟩ := ih (by omega)
        obtain ⟨y, hy⟩ : ∃ y, xs[k]? = some y := ⟨_, List.getElem?_eq_getElem (by omega)⟩
        obtain ⟨vr, vi, ⟨c0, c1⟩, hi⟩ := hc k y hy
        have hl : l.length = k := by
          have := congrArg List.length e1
          simp at this
          omega
        refine ⟨l ++ [(y, vr, vi)], by rw [List.map_append, e1, List.take_add_one, hy]; rfl, fun p hp => ?_, fun j u hu => ?_⟩
        · rcases List.mem_append.1 hp with hp | hp
          · exact e2 p hp
          · simp at hp; subst hp; exact hi
        · rw [List.flatMap_append] at hu
          have hfl := objC_len l
          rw [hl] at hfl
          by_cases hj : j < k * 2
          · rw [List.getElem?_append_left (by omega)] at hu
            exact e3 j u hu
          · rw [List.getElem?_append_right (by omega), hfl] at hu
            have hu' : [vr, vi][j - k * 2]? = some u := hu
            have hj2 : j - k * 2 < 2 := (List.getElem?_eq_some_iff.1 hu').1
            by_cases hj0 : j - k * 2 = 0
            · rw [hj0] at hu'
              simp at hu'
              subst hu'
              rw [show o + j = o + k * 2 by omega]
              exact c0
            · have hj1 : j - k * 2 = 1 := by omega
              rw [hj1] at hu'
              simp at hu'
              subst hu'
              rw [show o + j = o + k * 2 + 1 by omega]
              exact c1
    obtain ⟨l, e1, e2, e3⟩ := build xs.length (Nat.le_refl _)
    rw [List.take_length] at e1
    exact ⟨l, e1, e2, fun _ => ⟨b, o, eA, hb, e3⟩⟩
  · have hx : xs = [] := List.eq_nil_of_length_eq_zero (by omega)
    subst hx
    exact ⟨[], rfl, by simp, fun h => absurd h (by simp)⟩
section
variable {w w' : World} {S : Nat → Prop} {base : Nat} {v : Value}
theorem OwC.below {β : Type} {c : β → List Value} {T : TypeId} {sz : Nat} {l : List β} (h : OwC c T sz w base v l) (hb : Below w.heap.size w w') : OwC c T sz w' base v l :=
  h.kept fun g hg => hb.block g (h.lt g hg).2
theorem OwC.lower {β : Type} {c : β → List Value} {T : TypeId} {sz : Nat} {l : List β} (h : OwC c T sz w base v l) {b : Nat} (hb : b ≤ base) : OwC c T sz w b v l := by
  refine ⟨h.1, ?_⟩
  rcases h.2 with h2 | ⟨g, cap, cur, hv, hg, r⟩
  · exact .inl h2
  · exact .inr ⟨g, cap, cur, hv, by omega, r⟩
end
end Go.Proofs.YteoopilmdlhkhaaDoor
