/- Texts of several names, of which only what the statement needs is kept. -/
import Derived.Test.YthbnbaikdcfbmaaGreatDoorPmJN
set_option linter.unusedSimpArgs false
set_option linter.unusedVariables false
namespace Go.Proofs.YthbnbaikdcfbmaaGreatDoor
open Go.RowKit
section
variable {α : Type} {f : St -> α × St} {j m : Nat} {s t t' : St} {l : List α} {x : α}
end
def P0 : FunV := ⟨[0], [-1], 0, 0, [[⟨1, 0, 0, 0, 5, 0, []⟩, ⟨23, 0, 0, 0, 0, 0, []⟩]]⟩
def TB (w : World) (T : TypeId) (b : Nat) : Prop := ∃ c fz, w.heap[b]? = some (.cells c T fz)
theorem Ow.intsB {w : World} {base : Nat} {v : Value} {zs : List Int} {S : Nat -> Prop} (h : Ow w base 3 .i64 v zs) (hR : ∀ z ∈ zs, i64R z) (hS : ∀ b, base <= b -> b < w.heap.size -> TB w 3 b -> S b) : IntsV w S v zs := by
 have h0 := h
 obtain ⟨A, c, rfl, hc, hm, hs⟩ := h.sl
 refine ⟨A, c, rfl, hc, by simpa [maxLen] using hm, fun hp => ?_⟩
 obtain ⟨b, o, rfl, hb, hcell⟩ := hs hp
 obtain ⟨hrow, c', fz, hty⟩ := Ow.row h0 b rfl
 refine ⟨b, o, rfl, hS b hrow hb ⟨c', fz, hty⟩, fun j x hj => ⟨?_, hR x (List.mem_of_getElem? hj)⟩⟩
 rw [Nat.mul_one, hcell j (List.getElem?_eq_some_iff.1 hj).1]
 simp [List.getD, hj]
def OwC {β : Type} (c : β -> List Value) (T : TypeId) (sz : Nat) (w : World) (base : Nat) (v : Value) (l : List β) : Prop := w.ownsRow base T sz v l.length (l.flatMap c)
theorem jml {β : Type} {c : β -> List Value} {sz : Nat} : ∀ (l : List β) (j i : Nat) (y : β), (∀ y ∈ l, (c y).length = sz) -> l[j]? = some y -> i < sz -> (l.flatMap c)[j * sz + i]? = (c y)[i]?
 | [], j, i, y, _, h, _ => by simp at h
 | x :: l, 0, i, y, hc, h, hi => by
  simp at h
  subst h
  rw [List.flatMap_cons, Nat.zero_mul, Nat.zero_add, List.getElem?_append_left (by rw [hc x List.mem_cons_self]; exact hi)]
 | x :: l, j + 1, i, y, hc, h, hi => by
  have h1 := hc x List.mem_cons_self
  rw [List.flatMap_cons, List.getElem?_append_right (by rw [h1, Nat.succ_mul]; omega), h1, show (j + 1) * sz + i - sz = j * sz + i by rw [Nat.succ_mul]; omega]
  exact jml l j i y (fun y hy => hc y (List.mem_cons_of_mem _ hy)) (by simpa using h) hi
section
variable {β : Type} {c : β -> List Value} {T : TypeId} {sz : Nat} {w w' : World} {base : Nat} {v : Value} {l : List β}
theorem OwC.nil (w : World) (base : Nat) : OwC c T sz w base (.slice none 0 0) [] := World.ownsRow_nil _ _ _ _
theorem OwC.kept (h : OwC c T sz w base v l) (hk : ∀ g, v.ownBlock = some g -> w'.heap[g]? = w.heap[g]?) : OwC c T sz w' base v l := by
 refine ⟨h.1, ?_⟩
 rcases h.2 with h2 | ⟨g, cap, cur, hv, hg, hh, r⟩
 ·exact .inl h2
 ·exact .inr ⟨g, cap, cur, hv, hg, (hk g (by rw [hv]; rfl)).trans hh, r⟩
theorem OwC.lt (h : OwC c T sz w base v l) : ∀ k, v.ownBlock = some k -> base <= k /\ k < w.heap.size := World.ownsRow.lt h
theorem OwC.sl (h : OwC c T sz w base v l) : ∃ A cp, v = .slice A l.length cp /\ l.length <= cp /\ cp <= maxLen := by
 rcases h.2 with ⟨rfl, h0⟩ | ⟨g, cap, cur, rfl, hg, hh, hnc, hcm, -⟩
 ·exact ⟨none, 0, by rw [h0], by omega, by simp [maxLen]⟩
 ·exact ⟨_, _, rfl, hnc, hcm⟩
theorem OwC.vec {α : Type} {P : Nat -> Nat -> α -> Prop} {S : Nat -> Prop} {xs : List α} (h : OwC c T sz w base v l) (hc : ∀ y ∈ l, (c y).length = sz) (hl : xs.length = l.length)
  (hS : ∀ b, v.ownBlock = some b -> S b) (hP : ∀ (b o j : Nat) (x : α) (y : β), xs[j]? = some x -> l[j]? = some y -> (∀ (i : Nat) (u : Value), (c y)[i]? = some u -> w.cell? ⟨b, o + i, none⟩ = some u) -> P b o x) : Vec sz P S v xs := by
 have h0 := h
 rcases h.2 with ⟨rfl, e⟩ | ⟨g, cap, cur, rfl, hg, hh, hnc, hcm, hsz, htake⟩
 ·have hx : xs = [] := List.eq_nil_of_length_eq_zero (by omega)
  subst hx
  exact Vec.nil _ _ _
 ·refine ⟨some ⟨g, 0, none⟩, cap, by rw [hl], by omega, by simpa [maxLen] using hcm, fun hp => ⟨g, 0, rfl, hS g rfl, fun j x hx => ?_⟩⟩
  have hj : j < l.length := by rw [<- hl]; exact (List.getElem?_eq_some_iff.1 hx).1
  obtain ⟨y, hy⟩ : ∃ y, l[j]? = some y := ⟨_, List.getElem?_eq_getElem hj⟩
  refine hP g _ j x y hx hy (fun i u hu => ?_)
  have hi : i < sz := by
   have := (List.getElem?_eq_some_iff.1 hu).1
   rw [hc y (List.mem_of_getElem? hy)] at this
   exact this
  have hlt : j * sz + i < l.length * sz := by
   have : (j + 1) * sz <= l.length * sz := Nat.mul_le_mul_right _ (by omega)
   rw [Nat.succ_mul] at this
   omega
  rw [Nat.zero_add, World.ownsRow.cellAt h0 _ hlt, jml l j i y hc hy hi]
  exact hu
end
section
variable {w : World} {S : Nat -> Prop} {base : Nat} {v : Value}
theorem jng {zs : List Int} (h : Ow w base 3 .i64 v zs) (hR : ∀ z ∈ zs, i64R z) (hS : ∀ b, v.ownBlock = some b -> S b) : IntsV w S v zs := by
 obtain ⟨A, c, rfl, hc, hm, hs⟩ := h.sl
 refine ⟨A, c, rfl, hc, by simpa [maxLen] using hm, fun hp => ?_⟩
 obtain ⟨b, o, rfl, hb, hcell⟩ := hs hp
 refine ⟨b, o, rfl, hS b rfl, fun j x hj => ⟨?_, hR x (List.mem_of_getElem? hj)⟩⟩
 rw [Nat.mul_one, hcell j (List.getElem?_eq_some_iff.1 hj).1]
 simp [List.getD, hj]
end
end Go.Proofs.YthbnbaikdcfbmaaGreatDoor
