/- What the stores of the walk's step make of the walk in memory. No condition. -/
import Derived.Test.YtpggjolbohffjaaFX
set_option linter.unusedSimpArgs false
set_option linter.unusedVariables false
namespace Go.Proofs.Ytpggjolbohffjaa
open Go.RowKit

section
variable {w w4 w5 : World} {base hw bm n : Nat} {fk fb fs vo vl v5 x y : Value} {fp fr b : Int} {m : List Bool} {os : List (Int × List Int)} {l nx cs : List Int} {ov : List (Int × Value)} {g no cap : Nat}
theorem WalkP.left (h : WalkP w base hw bm n fk fb fp fr fs m os l vo vl ov) (hb4 : Below w.heap.size w w4) (hg : w4.grownBy w5 vl.ownBlock) (ho : Ow w5 base 3 .i64 v5 (l ++ [b])) (hv5 : v5.ownBlock = vl.ownBlock ∨ ∃ g, v5.ownBlock = some g ∧ w.heap.size ≤ g) :
    WalkP (w5.setCell ⟨hw, 7, none⟩ v5) base hw bm n fk fb fp fr fs m os (l ++ [b]) vo v5 ov := by
  obtain ⟨n1, n2, n3, n4, n5, n6⟩ := h.ne
  have hwl := h.box.lt
  have hbl := h.met.lt
  have k5 : ∀ b, b < w.heap.size → vl.ownBlock ≠ some b → w5.heap[b]? = w.heap[b]? := fun b hb hn => (hg.block b (by have := hb4.size; omega) (fun e => hn e.symm)).trans (hb4.block b hb)
  have hv6 : ∀ b, b < w.heap.size → v5.ownBlock = some b → vl.ownBlock = some b := fun b hb e => by
    rcases hv5 with h5 | ⟨g, h5, h6⟩
    · rw [← h5]; exact e
    · rw [h5] at e; injection e with e; omega
  have kS : ∀ b, b < w.heap.size → b ≠ hw → vl.ownBlock ≠ some b → (w5.setCell ⟨hw, 7, none⟩ v5).heap[b]? = w.heap[b]? := fun b hb h1 h2 => (heap_setCell_other _ _ _ _ h1).trans (k5 b hb h2)
  have hsz : w.heap.size ≤ (w5.setCell ⟨hw, 7, none⟩ v5).heap.size := by rw [World.size_setCell]; have := hb4.size; have := hg.size; omega
  refine ⟨?_, (kS bm hbl (fun e => n1 e.symm) n5).trans h.met, h.len, h.opn.kept fun g hgv => kS g (h.opn.lt g hgv).2 (fun e => n2 (by rw [hgv, e])) (n6 g hgv), ho.kept' fun g hgv => heap_setCell_other _ _ _ _ (fun e => ?_), h.vlen, fun i p q hp hq => (h.vis i p q hp hq).move hsz (fun b hlt hm => kS b hlt (fun e => hm (.inl e)) (fun e => hm (.inr (.inr (.inr e))))) (fun b hlt hm => ?_), h.hb⟩
  · have hb5 : Box w5 hw _ _ := (k5 hw hwl n4).trans h.box
    have := hb5.set 7 v5
    simpa using this
  · subst e
    exact n4 (hv6 _ hwl hgv)
  · rcases hm with hm | hm | hm | hm
    · exact .inl hm
    · exact .inr (.inl hm)
    · exact .inr (.inr (.inl hm))
    · exact .inr (.inr (.inr (hv6 b hlt hm)))
theorem WalkP.drop (h : WalkP w base hw bm n fk fb fp fr fs m (os ++ [(b, nx)]) l (.slice (some ⟨g, 0, none⟩) no cap) vl (ov ++ [(b, x)])) :
    WalkP (w.setCell ⟨hw, 6, none⟩ (.slice (some ⟨g, 0, none⟩) ov.length cap)) base hw bm n fk fb fp fr fs m os l (.slice (some ⟨g, 0, none⟩) ov.length cap) vl ov := by
  obtain ⟨n1, n2, n3, n4, n5, n6⟩ := h.ne
  have hvl : ov.length = os.length := by have := h.vlen; simp at this; exact this
  have kS : ∀ b, b ≠ hw → (w.setCell ⟨hw, 6, none⟩ (.slice (some ⟨g, 0, none⟩) ov.length cap)).heap[b]? = w.heap[b]? := fun b h1 => heap_setCell_other _ _ _ _ h1
  refine ⟨?_, (kS bm (fun e => n1 e.symm)).trans h.met, h.len, h.opn.pop.kept fun g' hgv => kS g' (fun e => n2 (by rw [← e]; exact hgv)), h.lft.kept' fun g hgv => kS g (fun e => n4 (by rw [hgv, e])), hvl, fun i p q hp hq => ?_, h.hb⟩
  · have := h.box.set 6 (.slice (some ⟨g, 0, none⟩) ov.length cap)
    simpa using this
  · have hi := (List.getElem?_eq_some_iff.1 hp).1
    exact (h.vis i p q (by rw [List.getElem?_append_left hi]; exact hp) (by rw [List.getElem?_append_left (by omega)]; exact hq)).move (by rw [World.size_setCell]; exact Nat.le_refl _) (fun b hlt hm => kS b (fun e => hm (.inl e))) (fun b hlt hm => hm)
theorem WalkP.later (h : WalkP w base hw bm n fk fb fp fr fs m (os ++ [(b, nx)]) l (.slice (some ⟨g, 0, none⟩) no cap) vl (ov ++ [(b, x)])) (hy : VisOk w (Mut hw bm (.slice (some ⟨g, 0, none⟩) no cap) vl) (b, y) (b, cs)) :
    WalkP (w.setCell ⟨g, ov.length * 2 + 1, none⟩ y) base hw bm n fk fb fp fr fs m (os ++ [(b, cs)]) l (.slice (some ⟨g, 0, none⟩) no cap) vl (ov ++ [(b, y)]) := by
  obtain ⟨n1, n2, n3, n4, n5, n6⟩ := h.ne
  have hvl : ov.length = os.length := by have := h.vlen; simp at this; exact this
  have kS : ∀ b, b ≠ g → (w.setCell ⟨g, ov.length * 2 + 1, none⟩ y).heap[b]? = w.heap[b]? := fun b h1 => heap_setCell_other _ _ _ _ h1
  have hmv : ∀ p q, VisOk w (Mut hw bm (.slice (some ⟨g, 0, none⟩) no cap) vl) p q → VisOk (w.setCell ⟨g, ov.length * 2 + 1, none⟩ y) (Mut hw bm (.slice (some ⟨g, 0, none⟩) no cap) vl) p q := fun p q hpq =>
    hpq.move (by rw [World.size_setCell]; exact Nat.le_refl _) (fun b hlt hm => kS b (fun e => hm (.inr (.inr (.inl (by rw [e]; rfl)))))) (fun b hlt hm => hm)
  refine ⟨(kS hw (fun e => n2 (by rw [e]; rfl))).trans h.box, (kS bm (fun e => n3 (by rw [e]; rfl))).trans h.met, h.len, h.opn.setTop, h.lft.kept' fun g' hgv => kS g' (fun e => n6 g rfl (by rw [← e]; exact hgv)), by simp [hvl], fun i p q hp hq => ?_, h.hb⟩
  by_cases hi : i < ov.length
  · rw [List.getElem?_append_left hi] at hp
    rw [List.getElem?_append_left (by omega)] at hq
    exact hmv p q (h.vis i p q (by rw [List.getElem?_append_left hi]; exact hp) (by rw [List.getElem?_append_left (by omega)]; exact hq))
  · have hil : i = ov.length := by
      have := (List.getElem?_eq_some_iff.1 hp).1
      simp at this; omega
    subst hil
    rw [List.getElem?_append_right (Nat.le_refl _)] at hp
    rw [hvl, List.getElem?_append_right (Nat.le_refl _)] at hq
    simp at hp hq
    subst hp; subst hq
    exact hmv _ _ hy
/-- What is on top. -/
theorem WalkP.top (h : WalkP w base hw bm n fk fb fp fr fs m (os ++ [(b, nx)]) l vo vl ov) : ∃ ov0 A c g cap, ov = ov0 ++ [(b, .slice A nx.length c)] ∧ vo = .slice (some ⟨g, 0, none⟩) (ov0.length + 1) cap ∧ ov0.length = os.length ∧ ov0.length + 1 ≤ cap ∧ cap ≤ maxLen ∧
    base ≤ g ∧ g < w.heap.size ∧ w.cell? ⟨g, ov0.length * 2, none⟩ = some (.int .i64 b) ∧ w.cell? ⟨g, ov0.length * 2 + 1, none⟩ = some (.slice A nx.length c) ∧ w.frozen? ⟨g, ov0.length * 2 + 1, none⟩ = false ∧
    nx.length ≤ c ∧ c ≤ 2 ∧ Sl w w.heap.size .i64 A nx ∧ ∀ b o, A = some ⟨b, o, none⟩ → 0 < nx.length → ¬ Mut hw bm vo vl b := by
  have hvl := h.vlen
  simp only [List.length_append, List.length_singleton] at hvl
  obtain ⟨ov0, p, rfl⟩ : ∃ ov0 p, ov = ov0 ++ [p] := by
    refine ⟨ov.dropLast, ov.getLast (fun e => by rw [e] at hvl; simp at hvl), ?_⟩
    rw [List.dropLast_concat_getLast]
  have hl : ov0.length = os.length := by simp at hvl; exact hvl
  obtain ⟨h1, A, c, h2, h3, h4, h5, h6⟩ := h.vis ov0.length p (b, nx) (by simp) (by rw [hl]; simp)
  obtain ⟨p1, p2⟩ := p
  simp only at h1 h2
  subst h1
  subst h2
  obtain ⟨g, cap, rfl, q1, q2, q3, q4, q5, q6, q7⟩ := h.opn.top
  exact ⟨ov0, A, c, g, cap, rfl, rfl, hl, q1, q2, q3, q4, q5, q6, q7, h3, h4, h5, h6⟩
end
end Go.Proofs.Ytpggjolbohffjaa
