/- Own lists of structs in memory: things of sz cells each, laid by c. No condition. -/
import Derived.Test.YtkilfejcohnceaaPaRIi
import Derived.Deep.AppendLies
set_option linter.unusedSimpArgs false
set_option linter.unusedVariables false
namespace Go.Proofs.Ytkilfejcohnceaa
open Go.RowKit

/-- The slice value v is the call's own, from block base on, of things of type T: those of l. -/
def OwC {β : Type} (c : β → List Value) (T : TypeId) (sz : Nat) (w : World) (base : Nat) (v : Value) (l : List β) : Prop := w.ownsRow base T sz v l.length (l.flatMap c)
theorem flat_at {β : Type} {c : β → List Value} {sz : Nat} : ∀ (l : List β) (j i : Nat) (y : β), (∀ y ∈ l, (c y).length = sz) → l[j]? = some y → i < sz → (l.flatMap c)[j * sz + i]? = (c y)[i]?
  | [], j, i, y, _, h, _ => by simp at h
  | x :: l, 0, i, y, hc, h, hi => by
    simp at h
    subst h
    rw [List.flatMap_cons, Nat.zero_mul, Nat.zero_add, List.getElem?_append_left (by rw [hc x List.mem_cons_self]; exact hi)]
  | x :: l, j + 1, i, y, hc, h, hi => by
    have h1 := hc x List.mem_cons_self
    rw [List.flatMap_cons, List.getElem?_append_right (by rw [h1, Nat.succ_mul]; omega), h1, show (j + 1) * sz + i - sz = j * sz + i by rw [Nat.succ_mul]; omega]
    exact flat_at l j i y (fun y hy => hc y (List.mem_cons_of_mem _ hy)) (by simpa using h) hi
section
variable {β : Type} {c : β → List Value} {T : TypeId} {sz : Nat} {w w' : World} {base : Nat} {v : Value} {l : List β}
theorem OwC.nil (w : World) (base : Nat) : OwC c T sz w base (.slice none 0 0) [] := World.ownsRow_nil _ _ _ _
theorem OwC.kept (h : OwC c T sz w base v l) (hk : ∀ g, v.ownBlock = some g → w'.heap[g]? = w.heap[g]?) : OwC c T sz w' base v l := by
  refine ⟨h.1, ?_⟩
  rcases h.2 with h2 | ⟨g, cap, cur, hv, hg, hh, r⟩
  · exact .inl h2
  · exact .inr ⟨g, cap, cur, hv, hg, (hk g (by rw [hv]; rfl)).trans hh, r⟩
theorem OwC.lt (h : OwC c T sz w base v l) : ∀ k, v.ownBlock = some k → base ≤ k ∧ k < w.heap.size := World.ownsRow.lt h
theorem OwC.row (h : OwC c T sz w base v l) : ∀ g, v.ownBlock = some g → TB w T g := fun g hg => by
  rcases h.2 with ⟨rfl, -⟩ | ⟨g', cap, cur, rfl, -, hh, -⟩
  · cases hg
  · simp [Value.ownBlock] at hg
    subst hg
    exact ⟨cur, _, hh⟩
theorem OwC.sl (h : OwC c T sz w base v l) : ∃ A cp, v = .slice A l.length cp ∧ l.length ≤ cp ∧ cp ≤ maxLen := by
  rcases h.2 with ⟨rfl, h0⟩ | ⟨g, cap, cur, rfl, hg, hh, hnc, hcm, -⟩
  · exact ⟨none, 0, by rw [h0], by omega, by simp [maxLen]⟩
  · exact ⟨_, _, rfl, hnc, hcm⟩
/-- As a slice of the things that its cells hold. -/
theorem OwC.vec {α : Type} {P : Nat → Nat → α → Prop} {S : Nat → Prop} {xs : List α} (h : OwC c T sz w base v l) (hc : ∀ y ∈ l, (c y).length = sz) (hl : xs.length = l.length)
    (hS : ∀ b, v.ownBlock = some b → S b) (hP : ∀ (b o j : Nat) (x : α) (y : β), xs[j]? = some x → l[j]? = some y → (∀ (i : Nat) (u : Value), (c y)[i]? = some u → w.cell? ⟨b, o + i, none⟩ = some u) → P b o x) : Vec sz P S v xs := by
  have h0 := h
  rcases h.2 with ⟨rfl, e⟩ | ⟨g, cap, cur, rfl, hg, hh, hnc, hcm, hsz, htake⟩
  · have hx : xs = [] := List.eq_nil_of_length_eq_zero (by omega)
    subst hx
    exact Vec.nil _ _ _
  · refine ⟨some ⟨g, 0, none⟩, cap, by rw [hl], by omega, by simpa [maxLen] using hcm, fun hp => ⟨g, 0, rfl, hS g rfl, fun j x hx => ?_⟩⟩
    have hj : j < l.length := by rw [← hl]; exact (List.getElem?_eq_some_iff.1 hx).1
    obtain ⟨y, hy⟩ : ∃ y, l[j]? = some y := ⟨_, List.getElem?_eq_getElem hj⟩
    refine hP g _ j x y hx hy (fun i u hu => ?_)
    have hi : i < sz := by
      have := (List.getElem?_eq_some_iff.1 hu).1
      rw [hc y (List.mem_of_getElem? hy)] at this
      exact this
    have hlt : j * sz + i < l.length * sz := by
      have : (j + 1) * sz ≤ l.length * sz := Nat.mul_le_mul_right _ (by omega)
      rw [Nat.succ_mul] at this
      omega
    rw [Nat.zero_add, World.ownsRow.cellAt h0 _ hlt, flat_at l j i y hc hy hi]
    exact hu
end
theorem TB.keep {w w' : World} {T : TypeId} {b : Nat} (t : TB w T b) (h : w'.heap[b]? = w.heap[b]?) : TB w' T b := by
  obtain ⟨c, fz, e⟩ := t
  exact ⟨c, fz, h.trans e⟩
theorem TB.one {w : World} {T T' : TypeId} {b : Nat} (t : TB w T b) (t' : TB w T' b) : T = T' := by
  obtain ⟨c, fz, e⟩ := t
  obtain ⟨c', fz', e'⟩ := t'
  rw [e] at e'
  injection e' with e'
  injection e' with _ h _
theorem TB.lt {w : World} {T : TypeId} {b : Nat} (t : TB w T b) : b < w.heap.size := by
  obtain ⟨c, fz, e⟩ := t
  exact (Array.getElem?_eq_some_iff.1 e).1
theorem Box.tb {w : World} {h : Nat} {cs : Array Value} {T : TypeId} (b : Box w h cs T) : TB w T h := ⟨cs, _, b⟩
/-- A block of another type is not the own one's. -/
theorem OwC.apart {β : Type} {c : β → List Value} {T T' : TypeId} {sz : Nat} {w : World} {base b : Nat} {v : Value} {l : List β} (h : OwC c T sz w base v l) (t : TB w T' b) (hT : T ≠ T') : v.ownBlock ≠ some b := fun e => hT ((h.row b e).one t)
section
variable {w : World} {S : Nat → Prop} {base : Nat} {v : Value}
end
/-- What is finished: made since H, and none of the blocks under way (M). -/
def Fin' (w : World) (H : Nat) (M : Nat → Prop) (b : Nat) : Prop := H ≤ b ∧ b < w.heap.size ∧ ¬ M b
theorem Fin'.move {w w' : World} {H : Nat} {M M' : Nat → Prop} (hz : w.heap.size ≤ w'.heap.size) (hM : ∀ b, b < w.heap.size → M' b → M b) : ∀ b, Fin' w H M b → Fin' w' H M' b := fun b hb => ⟨hb.1, by have := hb.2.1; omega, fun hm => hb.2.2 (hM b hb.2.1 hm)⟩
/-- append(v, y) at a step of a region that draws its order, v the call's own, y laid in a block of its own. -/
theorem step_append_c {P : Program} {β : Type} {c : β → List Value} {T : TypeId} {sz : Nat} (w : World) {ops : Array Oper} {o : Oper} {a : Act} {K : Act → World → Prop} {Q : Exit → Act → World → Prop} {E : Prop} (hgd : o.guard = none) (s x : Operand) (t : TypeId)
    (ho : o.op = .call { callee := .builtin .append, args := #[s, x], argTypes := #[t, t] })
    (base : Nat) (i : TypeInfo) (z : Value) (bytes : Nat) (ht : P.underlying t = some (.slice T)) (hi : P.info? T = some i) (hz : i.zero = some z)
    (hsize : i.size = sz) (hby : i.bytes = bytes) (hzs : z.cells.size = sz) (hs0 : 0 < sz) (hb : bytes ≤ 1000)
    (v : Value) (l : List β) (hs : a.eval s = v) (hown : OwC c T sz w base v l) (y : β) (hy : (c y).length = sz) (h1 : ∀ u ∈ c y, u.oneCell' = true) (H : Nat) (cs : Array Value) (hH : Box w H cs T) (hcs : cs.toList = c y)
    (hx : a.eval x = .slice (some ⟨H, 0, none⟩) 1 1)
    (hroom : l.length < 1000000) (hbase : base ≤ w.heap.size)
    (h : ∀ g cap w', OwC c T sz w' base (.slice (some ⟨g, 0, none⟩) (l.length + 1) cap) (l ++ [y]) → w.grownBy w' v.ownBlock → (v.ownBlock = some g ∨ g = w.heap.size) → g < w'.heap.size → K (a.put o.dst (.slice (some ⟨g, 0, none⟩) (l.length + 1) cap)) w') :
    if Region.wanted o (yielded ops a.tmps) = true then Oper.wp P o a w K Q else E :=
  step_append_lies w hgd s x t ho base T i z sz bytes ht hi hz hsize hby hzs hs0 v l.length (l.flatMap c) hs hown ⟨H, 0, none⟩ 1 1 (c y) hx (by rw [hy, Nat.one_mul])
    (by rw [← hcs]; exact World.news_of_block hH) h1 (by omega) (by simp only [maxLen]; omega) (by
      have : (l.length + 1) * bytes ≤ 1000000 * 1000 := Nat.mul_le_mul (by omega) hb
      omega) hbase w.heap.size rfl
    fun g cap w' h2 h3 h4 h5 => h g cap w' (by unfold OwC; rw [List.flatMap_append, List.length_append, List.flatMap_cons, List.flatMap_nil, List.append_nil]; exact h2) h3 h4 h5
end Go.Proofs.Ytkilfejcohnceaa
