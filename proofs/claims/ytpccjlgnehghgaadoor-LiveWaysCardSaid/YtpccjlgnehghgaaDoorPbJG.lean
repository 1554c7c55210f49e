/- Layer 11, the program: what live.begins holds in memory: the list of sets that it stores into, the lists that it reads, what is due. No condition. -/
import Derived.Test.YtpccjlgnehghgaaDoorPbJF
import Derived.WalkSmall
set_option linter.unusedSimpArgs false
set_option linter.unusedVariables false
namespace Go.Proofs.YtpccjlgnehghgaaDoor
open Go.RowKit

/-- The block g: n sets, none of them in g or in a block of M. -/
structure LW (w : World) (g n : Nat) (us : Nat → Value) (σ : Nat → List Nat) (M : Nat → Prop) : Prop where
  box : ∃ cur : Array Value, Box w g cur 31 ∧ ∀ j, j < n → cur[j]? = some (us j)
  set : ∀ j, j < n → SetM w (fun b => b = g ∨ M b) (us j) (σ j)
section
variable {w w' : World} {g n : Nat} {us : Nat → Value} {σ : Nat → List Nat} {M M' : Nat → Prop}
theorem LW.of {base : Nat} {v : Value} {vs : List Value} {τ : List (List Nat)} (h : AW w base v vs τ) (hn : vs.length = n) (h0 : 0 < n) (hM : ∀ b, M b → b < base) :
    ∃ g cap, v = .slice (some ⟨g, 0, none⟩) n cap ∧ base ≤ g ∧ g < w.heap.size ∧ n ≤ cap ∧ cap ≤ maxLen ∧ LW w g n (fun j => vs.getD j (.slice none 0 0)) (fun j => τ.getD j []) M := by
  subst hn
  have hset := h.set
  rcases h.own.2 with ⟨-, e⟩ | ⟨g, cap, cur, rfl, hg, hh, hnc, hcm, hsz, htake⟩
  · omega
  · refine ⟨g, cap, rfl, hg, (Array.getElem?_eq_some_iff.1 hh).1, hnc, hcm, ⟨cur, hh, fun j hj => ?_⟩, fun j hj => ?_⟩
    · have h1 : (cur.toList.take (vs.length * 1))[j]? = cur.toList[j]? := List.getElem?_take_of_lt (by omega)
      rw [← Array.getElem?_toList, ← h1, htake]
      simp [List.getD, hj]
    · have h2 : vs[j]? = some (vs.getD j (.slice none 0 0)) := by simp [List.getD, hj]
      have h3 : τ[j]? = some (τ.getD j []) := by have := h.len; simp [List.getD, show j < τ.length by omega]
      exact (hset j _ _ h2 h3).keep (Nat.le_refl _) (fun _ _ _ => rfl) (fun b _ hb => by
        rcases hb with rfl | hb
        · exact .inl rfl
        · exact .inr (hM b hb))
theorem LW.lt (h : LW w g n us σ M) : g < w.heap.size := let ⟨_, h1, _⟩ := h.box; h1.lt
theorem LW.keep (h : LW w g n us σ M) (hz : w.heap.size ≤ w'.heap.size) (hg : w'.heap[g]? = w.heap[g]?) (hk : ∀ b, b < w.heap.size → ¬ (b = g ∨ M b) → w'.heap[b]? = w.heap[b]?) (hM : ∀ b, b < w.heap.size → M' b → M b) : LW w' g n us σ M' :=
  ⟨let ⟨cur, h1, h2⟩ := h.box; ⟨cur, hg.trans h1, h2⟩, fun j hj => (h.set j hj).keep hz hk (fun b hb e => e.imp id (hM b hb))⟩
theorem LW.below (h : LW w g n us σ M) (hb : Below w.heap.size w w') : LW w' g n us σ M := h.keep hb.size (hb.block g h.lt) (fun b hl _ => hb.block b hl) (fun _ _ h => h)
theorem LW.cell (h : LW w g n us σ M) {j : Nat} (hj : j < n) : ∃ A c, us j = .slice A (σ j).length c ∧ w.cell? ⟨g, j, none⟩ = some (.slice A (σ j).length c) ∧ w.frozen? ⟨g, j, none⟩ = false ∧ SetV w (.slice A (σ j).length c) (σ j) := by
  obtain ⟨cur, h1, h2⟩ := h.box
  have h3 := (h.set j hj).v
  obtain ⟨A, c, e, h4⟩ := h3
  obtain ⟨h5, h6⟩ := h1.cell j (h2 j hj)
  rw [e] at h5
  exact ⟨A, c, e, h5, h6, ⟨A, c, rfl, h4⟩⟩
theorem LW.store (h : LW w g n us σ M) {p : Nat} {u : Value} {s : List Nat} (hp : p < n) (hu : SetM w (fun b => b = g ∨ M b) u s) : LW (w.setCell ⟨g, p, none⟩ u) g n (fun x => if x = p then u else us x) (fun x => if x = p then s else σ x) M := by
  obtain ⟨cur, h1, h2⟩ := h.box
  have hk : ∀ b, b < w.heap.size → ¬ (b = g ∨ M b) → (w.setCell ⟨g, p, none⟩ u).heap[b]? = w.heap[b]? := fun b _ hn => heap_setCell_other w ⟨g, p, none⟩ b u (fun e => hn (.inl e))
  refine ⟨⟨cur.setIfInBounds p u, h1.set p u, fun j hj => ?_⟩, fun j hj => ?_⟩
  · rw [Array.getElem?_setIfInBounds]
    have hpc : p < cur.size := (Array.getElem?_eq_some_iff.1 (h2 p hp)).1
    by_cases e : p = j
    · subst e
      simp [hpc]
    · rw [if_neg e, if_neg (fun h => e h.symm)]
      exact h2 j hj
  · by_cases e : j = p
    · simp only [if_pos e]
      exact hu.keep (by rw [World.size_setCell]; exact Nat.le_refl _) hk (fun _ _ h => h)
    · simp only [if_neg e]
      exact (h.set j hj).keep (by rw [World.size_setCell]; exact Nat.le_refl _) hk (fun _ _ h => h)
theorem PV.read {base gl : Nat} {vs : Nat → Value} {zs : Nat → List Int} (h : PV w g base n vs zs) (hr : Read gl w w') (hg : gl < g) : PV w' g base n vs zs :=
  ⟨hr.box h.box (by omega), fun b hb => owKept (h.own b hb) fun k hk => by
    obtain ⟨h1, c, fz, h2⟩ := Ow.row (h.own b hb) k hk
    have := h.gb
    exact hr.block k (Array.getElem?_eq_some_iff.1 h2).1 (by omega), h.apart, h.gb⟩
/-- What is due, without its last one. -/
theorem Ow.pop {base g m cap : Nat} {zs : List Int} {z : Int} (h : Ow w base 3 .i64 (.slice (some ⟨g, 0, none⟩) (m + 1) cap) (zs ++ [z])) (hm : zs.length = m) : Ow w base 3 .i64 (.slice (some ⟨g, 0, none⟩) m cap) zs := by
  subst hm
  unfold Ow at h ⊢
  rw [List.length_append, List.map_append] at h
  exact ownsRow_pop (n := zs.length) (last := [z].map (Value.int .i64)) (by simp) (by simpa using h)
end
end Go.Proofs.YtpccjlgnehghgaaDoor
