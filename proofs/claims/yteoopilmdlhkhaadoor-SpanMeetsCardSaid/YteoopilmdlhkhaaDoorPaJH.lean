/- Texts of several names, of which only what the statement needs is kept. -/
import Derived.Test.YteoopilmdlhkhaaDoorPaJF
import Derived.WalkSmall
/- Layer 11, the program: what live.begins holds in memory: the list of sets that it stores into, the lists that it reads, what is due. No condition. -/
set_option linter.unusedSimpArgs false
set_option linter.unusedVariables false
namespace Go.Proofs.YteoopilmdlhkhaaDoor
open Go.RowKit

/-- The block g: n sets, none of them in g or in a block of M. -/
structure LW (w : World) (g n : Nat) (us : Nat → Value) (σ : Nat → List Nat) (M : Nat → Prop) : Prop where
  box : ∃ cur : Array Value, Box w g cur 39 ∧ ∀ j, j < n → cur[j]? = some (us j)
  set : ∀ j, j < n → SetM w (fun b => b = g ∨ M b) (us j) (σ j)
section
variable {w w' : World} {g n : Nat} {us : Nat → Value} {σ : Nat → List Nat} {M M' : Nat → Prop}
theorem LW.of {base : Nat} {v : Value} {vs : List Value} {τ : List (List Nat)} (h : AW w base v vs τ) (hn : vs.length = n) (h0 : 0 < n) (hM : ∀ b, M b → b < base) :
    ∃ g cap, v = .slice (some ⟨g, 0, none⟩) n cap ∧ base ≤ g ∧ g < w.heap.size ∧ n ≤ cap ∧ cap ≤ maxLen ∧ LW w g n (fun j => vs.getD j (.slice none 0 0)) (fun j => τ.getD j []) M := by
  subst hn
  have hset := h.set
  rcases h.own.2 with ⟨-, e⟩ | ⟨g, cap, cur, rfl, hg, hh, hnc, hcm, hsz, htake⟩
  · omega
  · refine ⟨g, cap, rfl, hg, (Array.getElem?_eq_some_iff.1 hh).1, hnc, hcm, ⟨cur, hh, fun j hj => ?_⟩, fun j hj => ?_⟩
    · have h1 : (cur.toList.take (vs.length * 1))[j]? = cur.toList[j]? := List.getElem?_take_of_lt (by omega)
      rw [← Array.getElem?_toList, ← h1, htake]
      simp [List.getD, hj]
    · have h2 : vs[j]? = some (vs.getD j (.slice none 0 0)) := by simp [List.getD, hj]
      have h3 : τ[j]? = some (τ.getD j []) := by have := h.len; simp [List.getD, show j < τ.length by omega]
      exact (hset j _ _ h2 h3).keep (Nat.le_refl _) (fun _ _ _ => rfl) (fun b _ hb => by
        rcases hb with rfl | hb
        · exact .inl rfl
        · exact .inr (hM b hb))
theorem LW.lt (h : LW w g n us σ M) : g < w.heap.size := let ⟨_, h1, _⟩ := h.box; h1.lt
theorem LW.keep (h : LW w g n us σ M) (hz : w.heap.size ≤ w'.heap.size) (hg : w'.heap[g]? = w.heap[g]?) (hk : ∀ b, b < w.heap.size → ¬ (b = g ∨ M b) → w'.heap[b]? = w.heap[b]?) (hM : ∀ b, b < w.heap.size → M' b → M b) : LW w' g n us σ M' :=
  ⟨let ⟨cur, h1, h2⟩ := h.box; ⟨cur, hg.trans h1, h2⟩, fun j hj => (h.set j hj).keep hz hk (fun b hb e => e.imp id (hM b hb))⟩
theorem LW.below (h : LW w g n us σ M) (hb : Below w.heap.size w w') : LW w' g n us σ M := h.keep hb.size (hb.block g h.lt) (fun b hl _ => hb.block b hl) (fun _ _ h => h)
theorem LW.cell (h : LW w g n us σ M) {j : Nat} (hj : j < n) : ∃ A c, us j = .slice A (σ j).length c ∧ w.cell? ⟨g, j, none⟩ = some (.slice A (σ j).length c) ∧ w.frozen? ⟨g, j, none⟩ = false ∧ SetV w (.slice A (σ j).length c) (σ j) := by
  obtain ⟨cur, h1, h2⟩ := h.box
  have h3 := (h.set j hj).v
  obtain ⟨A, c, e, h4⟩ := h3
  obtain ⟨h5, h6⟩ := h1.cell j (h2 j hj)
  rw [e] at h5
  exact ⟨A, c, e, h5, h6, ⟨A, c, rfl, h4⟩⟩
theorem LW.store (h : LW w g n us σ M) {p : Nat} {u : Value} {s : List Nat} (hp : p < n) (hu : SetM w (fun b => b = g ∨ M b) u s) : LW (w.setCell ⟨g, p, none⟩ u) g n (fun x => if x = p then u else us x) (fun x => if x = p then s else σ x) M := by
  obtain ⟨cur, h1, h2⟩ := h.box
  have hk : ∀ b, b < w.heap.size → ¬ (b = g ∨ M b) → (w.setCell ⟨g, p, none⟩ u).heap[b]? = w.heap[b]? := fun b _ hn => heap_setCell_other w ⟨g, p, none⟩ b u (fun e => hn (.inl e))
  refine ⟨⟨cur.setIfInBounds p u, h1.set p u, fun j hj => ?_⟩, fun j hj => ?_⟩
  · rw [Array.getElem?_setIfInBounds]
    have hpc : p < cur.size := (Array.getElem?_eq_some_iff.1 (h2 p hp)).1
    by_cases e : p = j
    · subst e
      simp [hpc]
    · rw [if_neg e, if_neg (fun h => e h.symm)]
      exact h2 j hj
  · by_cases e : j = p
    · simp only [if_pos e]
      exact hu.keep (by rw [World.size_setCell]; exact Nat.le_refl _) hk (fun _ _ h => h)
    · simp only [if_neg e]
      exact (h.set j hj).keep (by rw [World.size_setCell]; exact Nat.le_refl _) hk (fun _ _ h => h)
theorem PV.read {base gl : Nat} {vs : Nat → Value} {zs : Nat → List Int} (h : PV w g base n vs zs) (hr : Read gl w w') (hg : gl < g) : PV w' g base n vs zs :=
  ⟨hr.box h.box (by omega), fun b hb => owKept (h.own b hb) fun k hk => by
    obtain ⟨h1, c, fz, h2⟩ := Ow.row (h.own b hb) k hk
    have := h.gb
    exact hr.block k (Array.getElem?_eq_some_iff.1 h2).1 (by omega), h.apart, h.gb⟩
/-- What is due, without its last one. -/
theorem Ow.pop {base g m cap : Nat} {zs : List Int} {z : Int} (h : Ow w base 3 .i64 (.slice (some ⟨g, 0, none⟩) (m + 1) cap) (zs ++ [z])) (hm : zs.length = m) : Ow w base 3 .i64 (.slice (some ⟨g, 0, none⟩) m cap) zs := by
  subst hm
  unfold Ow at h ⊢
  rw [List.length_append, List.map_append] at h
  exact ownsRow_pop (n := zs.length) (last := [z].map (Value.int .i64)) (by simp) (by simpa using h)
end
end Go.Proofs.YteoopilmdlhkhaaDoor

/- Layer 11, the program: what live.begins asks of sets, by values; what comes to a block. No condition. -/
set_option linter.unusedSimpArgs false
set_option linter.unusedVariables false
namespace Go.Proofs.YteoopilmdlhkhaaDoor
open Go.RowKit

theorem hasB_lessL {s t : List Nat} (hs : W64 s) (ht : W64 t) (v : Nat) : hasB (lessL s t) (v : Int) = (hasB s (v : Int) && !hasB t (v : Int)) := by
  rw [hasB_nat, hasB_nat, hasB_nat, lessL_getD, andN_bit (hs.getD _) (ht.getD _)]
theorem lessL_ok {s t : List Nat} (hs : SetOk s) (ht : SetOk t) : SetOk (lessL s t) := by
  refine ⟨?_, lessL_w64 hs.2⟩
  have h1 := neat_le (mapR (max s.length t.length) fun i => andN (s.getD i 0) (t.getD i 0))
  have h2 : (lessL s t).length ≤ max s.length t.length := by simpa [lessL, mapR] using h1
  have := hs.1
  have := ht.1
  omega
theorem ofL_ok (l : List Int) : SetOk (ofL l) := ⟨ofL_len l, ofL_w64 l⟩
/-- What comes from s past a list of instructions. -/
theorem more_has {s : List Nat} (hs : SetOk s) (l : List InsV) (v : Nat) : hasB (lessL s (ofL (setsL11 l))) (v : Int) = true ↔ (hasB s (v : Int) = true ∧ ¬ setB l v) := by
  rw [hasB_lessL hs.2 (ofL_w64 _), hasB_ofL, Bool.and_eq_true, Bool.not_eq_true', decide_eq_false_iff_not]
  constructor
  · rintro ⟨h1, h2⟩
    exact ⟨h1, fun h => h2 ⟨setsL11_mem.2 h, hasB_lt hs.1 h1⟩⟩
  · rintro ⟨h1, h2⟩
    exact ⟨h1, fun h => h2 (setsL11_mem.1 h.1)⟩
/-- Nothing of t lacks in s. -/
theorem less_none {s t : List Nat} (hs : SetOk s) (ht : SetOk t) : (lessL t s).length = 0 ↔ ∀ v : Nat, hasB t (v : Int) = true → hasB s (v : Int) = true := by
  constructor
  · intro h v hv
    cases h2 : hasB s (v : Int) with
    | true => rfl
    | false =>
      have h3 := hasB_lessL ht.2 hs.2 v
      rw [hv, h2, List.eq_nil_of_length_eq_zero h] at h3
      simp [hasB] at h3
  · intro h
    have e : lessL t s = [] := has_ext (neat_tidy _) tidy_nil (lessL_w64 ht.2) (fun x hx => by cases hx) fun v => by
      rw [hasB_lessL ht.2 hs.2]
      constructor
      · intro h1
        simp only [Bool.and_eq_true, Bool.not_eq_true'] at h1
        rw [h v h1.1] at h1
        cases h1.2
      · intro h1
        simp [hasB] at h1
    rw [e]; rfl
/-- One of t lacks in s. -/
theorem less_some {s t : List Nat} (hs : SetOk s) (ht : SetOk t) (h : ¬ (lessL t s).length = 0) : ∃ v : Nat, v < 4096 ∧ hasB t (v : Int) = true ∧ hasB s (v : Int) = false := by
  apply Classical.byContradiction
  intro hn
  exact h ((less_none hs ht).2 fun v hv => by
    cases h2 : hasB s (v : Int) with
    | true => rfl
    | false => exact absurd ⟨v, hasB_lt ht.1 hv, hv, h2⟩ hn)
theorem join_ok {s t : List Nat} (hs : SetOk s) (ht : SetOk t) : SetOk (joinL [s, t]) :=
  ⟨Nat.le_trans (joinL_lenM _) (maxLenL_le (by intro l hl; simp at hl; rcases hl with rfl | rfl; exact hs.1; exact ht.1)), joinL_w64 (by intro l hl; simp at hl; rcases hl with rfl | rfl; exact hs.2; exact ht.2)⟩
theorem join_has (s t : List Nat) (v : Nat) : hasB (joinL [s, t]) (v : Int) = true ↔ (hasB s (v : Int) = true ∨ hasB t (v : Int) = true) := by
  rw [hasB_join]
  simp
theorem lessV {w : World} {v u : Value} {s t : List Nat} (h : SetV w v s) (h' : SetV w u t) (hs : SetOk s) (ht : SetOk t) :
    Calls Tryd.prog 86 #[v, u] w fun e w' => ∃ A c, e = .returned (.slice A (lessL s t).length c) ∧ SetV w' (.slice A (lessL s t).length c) (lessL s t) ∧ Below w.heap.size w w' := by
  obtain ⟨A, c, rfl, h2, h3, h4⟩ := h
  obtain ⟨T, d, rfl, k2, k3, k4⟩ := h'
  exact (less_any A T s.length c t.length d s t w h4 k4 rfl rfl k2 k3 (by have := hs.1; omega) hs.2 ht.2).mono fun e w' ⟨A', c', he, h5, h6, h7, h8⟩ => ⟨A', c', he, ⟨A', c', rfl, h5, h6, h7⟩, h8⟩
theorem holdsV {w : World} {v u : Value} {s t : List Nat} (h : SetV w v s) (h' : SetV w u t) (hs : SetOk s) (ht : SetOk t) :
    Calls Tryd.prog 87 #[v, u] w fun e w' => e = .returned (.bool (decide ((lessL t s).length = 0))) ∧ Below w.heap.size w w' := by
  obtain ⟨A, c, rfl, h2, h3, h4⟩ := h
  obtain ⟨T, d, rfl, k2, k3, k4⟩ := h'
  exact holds_any A T s.length c t.length d s t w h4 k4 rfl rfl h2 h3 (by have := ht.1; omega) hs.2 ht.2
/-- Two sets that are listed at the call, joined. -/
theorem join2V {w : World} {A T : Option Addr} {n c m d : Nat} {s t : List Nat} (h : SetV w (.slice A n c) s) (h' : SetV w (.slice T m d) t) (hs : SetOk s) (ht : SetOk t) :
    Calls Tryd.prog 58 #[.slice (some ⟨w.heap.size, 0, none⟩) 2 2] (w.alloc (.cells #[.slice A n c, .slice T m d] 39)) fun e w' => ∃ A' c', e = .returned (.slice A' (joinL [s, t]).length c') ∧ WN w w' (.slice A' (joinL [s, t]).length c') (joinL [s, t]) ∧ Below w.heap.size w w' := by
  obtain ⟨A1, c1, e1, h2, h3, h4⟩ := h
  obtain ⟨T1, d1, e2, k2, k3, k4⟩ := h'
  cases e1
  cases e2
  refine (join_twoN A T s.length c t.length d s t w ⟨h4, hs.2, h2, h3⟩ ⟨k4, ht.2, k2, k3⟩ rfl rfl (by have := hs.1; omega) (by have := ht.1; omega)).mono fun e w' ⟨A', c', he, h5, h6, h7, h8, h9⟩ => ⟨A', c', he, ⟨A', c', rfl, h5, h6, h7, fun b o e => ?_⟩, ?_⟩
  · exact h9 b o e
  · exact h8
end Go.Proofs.YteoopilmdlhkhaaDoor
