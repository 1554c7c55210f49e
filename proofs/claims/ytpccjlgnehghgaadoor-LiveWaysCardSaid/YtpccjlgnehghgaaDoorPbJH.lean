/- Layer 11, the program: what live.begins asks of sets, by values; what comes to a block. No condition. -/
import Derived.Test.YtpccjlgnehghgaaDoorPbJG
set_option linter.unusedSimpArgs false
set_option linter.unusedVariables false
namespace Go.Proofs.YtpccjlgnehghgaaDoor
open Go.RowKit

theorem hasB_lessL {s t : List Nat} (hs : W64 s) (ht : W64 t) (v : Nat) : hasB (lessL s t) (v : Int) = (hasB s (v : Int) && !hasB t (v : Int)) := by
  rw [hasB_nat, hasB_nat, hasB_nat, lessL_getD, andN_bit (hs.getD _) (ht.getD _)]
theorem lessL_ok {s t : List Nat} (hs : SetOk s) (ht : SetOk t) : SetOk (lessL s t) := by
  refine ⟨?_, lessL_w64 hs.2⟩
  have h1 := neat_le (mapR (max s.length t.length) fun i => andN (s.getD i 0) (t.getD i 0))
  have h2 : (lessL s t).length ≤ max s.length t.length := by simpa [lessL, mapR] using h1
  have := hs.1
  have := ht.1
  omega
theorem ofL_ok (l : List Int) : SetOk (ofL l) := ⟨ofL_len l, ofL_w64 l⟩
/-- What comes from s past a list of instructions. -/
theorem more_has {s : List Nat} (hs : SetOk s) (l : List InsV) (v : Nat) : hasB (lessL s (ofL (setsL11 l))) (v : Int) = true ↔ (hasB s (v : Int) = true ∧ ¬ setB l v) := by
  rw [hasB_lessL hs.2 (ofL_w64 _), hasB_ofL, Bool.and_eq_true, Bool.not_eq_true', decide_eq_false_iff_not]
  constructor
  · rintro ⟨h1, h2⟩
    exact ⟨h1, fun h => h2 ⟨setsL11_mem.2 h, hasB_lt hs.1 h1⟩⟩
  · rintro ⟨h1, h2⟩
    exact ⟨h1, fun h => h2 (setsL11_mem.1 h.1)⟩
/-- Nothing of t lacks in s. -/
theorem less_none {s t : List Nat} (hs : SetOk s) (ht : SetOk t) : (lessL t s).length = 0 ↔ ∀ v : Nat, hasB t (v : Int) = true → hasB s (v : Int) = true := by
  constructor
  · intro h v hv
    cases h2 : hasB s (v : Int) with
    | true => rfl
    | false =>
      have h3 := hasB_lessL ht.2 hs.2 v
      rw [hv, h2, List.eq_nil_of_length_eq_zero h] at h3
      simp [hasB] at h3
  · intro h
    have e : lessL t s = [] := has_ext (neat_tidy _) tidy_nil (lessL_w64 ht.2) (fun x hx => by cases hx) fun v => by
      rw [hasB_lessL ht.2 hs.2]
      constructor
      · intro h1
        simp only [Bool.and_eq_true, Bool.not_eq_true'] at h1
        rw [h v h1.1] at h1
        cases h1.2
      · intro h1
        simp [hasB] at h1
    rw [e]; rfl
/-- One of t lacks in s. -/
theorem less_some {s t : List Nat} (hs : SetOk s) (ht : SetOk t) (h : ¬ (lessL t s).length = 0) : ∃ v : Nat, v < 4096 ∧ hasB t (v : Int) = true ∧ hasB s (v : Int) = false := by
  apply Classical.byContradiction
  intro hn
  exact h ((less_none hs ht).2 fun v hv => by
    cases h2 : hasB s (v : Int) with
    | true => rfl
    | false => exact absurd ⟨v, hasB_lt ht.1 hv, hv, h2⟩ hn)
theorem join_ok {s t : List Nat} (hs : SetOk s) (ht : SetOk t) : SetOk (joinL [s, t]) :=
  ⟨Nat.le_trans (joinL_lenM _) (maxLenL_le (by intro l hl; simp at hl; rcases hl with rfl | rfl; exact hs.1; exact ht.1)), joinL_w64 (by intro l hl; simp at hl; rcases hl with rfl | rfl; exact hs.2; exact ht.2)⟩
theorem join_has (s t : List Nat) (v : Nat) : hasB (joinL [s, t]) (v : Int) = true ↔ (hasB s (v : Int) = true ∨ hasB t (v : Int) = true) := by
  rw [hasB_join]
  simp
theorem lessV {w : World} {v u : Value} {s t : List Nat} (h : SetV w v s) (h' : SetV w u t) (hs : SetOk s) (ht : SetOk t) :
    Calls Tryd.prog 60 #[v, u] w fun e w' => ∃ A c, e = .returned (.slice A (lessL s t).length c) ∧ SetV w' (.slice A (lessL s t).length c) (lessL s t) ∧ Below w.heap.size w w' := by
  obtain ⟨A, c, rfl, h2, h3, h4⟩ := h
  obtain ⟨T, d, rfl, k2, k3, k4⟩ := h'
  exact (less_any A T s.length c t.length d s t w h4 k4 rfl rfl k2 k3 (by have := hs.1; omega) hs.2 ht.2).mono fun e w' ⟨A', c', he, h5, h6, h7, h8⟩ => ⟨A', c', he, ⟨A', c', rfl, h5, h6, h7⟩, h8⟩
theorem holdsV {w : World} {v u : Value} {s t : List Nat} (h : SetV w v s) (h' : SetV w u t) (hs : SetOk s) (ht : SetOk t) :
    Calls Tryd.prog 24 #[v, u] w fun e w' => e = .returned (.bool (decide ((lessL t s).length = 0))) ∧ Below w.heap.size w w' := by
  obtain ⟨A, c, rfl, h2, h3, h4⟩ := h
  obtain ⟨T, d, rfl, k2, k3, k4⟩ := h'
  exact holds_any A T s.length c t.length d s t w h4 k4 rfl rfl h2 h3 (by have := ht.1; omega) hs.2 ht.2
/-- Two sets that are listed at the call, joined. -/
theorem join2V {w : World} {A T : Option Addr} {n c m d : Nat} {s t : List Nat} (h : SetV w (.slice A n c) s) (h' : SetV w (.slice T m d) t) (hs : SetOk s) (ht : SetOk t) :
    Calls Tryd.prog 70 #[.slice (some ⟨w.heap.size, 0, none⟩) 2 2] (w.alloc (.cells #[.slice A n c, .slice T m d] 31)) fun e w' => ∃ A' c', e = .returned (.slice A' (joinL [s, t]).length c') ∧ WN w w' (.slice A' (joinL [s, t]).length c') (joinL [s, t]) ∧ Below w.heap.size w w' := by
  obtain ⟨A1, c1, e1, h2, h3, h4⟩ := h
  obtain ⟨T1, d1, e2, k2, k3, k4⟩ := h'
  cases e1
  cases e2
  refine (join_twoN A T s.length c t.length d s t w ⟨h4, hs.2, h2, h3⟩ ⟨k4, ht.2, k2, k3⟩ rfl rfl (by have := hs.1; omega) (by have := ht.1; omega)).mono fun e w' ⟨A', c', he, h5, h6, h7, h8, h9⟩ => ⟨A', c', he, ⟨A', c', rfl, h5, h6, h7, fun b o e => ?_⟩, ?_⟩
  · exact h9 b o e
  · exact h8
end Go.Proofs.YtpccjlgnehghgaaDoor
