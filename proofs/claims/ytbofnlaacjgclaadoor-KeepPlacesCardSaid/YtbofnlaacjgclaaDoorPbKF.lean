/- Texts of several names, of which only what the statement needs is kept. -/
import Derived.Test.YtbofnlaacjgclaaDoorPbKA
import Derived.Test.YtbofnlaacjgclaaDoorPbNQ
/- Layer 8, the program: contracts of Step, behind, through, meet, same, arguments, Contains. Condition: the table of parts reads as listed. -/
set_option linter.unusedSimpArgs false
set_option linter.unusedVariables false
namespace Go.Proofs.YtbofnlaacjgclaaDoor
open Go.RowKit

/-- A set that a call has made, as a value: in a block of its own. -/
def WN (W w' : World) (v : Value) (s : List Nat) : Prop := ∃ A c, v = .slice A s.length c ∧ s.length ≤ c ∧ c ≤ 9223372036854775807 ∧ Sl w' w'.heap.size .u64 A (nI s) ∧ ∀ b o, A = some ⟨b, o, none⟩ → W.heap.size ≤ b
theorem WN.below {W w w1 : World} {v : Value} {s : List Nat} (h : WN W w v s) (hb : Below w.heap.size w w1) : WN W w1 v s := by
  obtain ⟨A, c, h1, h2, h3, h4, h5⟩ := h
  exact ⟨A, c, h1, h2, h3, (h4.below hb).more hb.size, h5⟩
theorem WN.lower {W W0 w : World} {v : Value} {s : List Nat} (h : WN W w v s) (hb : W0.heap.size ≤ W.heap.size) : WN W0 w v s := by
  obtain ⟨A, c, h1, h2, h3, h4, h5⟩ := h
  exact ⟨A, c, h1, h2, h3, h4, fun b o e => Nat.le_trans hb (h5 b o e)⟩
theorem MadeN.wn {W : World} {r : List Nat} {e : Ending} {w' : World} (h : MadeN W r e w') : ∃ v, e = .returned v ∧ WN W w' v r ∧ Below W.heap.size W w' := by
  obtain ⟨A, c, h1, h2, h3, h4, h5, h6⟩ := h
  exact ⟨_, h1, ⟨A, c, rfl, h2, h3, h4, h6⟩, h5⟩
/-- A set in memory, as a value. -/
def SetV (w : World) (v : Value) (s : List Nat) : Prop := ∃ A c, v = .slice A s.length c ∧ s.length ≤ c ∧ c ≤ 9223372036854775807 ∧ Sl w w.heap.size .u64 A (nI s)
theorem WN.ws {W w : World} {v : Value} {s : List Nat} (h : WN W w v s) : SetV w v s := let ⟨A, c, h1, h2, h3, h4, _⟩ := h; ⟨A, c, h1, h2, h3, h4⟩
theorem SetV.below {w w1 : World} {v : Value} {s : List Nat} (h : SetV w v s) (hb : Below w.heap.size w w1) : SetV w1 v s := by
  obtain ⟨A, c, h1, h2, h3, h4⟩ := h
  exact ⟨A, c, h1, h2, h3, (h4.below hb).more hb.size⟩
theorem withV {w : World} {v : Value} {s : List Nat} (h : SetV w v s) (hl : s.length ≤ 1000) (hw : W64 s) (T : Option Addr) (m d : Nat) (l : List Int) (hr : Sl w w.heap.size .i64 T l) (hm : l.length = m) (hm2 : m ≤ 1099511627776) (hR : ∀ z ∈ l, i64R z) :
    Calls Tryd.prog 69 #[v, .slice T m d] w fun e w' => ∃ r, e = .returned r ∧ WN w w' r (joinL [s, ofL l]) ∧ Below w.heap.size w w' := by
  obtain ⟨A, c, rfl, h2, h3, h4⟩ := h
  exact (with_anyN A T s.length c m d s l w ⟨h4, hw, h2, h3⟩ rfl (by omega) hr hm hm2 (fun z hz => hR z hz)).mono fun _ _ h => h.wn
theorem withoutV {w : World} {v : Value} {s : List Nat} (h : SetV w v s) (hl : s.length ≤ 1000) (hw : W64 s) (T : Option Addr) (m d : Nat) (l : List Int) (hr : Sl w w.heap.size .i64 T l) (hm : l.length = m) (hm2 : m ≤ 1099511627776) (hR : ∀ z ∈ l, i64R z) :
    Calls Tryd.prog 49 #[v, .slice T m d] w fun e w' => ∃ r, e = .returned r ∧ WN w w' r (withoutL s l) ∧ Below w.heap.size w w' := by
  obtain ⟨A, c, rfl, h2, h3, h4⟩ := h
  exact (without_anyN A T s.length c m d s l w h4 rfl (by omega) hw hr hm hm2 (fun z hz => hR z hz)).mono fun _ _ h => h.wn
theorem hasV {w : World} {v : Value} {s : List Nat} (h : SetV w v s) (hl : s.length ≤ 1000) (hw : W64 s) (m : Int) (hR : i64R m) :
    Calls Tryd.prog 33 #[v, .int .i64 m] w fun e w' => e = .returned (.bool (hasB s m)) ∧ ∃ q, w' = w.drewN q := by
  obtain ⟨A, c, rfl, h2, h3, h4⟩ := h
  exact has_any A s.length c s m w _ h4 rfl (by omega) hw hR
theorem Sl.one (w : World) (H : Nat) (z : Int) (hH : H = w.heap.size) (w' : World) (hw : w' = w.alloc (.cells #[.int .i64 z] 3)) : Sl w' w'.heap.size .i64 (some ⟨H, 0, none⟩) [z] := by
  subst hH
  subst hw
  exact Sl.lit' w 3 .i64 #[.int .i64 z] [z] rfl
end Go.Proofs.YtbofnlaacjgclaaDoor

/- Layer 8, the program: contracts of behind, through, meet, same, arguments, Contains. Condition: the table of parts reads as listed. -/
set_option linter.unusedSimpArgs false
set_option linter.unusedVariables false
namespace Go.Proofs.YtbofnlaacjgclaaDoor
open Go.RowKit

/-- A set in memory, in none of the blocks that are written. -/
def SetM (w : World) (M : Nat → Prop) (v : Value) (s : List Nat) : Prop := ∃ A c, v = .slice A s.length c ∧ s.length ≤ c ∧ c ≤ 9223372036854775807 ∧ Sl w w.heap.size .u64 A (nI s) ∧ ∀ b o, A = some ⟨b, o, none⟩ → 0 < s.length → ¬ M b
theorem SetM.v {w : World} {M : Nat → Prop} {v : Value} {s : List Nat} (h : SetM w M v s) : SetV w v s := let ⟨A, c, h1, h2, h3, h4, _⟩ := h; ⟨A, c, h1, h2, h3, h4⟩
theorem SetM.below {w w1 : World} {M : Nat → Prop} {v : Value} {s : List Nat} (h : SetM w M v s) (hb : Below w.heap.size w w1) : SetM w1 M v s := by
  obtain ⟨A, c, h1, h2, h3, h4, h5⟩ := h
  exact ⟨A, c, h1, h2, h3, (h4.below hb).more hb.size, h5⟩
theorem WN.setM {W w : World} {v : Value} {s : List Nat} (h : WN W w v s) {M : Nat → Prop} (hM : ∀ b, M b → b < W.heap.size) : SetM w M v s := by
  obtain ⟨A, c, h1, h2, h3, h4, h5⟩ := h
  exact ⟨A, c, h1, h2, h3, h4, fun b o e _ hm => by have := h5 b o e; have := hM b hm; omega⟩
theorem SetM.nil (w : World) (M : Nat → Prop) : SetM w M (.slice none 0 0) [] := ⟨none, 0, rfl, Nat.le_refl _, by omega, Sl.nil _ _ _ _, fun _ _ _ h => absurd h (by simp)⟩
/-- All blocks but those of M are as they were. -/
theorem SetM.keep {w w1 : World} {M M' : Nat → Prop} {v : Value} {s : List Nat} (h : SetM w M v s) (hz : w.heap.size ≤ w1.heap.size) (hk : ∀ b, b < w.heap.size → ¬ M b → w1.heap[b]? = w.heap[b]?) (hM : ∀ b, b < w.heap.size → M' b → M b) : SetM w1 M' v s := by
  obtain ⟨A, c, h1, h2, h3, h4, h5⟩ := h
  refine ⟨A, c, h1, h2, h3, fun hp => ?_, fun b o e hl hm => ?_⟩
  · obtain ⟨b, o, e, hb, hc⟩ := h4 hp
    exact ⟨b, o, e, by omega, fun j hj => (World.cell?_of_block (a := ⟨b, o + j, none⟩) (hk b hb (h5 b o e (by rwa [nI_len] at hp)))).trans (hc j hj)⟩
  · obtain ⟨b', o', e', hb, hc⟩ := h4 (by rw [nI_len]; exact hl)
    rw [e] at e'
    cases e'
    exact h5 b o e hl (hM b hb hm)
end Go.Proofs.YtbofnlaacjgclaaDoor
