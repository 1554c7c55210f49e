/- The contract of the statements' fixed fact. Condition: the table of parts reads as listed. -/
import Derived.Test.YtjlndibeaklcdaaMD
import Derived.Test.YtjlndibeaklcdaaMC
import Derived.Test.YtjlndibeaklcdaaME
set_option linter.unusedSimpArgs false
set_option linter.unusedVariables false
namespace Go.Proofs.Ytjlndibeaklcdaa
open Go.RowKit

def P0 : FunV := ⟨[0], [-1], 0, 0, [[⟨1, 0, 0, 0, 5, 0, []⟩, ⟨23, 0, 0, 0, 0, 0, []⟩]]⟩
theorem dec_a : decR [1, 1, 0, 0, 0, 1, 2, 1, 0, 10, 23, 0] = ([P0], 0) := by decide +kernel
theorem dec_b : decR [0] = ([], 9) := by decide +kernel
theorem enc_a : encR [P0] = ([1, 1, 0, 0, 0, 1, 2, 1, 0, 10, 23, 0], 0) := by
  have h := dec_enc (zs := [1, 1, 0, 0, 0, 1, 2, 1, 0, 10, 23, 0]) (by unfold Byt; simp) (by rw [dec_a])
  rwa [dec_a] at h

/-- What is seen of the fixed program. -/
theorem see_P0 {w : World} {B : Nat} {A : Option Addr} {n c : Nat} (h : FunsV w (· < B) (.slice A n c) [P0]) :
    ∃ b o b2 o2 b3 o3 cs c3, A = some ⟨b, o, none⟩ ∧ n = 1 ∧ (b < B ∧ b2 < B ∧ b3 < B) ∧ w.cell? ⟨b, o + 4, none⟩ = some (.slice (some ⟨b2, o2, none⟩) 1 cs) ∧ w.cell? ⟨b2, o2, none⟩ = some (.slice (some ⟨b3, o3, none⟩) 2 c3) ∧ w.cell? ⟨b3, o3 + 4, none⟩ = some (.int .i64 5) := by
  have hn : n = 1 := by
    obtain ⟨A', c', e, -⟩ := h
    injection e with _ e1 _
  obtain ⟨b, o, Ak, ck, Ab, cb, As, cs, rfl, hb, ⟨-, -, -, -, e4⟩, hi⟩ := h.get (k := 0) (y := P0) rfl
  obtain ⟨b2, o2, A2, c2, rfl, hb2, e5, hi2⟩ := hi.2.2.1.get (k := 0) (y := [⟨1, 0, 0, 0, 5, 0, []⟩, ⟨23, 0, 0, 0, 0, 0, []⟩]) rfl
  obtain ⟨b3, o3, A3, c3, rfl, hb3, ⟨-, -, -, -, e6, -, -⟩, -⟩ := hi2.get (k := 0) (y := ⟨1, 0, 0, 0, 5, 0, []⟩) rfl
  refine ⟨b, o, b2, o2, b3, o3, cs, c2, rfl, hn, ⟨hb, hb2, hb3⟩, ?_, ?_, ?_⟩
  · simpa [P0] using e4
  · simpa using e5
  · simpa using e6

end Go.Proofs.Ytjlndibeaklcdaa
