/- Layer 16: own lists of spans; what a scan hands over. No condition. -/
import Derived.Test.YtojobajeffipdaaPcQH
import Derived.Test.YtojobajeffipdaaPcDB
import Derived.Test.YtojobajeffipdaaPcRDp
import Derived.Test.YtojobajeffipdaaPcHC
set_option linter.unusedSimpArgs false
set_option linter.unusedVariables false
namespace Go.Proofs.Ytojobajeffipdaa
open Go.RowKit

def spC (x : SpV) : List Value := [.int .i64 x.v, .int .i64 x.f, .int .i64 x.t, .bool x.c]
theorem SpsV.cells {w : World} {S : Nat → Prop} {A : Option Addr} {n c : Nat} {ss : List SpV} (h : SpsV w S (.slice A n c) ss) (h0 : 0 < ss.length) : ∃ b o, A = some ⟨b, o, none⟩ ∧ S b ∧ ∀ (j : Nat) (u : Value), (ss.flatMap spC)[j]? = some u → w.cell? ⟨b, o + j, none⟩ = some u := by
  obtain ⟨l, hl, -, hc⟩ := vec_cells (c := spC) (w := w) (fun _ => rfl) (fun p : SpV => p) (fun _ => True) (fun b o x _ ⟨⟨h0, h1, h2, h3⟩, _⟩ => ⟨x, rfl, trivial, fun i u hu => by
    have hi : i < 4 := (List.getElem?_eq_some_iff.1 hu).1
    rcases (show i = 0 ∨ i = 1 ∨ i = 2 ∨ i = 3 by omega) with rfl | rfl | rfl | rfl <;> simp [spC] at hu <;> subst hu <;> assumption⟩) h
  rw [List.map_id'] at hl
  subst hl
  exact hc h0
theorem ScanA.yes {w w' : World} {ss : List SpV} {regs : Int} {n : Nat} {e : Ending} (h : ScanA w ss regs n e w') (hin : rightB16 ss = true ∧ 0 ≤ regs ∧ regs ≤ 32) : ∃ g, e = .returned (.tuple #[.slice (some ⟨g, 0, none⟩) n n, .int .i64 0]) ∧ Box w' g (lcsA (scanL ss regs n)) 37 ∧ Below w.heap.size w w' := by
  obtain ⟨g, h1, h2, -⟩ := h.1.1 hin
  exact ⟨g, h1, h2, h.2⟩
theorem ScanA.no {w w' : World} {ss : List SpV} {regs : Int} {n : Nat} {e : Ending} (h : ScanA w ss regs n e w') (hin : ¬ (rightB16 ss = true ∧ 0 ≤ regs ∧ regs ≤ 32)) : e = .returned (.tuple #[.slice none 0 0, .int .i64 1]) ∧ Below w.heap.size w w' := ⟨h.1.2 hin, h.2⟩
/-- What is handed over of a scan that goes through: its list. -/
theorem scan_list {ss : List SpV} {regs : Int} {n : Nat} (hin : rightB16 ss = true ∧ 0 ≤ regs ∧ regs ≤ 32) (hn : ss.length = n) : n ≤ 48 ∧ LcOk (scanL ss regs n) ∧ (scanL ss regs n).length = n ∧ InvS ss regs n (scanL ss regs n) ∧ Dense (scanL ss regs n) := by
  have hok := okS_of hin.1
  have h := inv_all (regs := regs) hok n (by omega)
  have := hok.len
  exact ⟨by omega, lcOk_of h hin.2.2, by rw [h.len, hn], h, dense_all hok n (by omega)⟩
end Go.Proofs.Ytojobajeffipdaa
