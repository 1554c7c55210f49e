/- The contracts of the reference's SameIns, SameFunc, Same. No condition. -/
import Derived.Test.YtnoknodijombpaaDoorPhMB
import Derived.Test.YtnoknodijombpaaDoorPhMV
import Derived.Test.YtnoknodijombpaaDoorPhMD
import Derived.Test.YtnoknodijombpaaDoorPhMC
import Derived.Test.YtnoknodijombpaaDoorPhME
import Derived.StillTailTactics
set_option linter.unusedSimpArgs false
set_option linter.unusedVariables false
namespace Go.Proofs.YtnoknodijombpaaDoor
open Go.RowKit

end Go.Proofs.YtnoknodijombpaaDoor
namespace Go.Proofs.YtnoknodijombpaaDoor
open Go.RowKit

theorem partsN_not {op : Int} (h : ∀ j : Nat, 1 ≤ j → j ≤ 23 → op ≠ j) : partsN op = [] := by
  unfold partsN
  split
  · rfl
  · by_cases hj : op.toNat < 24
    · have h0 : op.toNat = 0 := by
        have := h op.toNat
        omega
      rw [h0]; rfl
    · rw [List.getD, List.getElem?_eq_none (show partsT.length ≤ op.toNat by show 24 ≤ _; omega)]; rfl
set_option maxRecDepth 100000 in
theorem rparts_any (op : Int) (w : World) :
    Calls Tryd.prog 33 #[.int .i64 op] w fun e w' => e = .returned (.string (strOf (partsN op))) ∧ w = w' := by
  by_cases hin : 1 ≤ op ∧ op ≤ 23
  · obtain ⟨h1, h2⟩ := hin
    obtain ⟨j, rfl⟩ : ∃ j : Nat, op = j := ⟨op.toNat, by omega⟩
    have hj : j = 1 ∨ j = 2 ∨ j = 3 ∨ j = 4 ∨ j = 5 ∨ j = 6 ∨ j = 7 ∨ j = 8 ∨ j = 9 ∨ j = 10 ∨ j = 11 ∨ j = 12 ∨ j = 13 ∨ j = 14 ∨ j = 15 ∨ j = 16 ∨ j = 17 ∨ j = 18 ∨ j = 19 ∨ j = 20 ∨ j = 21 ∨ j = 22 ∨ j = 23 := by omega
    clear h1 h2
    rcases hj with rfl | rfl | rfl | rfl | rfl | rfl | rfl | rfl | rfl | rfl | rfl | rfl | rfl | rfl | rfl | rfl | rfl | rfl | rfl | rfl | rfl | rfl | rfl
    all_goals
      go_enter Tryd.func33, Tryd.ntmps33
      go_wp2
      go_ret
      exact ⟨rfl, rfl⟩
  · have he := hide (show strOf (partsN op) = ⟨#[]⟩ by rw [partsN_not (fun j h1 h2 h => hin (by omega))]; rfl)
    have g : ∀ j : Int, 1 ≤ j → j ≤ 23 → (op == j) = false := fun j h1 h2 => by simp; omega
    have g1 := g 1 (by omega) (by omega); have g2 := g 2 (by omega) (by omega); have g3 := g 3 (by omega) (by omega); have g4 := g 4 (by omega) (by omega)
    have g5 := g 5 (by omega) (by omega); have g6 := g 6 (by omega) (by omega); have g7 := g 7 (by omega) (by omega); have g8 := g 8 (by omega) (by omega)
    have g9 := g 9 (by omega) (by omega); have g10 := g 10 (by omega) (by omega); have g11 := g 11 (by omega) (by omega); have g12 := g 12 (by omega) (by omega)
    have g13 := g 13 (by omega) (by omega); have g14 := g 14 (by omega) (by omega); have g15 := g 15 (by omega) (by omega); have g16 := g 16 (by omega) (by omega)
    have g17 := g 17 (by omega) (by omega); have g18 := g 18 (by omega) (by omega); have g19 := g 19 (by omega) (by omega); have g20 := g 20 (by omega) (by omega)
    have g21 := g 21 (by omega) (by omega); have g22 := g 22 (by omega) (by omega); have g23 := g 23 (by omega) (by omega)
    clear g hin
    go_enter Tryd.func33, Tryd.ntmps33
    go_wp2
    go_ret
    exact ⟨ret_str he.out.symm, rfl⟩

theorem Sl.other {w : World} {B g j : Nat} {A : Option Addr} {zs : List Int} {v : Value} (h : Sl w B .u8 A zs) (hg : ∀ a, A = some a → a.block ≠ g) : Sl (w.setCell ⟨g, j, none⟩ v) B .u8 A zs := fun hp => by
  obtain ⟨b, o, e, hb, hc⟩ := h hp
  refine ⟨b, o, e, hb, fun i hi => ?_⟩
  have hne : b ≠ g := hg _ e
  rw [← hc i hi]
  exact World.cell?_of_block (a := ⟨b, o + i, none⟩) (heap_setCell_other w ⟨g, j, none⟩ b v hne)
end Go.Proofs.YtnoknodijombpaaDoor
namespace Go.Proofs.YtnoknodijombpaaDoor
open Go.RowKit

end Go.Proofs.YtnoknodijombpaaDoor
namespace Go.Proofs.YtnoknodijombpaaDoor
open Go.RowKit

end Go.Proofs.YtnoknodijombpaaDoor
