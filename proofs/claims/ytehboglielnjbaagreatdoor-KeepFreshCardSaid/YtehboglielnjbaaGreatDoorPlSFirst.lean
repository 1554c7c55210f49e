/- Texts of several names, of which only what the statement needs is kept. -/
import Derived.Test.YtehboglielnjbaaGreatDoorPlMD
import Derived.Test.YtehboglielnjbaaGreatDoorPlMC
import Derived.Test.YtehboglielnjbaaGreatDoorPlMB
import Derived.Test.YtehboglielnjbaaGreatDoorPlSAlive
import Derived.StillTailTactics
/- Plain mathematics: what is read has just those bytes (programs); an error stays. No condition. -/
set_option linter.unusedSimpArgs false
set_option linter.unusedVariables false
namespace Go.Proofs.YtehboglielnjbaaGreatDoor
open Go.RowKit

/-- Behind an error nothing is read. -/
def Stk {α : Type} (T : St → α × St) : Prop := ∀ s, s.2 ≠ 0 → (T s).2 = s
theorem Stk.ok {α : Type} {T : St → α × St} (h : Stk T) {s : St} (he : (T s).2.2 = 0) : s.2 = 0 := by
  by_cases hs : s.2 = 0
  · exact hs
  · rw [h s hs] at he; exact absurd he hs

end Go.Proofs.YtehboglielnjbaaGreatDoor
namespace Go.Proofs.YtehboglielnjbaaGreatDoor
open Go.RowKit

end Go.Proofs.YtehboglielnjbaaGreatDoor
namespace Go.Proofs.YtehboglielnjbaaGreatDoor
open Go.RowKit

end Go.Proofs.YtehboglielnjbaaGreatDoor
namespace Go.Proofs.YtehboglielnjbaaGreatDoor
open Go.RowKit

end Go.Proofs.YtehboglielnjbaaGreatDoor

/- The contracts of the reference's SameIns, SameFunc, Same. No condition. -/
set_option linter.unusedSimpArgs false
set_option linter.unusedVariables false
namespace Go.Proofs.YtehboglielnjbaaGreatDoor
open Go.RowKit

theorem rints_any (va vb : Value) (xs ys : List Int) (w : World) (B : Nat) (hx : IntsV w (· < B) va xs) (hy : IntsV w (· < B) vb ys) :
    Calls Tryz.prog 16 #[va, vb] w fun e w' => e = .returned (.bool (decide (xs = ys))) ∧ ∃ q, w' = w.drewN q := by
  obtain ⟨A, c, rfl, h1, h2, h3, -⟩ := hx.sl
  obtain ⟨A', c', rfl, h1', h2', h3', -⟩ := hy.sl
  exact ints_any A A' _ _ c c' xs ys w B B h3 h3' rfl rfl (by omega) (by omega)

end Go.Proofs.YtehboglielnjbaaGreatDoor
namespace Go.Proofs.YtehboglielnjbaaGreatDoor
open Go.RowKit

theorem partsN_not {op : Int} (h : ∀ j : Nat, 1 ≤ j → j ≤ 23 → op ≠ j) : partsN op = [] := by
  unfold partsN
  split
  · rfl
  · by_cases hj : op.toNat < 24
    · have h0 : op.toNat = 0 := by
        have := h op.toNat
        omega
      rw [h0]; rfl
    · rw [List.getD, List.getElem?_eq_none (show partsT.length ≤ op.toNat by show 24 ≤ _; omega)]; rfl
set_option maxRecDepth 100000 in
theorem rparts_any (op : Int) (w : World) :
    Calls Tryz.prog 72 #[.int .i64 op] w fun e w' => e = .returned (.string (strOf (partsN op))) ∧ w = w' := by
  by_cases hin : 1 ≤ op ∧ op ≤ 23
  · obtain ⟨h1, h2⟩ := hin
    obtain ⟨j, rfl⟩ : ∃ j : Nat, op = j := ⟨op.toNat, by omega⟩
    have hj : j = 1 ∨ j = 2 ∨ j = 3 ∨ j = 4 ∨ j = 5 ∨ j = 6 ∨ j = 7 ∨ j = 8 ∨ j = 9 ∨ j = 10 ∨ j = 11 ∨ j = 12 ∨ j = 13 ∨ j = 14 ∨ j = 15 ∨ j = 16 ∨ j = 17 ∨ j = 18 ∨ j = 19 ∨ j = 20 ∨ j = 21 ∨ j = 22 ∨ j = 23 := by omega
    clear h1 h2
    rcases hj with rfl | rfl | rfl | rfl | rfl | rfl | rfl | rfl | rfl | rfl | rfl | rfl | rfl | rfl | rfl | rfl | rfl | rfl | rfl | rfl | rfl | rfl | rfl
    all_goals
      go_enter Tryz.func72, Tryz.ntmps72
      go_wp2
      go_ret
      exact ⟨rfl, rfl⟩
  · have he := hide (show strOf (partsN op) = ⟨#[]⟩ by rw [partsN_not (fun j h1 h2 h => hin (by omega))]; rfl)
    have g : ∀ j : Int, 1 ≤ j → j ≤ 23 → (op == j) = false := fun j h1 h2 => by simp; omega
    have g1 := g 1 (by omega) (by omega); have g2 := g 2 (by omega) (by omega); have g3 := g 3 (by omega) (by omega); have g4 := g 4 (by omega) (by omega)
    have g5 := g 5 (by omega) (by omega); have g6 := g 6 (by omega) (by omega); have g7 := g 7 (by omega) (by omega); have g8 := g 8 (by omega) (by omega)
    have g9 := g 9 (by omega) (by omega); have g10 := g 10 (by omega) (by omega); have g11 := g 11 (by omega) (by omega); have g12 := g 12 (by omega) (by omega)
    have g13 := g 13 (by omega) (by omega); have g14 := g 14 (by omega) (by omega); have g15 := g 15 (by omega) (by omega); have g16 := g 16 (by omega) (by omega)
    have g17 := g 17 (by omega) (by omega); have g18 := g 18 (by omega) (by omega); have g19 := g 19 (by omega) (by omega); have g20 := g 20 (by omega) (by omega)
    have g21 := g 21 (by omega) (by omega); have g22 := g 22 (by omega) (by omega); have g23 := g 23 (by omega) (by omega)
    clear g hin
    go_enter Tryz.func72, Tryz.ntmps72
    go_wp2
    go_ret
    exact ⟨ret_str he.out.symm, rfl⟩

theorem Sl.other {w : World} {B g j : Nat} {A : Option Addr} {zs : List Int} {v : Value} (h : Sl w B .u8 A zs) (hg : ∀ a, A = some a → a.block ≠ g) : Sl (w.setCell ⟨g, j, none⟩ v) B .u8 A zs := fun hp => by
  obtain ⟨b, o, e, hb, hc⟩ := h hp
  refine ⟨b, o, e, hb, fun i hi => ?_⟩
  have hne : b ≠ g := hg _ e
  rw [← hc i hi]
  exact World.cell?_of_block (a := ⟨b, o + i, none⟩) (heap_setCell_other w ⟨g, j, none⟩ b v hne)
end Go.Proofs.YtehboglielnjbaaGreatDoor
namespace Go.Proofs.YtehboglielnjbaaGreatDoor
open Go.RowKit

end Go.Proofs.YtehboglielnjbaaGreatDoor
namespace Go.Proofs.YtehboglielnjbaaGreatDoor
open Go.RowKit

end Go.Proofs.YtehboglielnjbaaGreatDoor

/- Plain mathematics: what a program that may be has. No condition. -/
set_option linter.unusedSimpArgs false
set_option linter.unusedVariables false
namespace Go.Proofs.YtehboglielnjbaaGreatDoor
open Go.RowKit

theorem inB_iff {lo hi n : Int} : inB lo hi n = true ↔ lo ≤ n ∧ n ≤ hi := by unfold inB; simp
theorem prog_parts {p : List FunV} (h : progB4 p = true) : 1 ≤ p.length ∧ p.length ≤ 8 ∧ beginOk p = true ∧ ∀ f ∈ p, funOkB p f = true := by
  unfold progB4 at h
  simp only [Bool.and_eq_true, List.all_eq_true, inB_iff] at h
  exact ⟨by omega, by omega, h.2.1, h.2.2⟩
theorem fun_parts {p : List FunV} {f : FunV} (h : funOkB p f = true) : (f.base.length = f.kinds.length ∧ f.kinds.length ≤ 48 ∧ ∀ kb ∈ f.kinds.zip f.base, baseB4 f.kinds kb.1 kb.2 = true) ∧ (0 ≤ f.params ∧ f.params ≤ 4 ∧ f.params ≤ f.kinds.length) ∧ valB f.result = true ∧
    (1 ≤ f.blocks.length ∧ f.blocks.length ≤ 40 ∧ ∀ b ∈ f.blocks, 1 ≤ b.length ∧ b.length ≤ 40 ∧ endsB b = true) ∧ ∀ b ∈ f.blocks, ∀ x ∈ b, mayB4 p f x = true := by
  unfold funOkB funB4 varsB4 paramsB4 blocksB4 blockB4 at h
  simp only [Bool.and_eq_true, List.all_eq_true, inB_iff, decide_eq_true_eq] at h
  obtain ⟨⟨⟨⟨h1, h2⟩, h3⟩, ⟨h4, -⟩, h5, h6, h7⟩, h8⟩ := h
  exact ⟨⟨h1, h2, h3⟩, ⟨by omega, by omega, by omega⟩, h5, ⟨by omega, by omega, fun b hb => ⟨by have := (h7 b hb).1; omega, by have := (h7 b hb).1; omega, (h7 b hb).2⟩⟩, h8⟩
theorem may_parts {p : List FunV} {f : FunV} {x : InsV} (h : mayB4 p f x = true) : partsN x.op ≠ [] ∧ onlyB4 x = true ∧ (hasB4 x.op 68 = true → inVar f x.d = true) ∧ (∀ v ∈ usesL x, inVar f v = true) ∧ numsB p f x = true := by
  unfold mayB4 varsInB at h
  simp only [Bool.and_eq_true, List.all_eq_true, Bool.or_eq_true, Bool.not_eq_true'] at h
  obtain ⟨h1, h2, ⟨h3, h4⟩, h5⟩ := h
  refine ⟨(fun h0 => by rw [h0] at h1; cases h1), h2, fun hd => ?_, h4, h5⟩
  rcases h3 with h3 | h3
  · rw [h3] at hd; cases hd
  · exact h3
theorem inVar_nn {f : FunV} {v : Int} (h : inVar f v = true) : 0 ≤ v ∧ v < f.kinds.length := by
  unfold inVar at h; rw [inB_iff] at h; omega
theorem inBlk_nn {f : FunV} {v : Int} (h : inBlk f v = true) : 1 ≤ v ∧ v < f.blocks.length := by
  unfold inBlk at h; rw [inB_iff] at h; omega
theorem op_range {op : Int} (h : partsN op ≠ []) : 1 ≤ op ∧ op ≤ 23 := by
  apply Classical.byContradiction
  intro hn
  exact h (partsN_not (fun j h1 h2 hj => hn (by omega)))
end Go.Proofs.YtehboglielnjbaaGreatDoor

/- The statement ShapeFirst, walked: it answers true. Conditions: the table of parts reads as listed; no slice of the program is longer than any machine's memory. -/
set_option linter.unusedSimpArgs false
set_option linter.unusedVariables false
namespace Go.Proofs.YtehboglielnjbaaGreatDoor
open Go.RowKit

theorem next_blk {p : List FunV} {f : FunV} {x : InsV} (h : mayB4 p f x = true) : ∀ v ∈ nextL x, 1 ≤ v ∧ v < f.blocks.length := by
  obtain ⟨-, -, -, -, hn⟩ := may_parts h
  unfold numsB at hn
  unfold nextL
  intro v hv
  by_cases h21 : x.op = 21
  · simp [h21] at hn hv
    subst hv
    exact inBlk_nn hn
  · by_cases h22 : x.op = 22
    · simp [h22] at hn hv
      have h1 := inBlk_nn hn.1
      have h2 := inBlk_nn hn.2
      split at hv
      · simp at hv; subst hv; exact h1
      · simp at hv; omega
    · simp [h21, h22] at hv
theorem two_chk (p : List FunV) : (chkN4 p = 0 ∧ progB4 p = true) ∨ chkN4 p = 5 := by
  unfold chkN4
  by_cases h : progB4 p = true
  · left; rw [if_pos h]; exact ⟨rfl, h⟩
  · right; rw [if_neg h]
end Go.Proofs.YtehboglielnjbaaGreatDoor
