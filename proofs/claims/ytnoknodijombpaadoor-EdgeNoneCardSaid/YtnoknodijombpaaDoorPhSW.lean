/- Plain mathematics: what a program that may be has. No condition. -/
import Derived.Test.YtnoknodijombpaaDoorPhSAlive
import Derived.Test.YtnoknodijombpaaDoorPhMR
set_option linter.unusedSimpArgs false
set_option linter.unusedVariables false
namespace Go.Proofs.YtnoknodijombpaaDoor
open Go.RowKit

theorem inB_iff {lo hi n : Int} : inB lo hi n = true ↔ lo ≤ n ∧ n ≤ hi := by unfold inB; simp
theorem prog_parts {p : List FunV} (h : progB4 p = true) : 1 ≤ p.length ∧ p.length ≤ 8 ∧ beginOk p = true ∧ ∀ f ∈ p, funOkB p f = true := by
  unfold progB4 at h
  simp only [Bool.and_eq_true, List.all_eq_true, inB_iff] at h
  exact ⟨by omega, by omega, h.2.1, h.2.2⟩
theorem fun_parts {p : List FunV} {f : FunV} (h : funOkB p f = true) : (f.base.length = f.kinds.length ∧ f.kinds.length ≤ 48 ∧ ∀ kb ∈ f.kinds.zip f.base, baseB4 f.kinds kb.1 kb.2 = true) ∧ (0 ≤ f.params ∧ f.params ≤ 4 ∧ f.params ≤ f.kinds.length) ∧ valB f.result = true ∧
    (1 ≤ f.blocks.length ∧ f.blocks.length ≤ 40 ∧ ∀ b ∈ f.blocks, 1 ≤ b.length ∧ b.length ≤ 40 ∧ endsB b = true) ∧ ∀ b ∈ f.blocks, ∀ x ∈ b, mayB4 p f x = true := by
  unfold funOkB funB4 varsB4 paramsB4 blocksB4 blockB4 at h
  simp only [Bool.and_eq_true, List.all_eq_true, inB_iff, decide_eq_true_eq] at h
  obtain ⟨⟨⟨⟨h1, h2⟩, h3⟩, ⟨h4, -⟩, h5, h6, h7⟩, h8⟩ := h
  exact ⟨⟨h1, h2, h3⟩, ⟨by omega, by omega, by omega⟩, h5, ⟨by omega, by omega, fun b hb => ⟨by have := (h7 b hb).1; omega, by have := (h7 b hb).1; omega, (h7 b hb).2⟩⟩, h8⟩
theorem may_parts {p : List FunV} {f : FunV} {x : InsV} (h : mayB4 p f x = true) : partsN x.op ≠ [] ∧ onlyB4 x = true ∧ (hasB4 x.op 68 = true → inVar f x.d = true) ∧ (∀ v ∈ usesL x, inVar f v = true) ∧ numsB p f x = true := by
  unfold mayB4 varsInB at h
  simp only [Bool.and_eq_true, List.all_eq_true, Bool.or_eq_true, Bool.not_eq_true'] at h
  obtain ⟨h1, h2, ⟨h3, h4⟩, h5⟩ := h
  refine ⟨(fun h0 => by rw [h0] at h1; cases h1), h2, fun hd => ?_, h4, h5⟩
  rcases h3 with h3 | h3
  · rw [h3] at hd; cases hd
  · exact h3
theorem inBlk_nn {f : FunV} {v : Int} (h : inBlk f v = true) : 1 ≤ v ∧ v < f.blocks.length := by
  unfold inBlk at h; rw [inB_iff] at h; omega
theorem op_range {op : Int} (h : partsN op ≠ []) : 1 ≤ op ∧ op ≤ 23 := by
  apply Classical.byContradiction
  intro hn
  exact h (partsN_not (fun j h1 h2 hj => hn (by omega)))
theorem parts_has {op : Int} {c : Nat} (h : c ∈ partsN op) (F : Nat → Bool) (hF : ∀ j, j < 24 → c ∈ partsT.getD j [] → F j = true) : F op.toNat = true ∧ 1 ≤ op ∧ op ≤ 23 := by
  have hne : partsN op ≠ [] := fun h0 => by rw [h0] at h; cases h
  have hr := op_range hne
  refine ⟨hF _ (by omega) ?_, hr⟩
  unfold partsN at h
  rwa [if_neg (by omega)] at h
theorem callee_args {p : List FunV} (hp : ∀ f ∈ p, funOkB p f = true) {g a : Int} (h : calleeB p g a = true) : 0 ≤ g ∧ a ≤ 4 := by
  unfold calleeB at h
  simp only [Bool.and_eq_true, inB_iff, decide_eq_true_eq] at h
  obtain ⟨⟨h1, h2⟩, h3⟩ := h
  refine ⟨h1, ?_⟩
  cases hf : p[g.toNat]? with
  | none => rw [hf] at h3; cases h3
  | some f =>
    rw [hf] at h3
    simp at h3
    have := (fun_parts (hp f (List.mem_of_getElem? hf))).2.1
    omega
end Go.Proofs.YtnoknodijombpaaDoor
