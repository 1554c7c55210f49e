/- Plain mathematics: what a program that may be has. No condition. -/
import Derived.Test.YtckpaikppgjfnaaGreatDoorSAlive
import Derived.Test.YtckpaikppgjfnaaGreatDoorMR
set_option linter.unusedSimpArgs false
set_option linter.unusedVariables false
namespace Go.Proofs.YtckpaikppgjfnaaGreatDoor
open Go.RowKit

theorem inB_iff {lo hi n : Int} : inB lo hi n = true ↔ lo ≤ n ∧ n ≤ hi := by unfold inB; simp
theorem prog_parts {p : List FunV} (h : progB4 p = true) : 1 ≤ p.length ∧ p.length ≤ 8 ∧ beginOk p = true ∧ ∀ f ∈ p, funOkB p f = true := by
  unfold progB4 at h
  simp only [Bool.and_eq_true, List.all_eq_true, inB_iff] at h
  exact ⟨by omega, by omega, h.2.1, h.2.2⟩
theorem fun_parts {p : List FunV} {f : FunV} (h : funOkB p f = true) : (f.base.length = f.kinds.length ∧ f.kinds.length ≤ 48 ∧ ∀ kb ∈ f.kinds.zip f.base, baseB4 f.kinds kb.1 kb.2 = true) ∧ (0 ≤ f.params ∧ f.params ≤ 4 ∧ f.params ≤ f.kinds.length) ∧ valB f.result = true ∧
    (1 ≤ f.blocks.length ∧ f.blocks.length ≤ 40 ∧ ∀ b ∈ f.blocks, 1 ≤ b.length ∧ b.length ≤ 40 ∧ endsB b = true) ∧ ∀ b ∈ f.blocks, ∀ x ∈ b, mayB4 p f x = true := by
  unfold funOkB funB4 varsB4 paramsB4 blocksB4 blockB4 at h
  simp only [Bool.and_eq_true, List.all_eq_true, inB_iff, decide_eq_true_eq] at h
  obtain ⟨⟨⟨⟨h1, h2⟩, h3⟩, ⟨h4, -⟩, h5, h6, h7⟩, h8⟩ := h
  exact ⟨⟨h1, h2, h3⟩, ⟨by omega, by omega, by omega⟩, h5, ⟨by omega, by omega, fun b hb => ⟨by have := (h7 b hb).1; omega, by have := (h7 b hb).1; omega, (h7 b hb).2⟩⟩, h8⟩
theorem may_parts {p : List FunV} {f : FunV} {x : InsV} (h : mayB4 p f x = true) : partsN x.op ≠ [] ∧ onlyB4 x = true ∧ (hasB4 x.op 68 = true → inVar f x.d = true) ∧ (∀ v ∈ usesL x, inVar f v = true) ∧ numsB p f x = true := by
  unfold mayB4 varsInB at h
  simp only [Bool.and_eq_true, List.all_eq_true, Bool.or_eq_true, Bool.not_eq_true'] at h
  obtain ⟨h1, h2, ⟨h3, h4⟩, h5⟩ := h
  refine ⟨(fun h0 => by rw [h0] at h1; cases h1), h2, fun hd => ?_, h4, h5⟩
  rcases h3 with h3 | h3
  · rw [h3] at hd; cases hd
  · exact h3
theorem inVar_nn {f : FunV} {v : Int} (h : inVar f v = true) : 0 ≤ v ∧ v < f.kinds.length := by
  unfold inVar at h; rw [inB_iff] at h; omega
theorem inBlk_nn {f : FunV} {v : Int} (h : inBlk f v = true) : 1 ≤ v ∧ v < f.blocks.length := by
  unfold inBlk at h; rw [inB_iff] at h; omega
theorem op_range {op : Int} (h : partsN op ≠ []) : 1 ≤ op ∧ op ≤ 23 := by
  apply Classical.byContradiction
  intro hn
  exact h (partsN_not (fun j h1 h2 hj => hn (by omega)))
theorem parts_has {op : Int} {c : Nat} (h : c ∈ partsN op) (F : Nat → Bool) (hF : ∀ j, j < 24 → c ∈ partsT.getD j [] → F j = true) : F op.toNat = true ∧ 1 ≤ op ∧ op ≤ 23 := by
  have hne : partsN op ≠ [] := fun h0 => by rw [h0] at h; cases h
  have hr := op_range hne
  refine ⟨hF _ (by omega) ?_, hr⟩
  unfold partsN at h
  rwa [if_neg (by omega)] at h
theorem callee_args {p : List FunV} (hp : ∀ f ∈ p, funOkB p f = true) {g a : Int} (h : calleeB p g a = true) : 0 ≤ g ∧ a ≤ 4 := by
  unfold calleeB at h
  simp only [Bool.and_eq_true, inB_iff, decide_eq_true_eq] at h
  obtain ⟨⟨h1, h2⟩, h3⟩ := h
  refine ⟨h1, ?_⟩
  cases hf : p[g.toNat]? with
  | none => rw [hf] at h3; cases h3
  | some f =>
    rw [hf] at h3
    simp at h3
    have := (fun_parts (hp f (List.mem_of_getElem? hf))).2.1
    omega
/-- An instruction that may be has bytes. -/
theorem may_enc {p : List FunV} {f : FunV} {x : InsV} (hp : ∀ f ∈ p, funOkB p f = true) (h : mayB4 p f x = true) : insMayB x = true ∧ insCnt x = true := by
  obtain ⟨h1, h2, h3, h4, h5⟩ := may_parts h
  have hr := op_range h1
  have hcnt : insCnt x = true := by
    unfold insCnt
    by_cases h19 : x.op = 19
    · unfold numsB at h5
      rw [if_neg (by omega), if_neg (by omega), if_neg (by omega), if_neg (by omega), if_pos h19] at h5
      have := callee_args hp h5
      simp; omega
    · simp [h19]
  refine ⟨?_, hcnt⟩
  have h77 : 77 ∈ partsN x.op → 0 ≤ x.m := fun hm => by
    have hj := parts_has hm (fun j => j == 10 || j == 22) (by decide)
    simp at hj
    unfold numsB at h5
    rcases hj.1 with hj | hj
    · have : x.op = 10 := by omega
      rw [if_neg (by omega), if_neg (by omega), if_pos this] at h5
      simp only [Bool.and_eq_true, inB_iff] at h5
      omega
    · have : x.op = 22 := by omega
      rw [if_neg (by omega), if_neg (by omega), if_neg (by omega), if_neg (by omega), if_neg (by omega), if_neg (by omega), if_pos this] at h5
      simp only [Bool.and_eq_true] at h5
      have := inBlk_nn h5.2
      omega
  have h78 : 78 ∈ partsN x.op → 0 ≤ x.n := fun hm => by
    have hj := parts_has hm (fun j => j == 10 || (j == 11 || j == 12 || j == 13 || j == 14 || j == 15) || (j == 19 || j == 21 || j == 22)) (by decide)
    simp at hj
    unfold numsB at h5
    by_cases e10 : x.op = 10
    · rw [if_neg (by omega), if_neg (by omega), if_pos e10] at h5
      simp only [Bool.and_eq_true, inB_iff] at h5
      omega
    by_cases e11 : x.op = 11 ∨ x.op = 12 ∨ x.op = 13 ∨ x.op = 14 ∨ x.op = 15
    · rw [if_neg (by omega), if_neg (by omega), if_neg (by omega), if_pos e11, inB_iff] at h5
      omega
    by_cases e19 : x.op = 19
    · rw [if_neg (by omega), if_neg (by omega), if_neg (by omega), if_neg e11, if_pos e19] at h5
      exact (callee_args hp h5).1
    by_cases e21 : x.op = 21
    · rw [if_neg (by omega), if_neg (by omega), if_neg (by omega), if_neg e11, if_neg e19, if_pos e21] at h5
      have := inBlk_nn h5; omega
    by_cases e22 : x.op = 22
    · rw [if_neg (by omega), if_neg (by omega), if_neg (by omega), if_neg e11, if_neg e19, if_neg e21, if_pos e22] at h5
      simp only [Bool.and_eq_true] at h5
      have := inBlk_nn h5.1; omega
    · omega
  rw [← rins_ok h1]
  simp only [Bool.and_eq_true, decide_eq_true_eq, List.all_eq_true]
  refine ⟨by omega, fun c hc => ?_, ?_, ?_⟩
  · have hl := partsN_letter x.op c hc
    unfold isLetter at hl
    rw [okB_iff]
    rcases hl with rfl | rfl | rfl | rfl | rfl | rfl | rfl
    · simp only [okP, fieldOf]; exact (inVar_nn (h3 (decide_eq_true hc))).1
    · simp only [okP, fieldOf]; exact (inVar_nn (h4 x.a (by unfold usesL; rw [if_pos (show hasB4 x.op 65 = true from decide_eq_true hc)]; simp))).1
    · simp only [okP, fieldOf]; exact (inVar_nn (h4 x.b (by unfold usesL; rw [if_pos (show hasB4 x.op 66 = true from decide_eq_true hc)]; simp))).1
    · simp only [okP, fieldOf]; exact h78 hc
    · simp only [okP, fieldOf]; exact h77 hc
    · simp [okP]
    · simp only [okP]
      exact fun z hz => (inVar_nn (h4 z (by unfold usesL; rw [if_pos (show hasB4 x.op 76 = true from decide_eq_true hc)]; simp [hz]))).1
  · unfold onlyB4 checksL at h2
    simp only [List.all_cons, List.all_nil, Bool.and_eq_true, Bool.or_eq_true, Bool.not_eq_true', bne_eq_false_iff_eq, Bool.and_true] at h2
    obtain ⟨g1, g2, g3, g4, g5, g6⟩ := h2
    unfold hasB4 at g1 g2 g3 g5
    simp only [decide_eq_true_eq] at g1 g2 g3 g5
    intro c hc
    simp at hc
    unfold chk
    simp only [Bool.or_eq_true, decide_eq_true_eq]
    rcases hc with rfl | rfl | rfl | rfl
    · exact g1.elim (fun h => .inr (by simpa [fieldOf] using h)) .inl
    · exact g2.elim (fun h => .inr (by simpa [fieldOf] using h)) .inl
    · exact g3.elim (fun h => .inr (by simpa [fieldOf] using h)) .inl
    · exact g5.elim (fun h => .inr (by simpa [fieldOf] using h)) .inl
  · unfold onlyB4 checksL at h2
    simp only [List.all_cons, List.all_nil, Bool.and_eq_true, Bool.or_eq_true, Bool.not_eq_true', bne_eq_false_iff_eq, Bool.and_true] at h2
    obtain ⟨g1, g2, g3, g4, g5, g6⟩ := h2
    unfold hasB4 at g6
    unfold hasP at g4
    simp only [decide_eq_true_eq, decide_eq_false_iff_not, List.any_eq_true] at g4 g6
    unfold chkN
    simp only [Bool.and_eq_true, Bool.or_eq_true, decide_eq_true_eq]
    refine ⟨?_, ?_⟩
    · rcases g4 with g4 | ⟨c, hc, hm⟩
      · exact .inr (.inr g4)
      · simp at hm
        rcases hm with rfl | rfl
        · exact .inl hc
        · exact .inr (.inl hc)
    · rcases g6 with g6 | g6
      · exact .inr (by omega)
      · exact .inl g6
/-- A program that may be has bytes. -/
theorem prog_enc {p : List FunV} (h : progB4 p = true) : (encR p).2 = 0 := by
  obtain ⟨h1, h8, -, hf⟩ := prog_parts h
  have hcnt : cntB p = true := by
    unfold cntB
    simp only [Bool.and_eq_true, decide_eq_true_eq, List.all_eq_true]
    refine ⟨h1, h8, fun f hfm => ?_⟩
    obtain ⟨⟨-, k48, -⟩, -, -, ⟨-, b40, hb⟩, hm⟩ := fun_parts (hf f hfm)
    unfold funCnt blkCnt
    simp only [Bool.and_eq_true, decide_eq_true_eq, List.all_eq_true]
    exact ⟨k48, b40, fun b hbm => ⟨(hb b hbm).2.1, fun x hx => (may_enc hf (hm b hbm x hx)).2⟩⟩
  have hmay : p.all funMayB = true := by
    rw [List.all_eq_true]
    intro f hfm
    obtain ⟨⟨hbk, -, hv⟩, ⟨p0, -, -⟩, hr, -, hm⟩ := fun_parts (hf f hfm)
    unfold funMayB
    simp only [Bool.and_eq_true, decide_eq_true_eq, List.all_eq_true]
    refine ⟨⟨hbk, p0, ?_⟩, fun kb hkb => ?_, fun b hbm x hx => (may_enc hf (hm b hbm x hx)).1⟩
    · unfold valB at hr; simp at hr; omega
    · have := hv kb hkb
      unfold baseB4 at this
      unfold varMayB baseB kindB
      split at this
      · rename_i hk
        unfold refB at this
        simp only [Bool.and_eq_true, inB_iff] at this
        rw [if_pos hk, hk]
        simp; omega
      · rename_i hk
        rw [if_neg hk]
        unfold valB at this
        simp at this ⊢
        omega
  unfold encR
  rw [if_pos hcnt, if_pos hmay]
end Go.Proofs.YtckpaikppgjfnaaGreatDoor
