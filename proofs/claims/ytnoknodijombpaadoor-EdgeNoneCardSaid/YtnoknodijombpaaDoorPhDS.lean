/- Layer 13: a program of functions that were split may be, when it was so before. -/
import Derived.Test.YtnoknodijombpaaDoorPhDQ
set_option linter.unusedSimpArgs false
set_option linter.unusedVariables false
namespace Go.Proofs.YtnoknodijombpaaDoor
open Go.RowKit

theorem endsB_ops (l : List InsV) : endsB l = (((l.map InsV.op).take ((l.map InsV.op).length - 1)).all (fun o => !lastB o) && ((l.map InsV.op).drop ((l.map InsV.op).length - 1)).all (fun o => lastB o)) := by
  unfold endsB
  rw [List.length_map, ← List.map_take, ← List.map_drop, List.all_map, List.all_map]
  rfl
theorem bentB_ops (L : Nat) (es : List (Int × Int)) (b : Nat) (l : List InsV) : (bentB L es b l).map InsV.op = l.map InsV.op := by
  unfold bentB
  split
  · rename_i x hx
    apply List.ext_getElem?
    intro i
    rw [List.getElem?_map, List.getElem?_map, List.getElem?_set]
    split
    · rename_i h
      subst h
      rw [if_pos (List.getElem?_eq_some_iff.1 hx).1, hx]
      rfl
    · rfl
  · rfl
theorem numsB_split {p : List FunV} {f : FunV} (hok : FlowOk f) {x : InsV} (h : numsB p f x = true) : numsB (p.map splitF) (splitF f) x = true := by
  have hB : ∀ v, inBlk f v = true → inBlk (splitF f) v = true := fun v hv => by
    unfold inBlk at hv ⊢
    have := inB_iff.1 hv
    refine inB_iff.2 ?_
    rw [split_len hok]
    omega
  have hC : ∀ g a, calleeB p g a = true → calleeB (p.map splitF) g a = true := fun g a hg => by
    unfold calleeB at hg ⊢
    rw [List.length_map, List.getElem?_map, Option.map_map]
    exact hg
  unfold numsB at h ⊢
  split at h
  · rename_i h1; rw [if_pos h1]; exact h
  rename_i h1; rw [if_neg h1]
  split at h
  · rename_i h1; rw [if_pos h1]; exact h
  rename_i h1; rw [if_neg h1]
  split at h
  · rename_i h1; rw [if_pos h1]; exact h
  rename_i h1; rw [if_neg h1]
  split at h
  · rename_i h1; rw [if_pos h1]; exact h
  rename_i h1; rw [if_neg h1]
  split at h
  · rename_i h1; rw [if_pos h1]; exact hC _ _ h
  rename_i h1; rw [if_neg h1]
  split at h
  · rename_i h1; rw [if_pos h1]; exact hB _ h
  rename_i h1; rw [if_neg h1]
  split at h
  · rename_i h1; rw [if_pos h1]
    rw [Bool.and_eq_true] at h ⊢
    exact ⟨hB _ h.1, hB _ h.2⟩
  rename_i h1; rw [if_neg h1]
theorem mayB4_and {p : List FunV} {f : FunV} {x : InsV} : mayB4 p f x = true ↔ (!(partsN x.op).isEmpty) = true ∧ onlyB4 x = true ∧ varsInB f x = true ∧ numsB p f x = true := by
  unfold mayB4
  rw [Bool.and_eq_true, Bool.and_eq_true, Bool.and_eq_true]
theorem may_split {p : List FunV} {f : FunV} (hok : FlowOk f) {x : InsV} (h : mayB4 p f x = true) : mayB4 (p.map splitF) (splitF f) x = true := by
  obtain ⟨h1, h2, h3, h4⟩ := mayB4_and.1 h
  exact mayB4_and.2 ⟨h1, h2, h3, numsB_split hok h4⟩
theorem nums22 {p : List FunV} {f : FunV} {x : InsV} (h : numsB p f x = true) (hx : x.op = 22) : inBlk f x.n = true ∧ inBlk f x.m = true := by
  unfold numsB at h
  rw [if_neg (by omega), if_neg (by omega), if_neg (by omega), if_neg (by omega), if_neg (by omega), if_neg (by omega), if_pos hx, Bool.and_eq_true] at h
  exact h
theorem tgt_blk {f : FunV} (hok : FlowOk f) {b : Nat} {t : Int} (h : inBlk f t = true) : inBlk (splitF f) (tgt f.blocks.length (critN f) b t) = true := by
  unfold inBlk at h ⊢
  have h1 := inB_iff.1 h
  refine inB_iff.2 ?_
  rw [split_len hok]
  by_cases hc : ((b : Int), t) ∈ critN f
  · have := List.idxOf_lt_length_of_mem hc
    rw [tgt_in hc]
    omega
  · rw [tgt_not hc]
    omega
theorem only22 {L b : Nat} {es : List (Int × Int)} {x : InsV} (hx : x.op = 22) (h : onlyB4 x = true) : onlyB4 (tgI L es b x) = true := by
  have e1 : hasP x.op [78, 110] = true := by rw [hx]; rfl
  have e2 : hasB4 x.op 77 = true := by rw [hx]; rfl
  unfold onlyB4 checksL at h ⊢
  simp only [List.all_cons, List.all_nil, Bool.and_true, tgI, e1, e2, Bool.or_true, Bool.true_and] at h ⊢
  exact h
theorem may_tgI {p : List FunV} {f : FunV} (hok : FlowOk f) {b : Nat} {x : InsV} (hx : x.op = 22) (h : mayB4 p f x = true) : mayB4 (p.map splitF) (splitF f) (tgI f.blocks.length (critN f) b x) = true := by
  obtain ⟨h1, h2, h3, h4⟩ := mayB4_and.1 h
  obtain ⟨q1, q2⟩ := nums22 h4 hx
  refine mayB4_and.2 ⟨h1, only22 hx h2, h3, ?_⟩
  have hx' : (tgI f.blocks.length (critN f) b x).op = 22 := hx
  unfold numsB
  rw [if_neg (by omega), if_neg (by omega), if_neg (by omega), if_neg (by omega), if_neg (by omega), if_neg (by omega), if_pos hx', Bool.and_eq_true]
  exact ⟨tgt_blk hok q1, tgt_blk hok q2⟩
theorem may_jump {p : List FunV} {f : FunV} {t : Int} (h : inBlk f t = true) : mayB4 p f (jumpI t) = true := by
  refine mayB4_and.2 ⟨rfl, ?_, rfl, h⟩
  have e1 : hasP (jumpI t).op [78, 110] = true := rfl
  unfold onlyB4 checksL
  simp only [List.all_cons, List.all_nil, Bool.and_true, e1, Bool.or_true, Bool.true_and]
  rfl
theorem inBlk_split {f : FunV} (hok : FlowOk f) {t : Int} (h : inBlk f t = true) : inBlk (splitF f) t = true := by
  unfold inBlk at h ⊢
  have h1 := inB_iff.1 h
  refine inB_iff.2 ?_
  rw [split_len hok]
  omega
/-- The instructions of what was split. -/
theorem split_ins {f : FunV} (hok : FlowOk f) {l : List InsV} (h : l ∈ (splitF f).blocks) : (∃ b l0, f.blocks[b]? = some l0 ∧ l = bentB f.blocks.length (critN f) b l0) ∨ ∃ e, e ∈ critN f ∧ l = [jumpI e.2] := by
  obtain ⟨k, hk, rfl⟩ := List.getElem_of_mem h
  have hk' := hk
  rw [split_len hok] at hk'
  by_cases hL : k < f.blocks.length
  · have t := split_old hok (List.getElem?_eq_getElem hL)
    rw [List.getElem?_eq_getElem hk] at t
    injection t with t
    exact .inl ⟨k, _, List.getElem?_eq_getElem hL, t⟩
  · obtain ⟨e, he⟩ : ∃ e, (critN f)[k - f.blocks.length]? = some e := ⟨_, List.getElem?_eq_getElem (by omega)⟩
    have t := split_new hok he
    rw [show f.blocks.length + (k - f.blocks.length) = k by omega, List.getElem?_eq_getElem hk] at t
    injection t with t
    exact .inr ⟨e, List.mem_of_getElem? he, t⟩
theorem tgI_same {f : FunV} {b : Nat} {l : List InsV} {x : InsV} (hb : f.blocks[b]? = some l) (hx : l[l.length - 1]? = some x) (h : x.op ≠ 22) : tgI f.blocks.length (critN f) b x = x := by
  have hn : ∀ t, tgt f.blocks.length (critN f) b t = t := fun t => tgt_not (fun hc => by
    obtain ⟨a, l', x', h1, h2, h3, h4, -⟩ := crit_last hc
    have e : a = b := by simp at h1; omega
    subst e
    rw [hb] at h2
    injection h2 with h2
    subst h2
    rw [hx] at h3
    injection h3 with h3
    subst h3
    exact h h4)
  unfold tgI
  rw [hn, hn]
theorem funOk_split {p : List FunV} {f : FunV} (hok : FlowOk f) (hone : 1 ≤ f.blocks.length) (hf : fitsB f = true) (h : funOkB p f = true) : funOkB (p.map splitF) (splitF f) = true := by
  unfold funOkB funB4 at h ⊢
  simp only [Bool.and_eq_true] at h ⊢
  obtain ⟨⟨h1, h2, h3, h4⟩, h5⟩ := h
  rw [List.all_eq_true] at h5
  have hmay : ∀ l ∈ f.blocks, ∀ x ∈ l, mayB4 p f x = true := fun l hl x hx => List.all_eq_true.1 (h5 l hl) x hx
  unfold blocksB4 at h4 ⊢
  simp only [Bool.and_eq_true] at h4 ⊢
  have hfit : f.blocks.length + (critN f).length ≤ 40 := of_decide_eq_true hf
  refine ⟨⟨h1, h2, h3, ?_, ?_⟩, ?_⟩
  · refine inB_iff.2 ?_
    rw [split_len hok]
    omega
  · rw [List.all_eq_true]
    intro l hl
    rcases split_ins hok hl with ⟨b, l0, hb, rfl⟩ | ⟨e, he, rfl⟩
    · have t := List.all_eq_true.1 h4.2 l0 (List.mem_of_getElem? hb)
      unfold blockB4 at t ⊢
      rw [bentB_len, endsB_ops, bentB_ops, ← endsB_ops]
      exact t
    · rfl
  · rw [List.all_eq_true]
    intro l hl
    rw [List.all_eq_true]
    intro x hx
    rcases split_ins hok hl with ⟨b, l0, hb, rfl⟩ | ⟨e, he, rfl⟩
    · have hl0 := List.mem_of_getElem? hb
      unfold bentB at hx
      split at hx
      · rename_i x0 hx0
        have hm0 := List.mem_of_getElem? hx0
        rcases List.mem_or_eq_of_mem_set hx with h7 | rfl
        · exact may_split hok (hmay l0 hl0 x h7)
        · by_cases h22 : x0.op = 22
          · exact may_tgI hok h22 (hmay l0 hl0 x0 hm0)
          · rw [tgI_same hb hx0 h22]
            exact may_split hok (hmay l0 hl0 x0 hm0)
      · exact may_split hok (hmay l0 hl0 x hx)
    · simp at hx
      subst hx
      obtain ⟨a, l0, x0, -, h8, h9, h22, -, ht⟩ := crit_last he
      obtain ⟨q1, q2⟩ := nums22 (mayB4_and.1 (hmay l0 (List.mem_of_getElem? h8) x0 (List.mem_of_getElem? h9))).2.2.2 h22
      refine may_jump (inBlk_split hok ?_)
      rcases ht with ht | ht <;> rw [ht] <;> assumption
/-- What was split may be. -/
theorem progB4_split {p : List FunV} (h : progB4 p = true) (hok : ∀ f ∈ p, EOk p f) (hf : ∀ f ∈ p, fitsB f = true) : progB4 (p.map splitF) = true := by
  unfold progB4 at h ⊢
  simp only [Bool.and_eq_true] at h ⊢
  obtain ⟨h1, h2, h3⟩ := h
  refine ⟨by rw [List.length_map]; exact h1, ?_, ?_⟩
  · unfold beginOk at h2 ⊢
    rw [List.getElem?_map]
    cases h0 : p[0]? with
    | none => rw [h0] at h2; exact h2
    | some f => rw [h0] at h2; exact h2
  · rw [List.all_eq_true]
    intro g hg
    obtain ⟨f, hm, rfl⟩ := List.mem_map.1 hg
    exact funOk_split (hok f hm).flow (hok f hm).one (hf f hm) (List.all_eq_true.1 h3 f hm)
theorem progFew_split {p : List FunV} (h : progFew p) (hok : ∀ f ∈ p, EOk p f) : progFew (p.map splitF) := by
  intro g hg
  obtain ⟨f, hm, rfl⟩ := List.mem_map.1 hg
  intro l hl x hx
  rcases split_code (hok f hm).flow hl with ⟨l0, h0, -, h2⟩ | ⟨t, rfl⟩
  · obtain ⟨y, hy, e⟩ := h2 x hx
    rw [e]
    exact h f hm l0 h0 y hy
  · simp at hx
    subst hx
    simp [jumpI]
end Go.Proofs.YtnoknodijombpaaDoor
