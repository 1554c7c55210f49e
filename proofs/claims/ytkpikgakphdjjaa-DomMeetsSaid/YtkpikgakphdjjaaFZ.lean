/- The contract of the walk's step where nothing is left to try on top: that block is left. No condition but on lengths. -/
import Derived.Test.YtkpikgakphdjjaaFP
import Derived.BigQuiet
import Derived.BigRegion
set_option linter.unusedSimpArgs false
set_option linter.unusedVariables false
namespace Go.Proofs.Ytkpikgakphdjjaa
open Go.RowKit
attribute [local go_sem ↓] Go.wp_at_zero Go.wp_at_succ

/-- append(v, y) at a step of a region that draws its order, v the call's own. -/
theorem step_append_int {P : Program} (w : World) {ops : Array Oper} {o : Oper} {a : Act} {K : Act → World → Prop} {Q : Exit → Act → World → Prop} {E : Prop} (hgd : o.guard = none) (s x : Operand) (t : TypeId)
    (ho : o.op = .call { callee := .builtin .append, args := #[s, x], argTypes := #[t, t] })
    (base : Nat) (i : TypeInfo) (z : Value) (ht : P.underlying t = some (.slice 3)) (hi : P.info? 3 = some i) (hz : i.zero = some z)
    (hsize : i.size = 1) (hby : i.bytes = 8) (hzs : z.cells.size = 1)
    (v : Value) (zs : List Int) (hs : a.eval s = v) (hown : Ow w base 3 .i64 v zs) (y : Int) (H : Nat) (hH : Box w H #[.int .i64 y] 3)
    (hx : a.eval x = .slice (some ⟨H, 0, none⟩) 1 1)
    (hroom : zs.length < 1000000) (hbase : base ≤ w.heap.size)
    (h : ∀ g cap w', Ow w' base 3 .i64 (.slice (some ⟨g, 0, none⟩) (zs.length + 1) cap) (zs ++ [y]) → w.grownBy w' v.ownBlock → (v.ownBlock = some g ∨ g = w.heap.size) → g < w'.heap.size → K (a.put o.dst (.slice (some ⟨g, 0, none⟩) (zs.length + 1) cap)) w') :
    if Region.wanted o (yielded ops a.tmps) = true then Oper.wp P o a w K Q else E :=
  step_append_lies w hgd s x t ho base 3 i z 1 8 ht hi hz hsize hby hzs (by omega) v zs.length (zs.map (Value.int .i64)) hs hown ⟨H, 0, none⟩ 1 1 [.int .i64 y] hx rfl
    (World.news_of_block hH) (by intro u hu; simp at hu; subst hu; rfl) (by omega) (by simp only [maxLen]; omega) (by omega) hbase w.heap.size rfl
    fun g cap w' h2 h3 h4 h5 => h g cap w' (by unfold Ow; rw [List.map_append, List.length_append]; exact h2) h3 h4 h5
set_option maxHeartbeats 1000000 in
set_option maxRecDepth 100000 in
theorem step_pop (base hw bm n : Nat) (fk fb fs vo vl : Value) (fp fr b : Int) (m : List Bool) (os : List (Int × List Int)) (l : List Int) (ov : List (Int × Value)) (w : World) (hbase : base ≤ w.heap.size)
    (hW : WalkP w base hw bm n fk fb fp fr fs m (os ++ [(b, [])]) l vo vl ov) (hol : os.length < 1000) (hln : l.length < 1000) :
    Calls Try.prog 51 #[.pointer (some ⟨hw, 0, none⟩)] w fun e w' => e = .returned (.tuple #[]) ∧ (∃ vo' vl' ov', WalkP w' base hw bm n fk fb fp fr fs m os (l ++ [b]) vo' vl' ov') ∧ Below base w w' := by
  obtain ⟨i0, hi0, hz0, hz1, hz2⟩ := info_parts info_i64
  obtain ⟨ov0, A, c, g, cap, rfl, rfl, hl0, hcap, hcm, hbg, hgl, t0, t1, t1f, -, hc2, hs, hM⟩ := hW.top
  obtain ⟨Al, cl, rfl, hcl, hclm, -⟩ := hW.lft.sl
  have hbh := hW.hb.1
  have hwl := hW.box.lt
  have hgne : g ≠ hw := fun e => hW.ne.2.1 (by rw [e]; rfl)
  have HW := hide hW
  have HI := hide hi0
  obtain ⟨no, hno⟩ : ∃ no, ov0.length = no := ⟨_, rfl⟩
  have HNO := hide hno
  rw [hno] at hcap hl0 t0 t1 t1f HW
  have hno1 : no < 1000 := by omega
  have HLN := hide (show l.length < 1000000 by omega)
  have b6 := (HW.out.box.cell 6 (v := .slice (some ⟨g, 0, none⟩) (no + 1) cap) rfl).1
  have b7 := (HW.out.box.cell 7 (v := .slice Al l.length cl) rfl).1
  have hcl2 : cap ≤ 9223372036854775807 := by simp only [maxLen] at hcm; omega
  have e1 : IntKind.i64.wrap ((no : Int) + 1 - 1) = (no : Int) := by rw [Int.add_sub_cancel]; exact IntWalk.i64_in _ ⟨by omega, by omega⟩
  have hi1 : (0 : Int) ≤ (no : Int) := by omega
  have hi2 : (no : Int) < (no : Int) + 1 := by omega
  clear hi0 hW hno hs hM t1f hln hol hl0 hcm hcl hclm
  simp only [List.length_nil] at t1
  go_enter Try.func51, Try.ntmps51
  go_wp2_with fail
  go_quiet (fail)
  go_wp2_with fail
  obtain ⟨w1, hw1⟩ : ∃ w1, w1 = w.drewN nq := ⟨_, rfl⟩
  have HB1 := hide (show Below base w w1 by rw [hw1]; exact below_drewN (Below.refl _ _) nq)
  have HW1 := hide (show WalkP w1 base hw bm n fk fb fp fr fs m (os ++ [(b, [])]) l (.slice (some ⟨g, 0, none⟩) (no + 1) cap) (.slice Al l.length cl) (ov0 ++ [(b, .slice A 0 c)]) by rw [hw1]; exact HW.out.below (below_drewN (Below.refl _ _) nq))
  have s1 : w1.heap.size = w.heap.size := by rw [hw1]; rfl
  have t0' : w1.cell? ⟨g, no * 2, none⟩ = some (.int .i64 b) := by rw [hw1]; exact t0
  rw [← hw1]
  clear hw1 t0 t1 b6 b7 HW
  have b6 := (HW1.out.box.cell 6 (v := .slice (some ⟨g, 0, none⟩) (no + 1) cap) rfl).1
  have b7 := (HW1.out.box.cell 7 (v := .slice Al l.length cl) rfl).1
  have hwl1 : hw < w1.heap.size := by omega
  have hgl1 : g < w1.heap.size := by omega
  have hbs1 : base ≤ w1.heap.size := by omega
  clear s1 hwl hgl hbase
  go_region_law
    (first
      | (refine step_append_int ((w1.drewN 1).alloc (.cells #[.int .i64 b] 3)) (by rfl) _ _ _ (by rfl) base i0 _ Try.underlying27 HI.out hz0 hz1 hz2 rfl (.slice Al l.length cl) l (by rfl) ((HW1.out.lft.drewN 1).alloc _) b w1.heap.size (Box.new (w1.drewN 1) _ _) (by rfl) HLN.out (by simp only [World.size_alloc]; exact Nat.le_succ_of_le hbs1) ?_; intro g5 cap5 w5 ho5 hg5 hv5 hl5; have hne := HW1.out.ne.2.2.2.1; have y7 := (hg5.cell_far ⟨hw, 7, none⟩ (by simp only [World.size_alloc]; exact Nat.lt_succ_of_lt hwl1) (Ne.symm hne)).trans ((World.cell?_alloc_lt (w1.drewN 1) _ ⟨hw, 7, none⟩ hwl1).trans b7); have y7f := (hg5.frozen_far ⟨hw, 7, none⟩ (by simp only [World.size_alloc]; exact Nat.lt_succ_of_lt hwl1) (Ne.symm hne)).trans ((World.frozen?_of_block (a := ⟨hw, 7, none⟩) (w := w1.drewN 1) (Below.heap_alloc (w1.drewN 1) _ hw hwl1)).trans (HW1.out.box.cell 7 (v := .slice Al l.length cl) rfl).2)))
  all_goals
    have HW2 := hide ((HW1.out.below (below_drewN (Below.refl _ _) 1)).left (w4 := (w1.drewN 1).alloc (.cells #[.int .i64 b] 3)) ((Below.refl _ _).alloc (Nat.le_refl _) _) hg5 ho5 (by
      rcases hv5 with h | h
      · exact .inl (by rw [h]; rfl)
      · exact .inr ⟨g5, rfl, by rw [h, World.size_alloc]; exact Nat.le_succ _⟩))
    have HB2 := hide (((((HB1.out.trans (below_drewN (Below.refl base w1) 1)).alloc hbs1 (.cells #[.int .i64 b] 3)).grown hg5 (by simp only [World.size_alloc]; exact Nat.le_succ_of_le hbs1) (fun k hk => (HW1.out.lft.row' k hk).1)).setCell (p := ⟨hw, 7, none⟩) hbh (.slice (some ⟨g5, 0, none⟩) (l.length + 1) cap5)))
    obtain ⟨w6, hw6⟩ : ∃ w6, w6 = w5.setCell ⟨hw, 7, none⟩ (.slice (some ⟨g5, 0, none⟩) (l.length + 1) cap5) := ⟨_, rfl⟩
    rw [← hw6] at HW2 HB2 ⊢
    clear hw6 hg5 ho5 hv5 hl5 y7 y7f b6 b7 hne t0'
    have b6 := (HW2.out.box.cell 6 (v := .slice (some ⟨g, 0, none⟩) (no + 1) cap) rfl).1
    have b6f := (HW2.out.box.cell 6 (v := .slice (some ⟨g, 0, none⟩) (no + 1) cap) rfl).2
    have hcp : no ≤ cap := by omega
    have hcpi : (no : Int) ≤ (cap : Int) := by omega
    go_wp2_with fail
    go_region
    all_goals
      have HW3 := hide ((HW2.out.below (below_drewN (Below.refl _ _) 1)).drop)
      rw [HNO.out] at HW3
      have HB3 := hide ((below_drewN HB2.out 1).setCell (p := ⟨hw, 6, none⟩) hbh (.slice (some ⟨g, 0, none⟩) no cap))
      go_wp2
      refine bodyPost_ret (results_none rfl _ _ _) rfl ?_
      exact ⟨rfl, ⟨_, _, _, HW3.out⟩, HB3.out⟩
end Go.Proofs.Ytkpikgakphdjjaa
