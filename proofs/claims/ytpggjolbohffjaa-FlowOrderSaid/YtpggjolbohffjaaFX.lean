/- The contract of the walk's enter: a block is met, and stands on top of what isn't left yet. Condition: what comes next is there. -/
import Derived.Test.YtpggjolbohffjaaFW
import Derived.Deep.DrawnRows
set_option linter.unusedSimpArgs false
set_option linter.unusedVariables false
namespace Go.Proofs.Ytpggjolbohffjaa
open Go.RowKit
attribute [local go_sem ↓] Go.wp_at_zero Go.wp_at_succ

theorem OwV.sl {w : World} {base : Nat} {v : Value} {os : List (Int × Value)} (h : OwV w base v os) : ∃ A c, v = .slice A os.length c ∧ os.length ≤ c ∧ c ≤ maxLen := by
  rcases h.2 with ⟨rfl, h0⟩ | ⟨g, cap, cur, rfl, hg, hh, hnc, hcm, hsz, htake⟩
  · exact ⟨none, 0, by rw [h0], by omega, by simp [maxLen]⟩
  · exact ⟨_, _, rfl, hnc, hcm⟩
section
variable {w w4 w5 : World} {base hw bm n : Nat} {fk fb fs vo vl v5 x : Value} {fp fr c : Int} {m : List Bool} {os : List (Int × List Int)} {l nx : List Int} {ov : List (Int × Value)}
theorem WalkP.push (h : WalkP w base hw bm n fk fb fp fr fs m os l vo vl ov) (hb4 : Below w.heap.size w w4) (hg : w4.grownBy w5 vo.ownBlock) (ho : OwV w5 base v5 (ov ++ [(c, x)])) (hv5 : v5.ownBlock = vo.ownBlock ∨ ∃ g, v5.ownBlock = some g ∧ w.heap.size ≤ g)
    (hx : VisOk w (Mut hw bm vo vl) (c, x) (c, nx)) : WalkP (w5.setCell ⟨hw, 6, none⟩ v5) base hw bm n fk fb fp fr fs m (os ++ [(c, nx)]) l v5 vl (ov ++ [(c, x)]) := by
  obtain ⟨n1, n2, n3, n4, n5, n6⟩ := h.ne
  have hwl := h.box.lt
  have hbl := h.met.lt
  have k5 : ∀ b, b < w.heap.size → vo.ownBlock ≠ some b → w5.heap[b]? = w.heap[b]? := fun b hb hn => (hg.block b (by have := hb4.size; omega) (fun e => hn e.symm)).trans (hb4.block b hb)
  have hv6 : ∀ b, b < w.heap.size → v5.ownBlock = some b → vo.ownBlock = some b := fun b hb e => by
    rcases hv5 with h5 | ⟨g, h5, h6⟩
    · rw [← h5]; exact e
    · rw [h5] at e; injection e with e; omega
  have kS : ∀ b, b < w.heap.size → b ≠ hw → vo.ownBlock ≠ some b → (w5.setCell ⟨hw, 6, none⟩ v5).heap[b]? = w.heap[b]? := fun b hb h1 h2 => (heap_setCell_other _ _ _ _ h1).trans (k5 b hb h2)
  have hsz : w.heap.size ≤ (w5.setCell ⟨hw, 6, none⟩ v5).heap.size := by rw [World.size_setCell]; have := hb4.size; have := hg.size; omega
  have hmv : ∀ p q, VisOk w (Mut hw bm vo vl) p q → VisOk (w5.setCell ⟨hw, 6, none⟩ v5) (Mut hw bm v5 vl) p q := fun p q hpq => hpq.move hsz (fun b hlt hm => kS b hlt (fun e => hm (.inl e)) (fun e => hm (.inr (.inr (.inl e))))) (fun b hlt hm => by
    rcases hm with hm | hm | hm | hm
    · exact .inl hm
    · exact .inr (.inl hm)
    · exact .inr (.inr (.inl (hv6 b hlt hm)))
    · exact .inr (.inr (.inr hm)))
  refine ⟨?_, (kS bm hbl (fun e => n1 e.symm) n3).trans h.met, h.len, ho.kept fun g hgv => heap_setCell_other _ _ _ _ (fun e => ?_), h.lft.kept' fun g hgv => kS g (h.lft.row' g hgv).2.1 (fun e => n4 (by rw [hgv, e])) (fun e => n6 g e hgv), by simp [h.vlen], fun i p q hp hq => ?_, h.hb⟩
  · have hb5 : Box w5 hw _ _ := (k5 hw hwl n2).trans h.box
    have := hb5.set 6 v5
    simpa using this
  · subst e
    exact n2 (hv6 _ hwl hgv)
  · by_cases hi : i < ov.length
    · rw [List.getElem?_append_left hi] at hp
      rw [List.getElem?_append_left (by rw [← h.vlen]; exact hi)] at hq
      exact hmv p q (h.vis i p q hp hq)
    · have hil : i = ov.length := by
        have := (List.getElem?_eq_some_iff.1 hp).1
        simp at this; omega
      subst hil
      rw [List.getElem?_append_right (Nat.le_refl _)] at hp
      rw [h.vlen, List.getElem?_append_right (Nat.le_refl _)] at hq
      simp at hp hq
      subst hp; subst hq
      exact hmv _ _ hx
end
set_option maxHeartbeats 1000000 in
set_option maxRecDepth 100000 in
theorem enter_any (f : FunV) (base hw bm : Nat) (fk fb fs vo vl : Value) (m : List Bool) (os : List (Int × List Int)) (l : List Int) (ov : List (Int × Value)) (c : Nat) (w : World) (B : Nat) (hB : B ≤ base) (hbase : base ≤ w.heap.size)
    (hi : FunI w (· < B) fk fb fs f) (hok : FlowOk f) (hc : c < f.blocks.length) (hW : WalkP w base hw bm f.blocks.length fk fb f.params f.result fs m os l vo vl ov) (hol : os.length < 1000) :
    Calls Try.prog 43 #[.pointer (some ⟨hw, 0, none⟩), .int .i64 (c : Int)] w fun e w' => e = .returned (.tuple #[]) ∧ (∃ vo' ov', WalkP w' base hw bm f.blocks.length fk fb f.params f.result fs (m.set c true) (os ++ [((c : Int), nxt f c)]) l vo' vl ov') ∧ Below base w w' := by
  have hbd := hW.hb
  obtain ⟨i0, hi0, hz0, hz1, hz2⟩ := info_parts info_visit
  have hM := hW.mark c
  have hb1 : Below base w (w.setCell ⟨bm, c, none⟩ (.bool true)) := (Below.refl _ _).setCell (p := ⟨bm, c, none⟩) hbd.2 _
  have hs1 : (w.setCell ⟨bm, c, none⟩ (.bool true)).heap.size = w.heap.size := World.size_setCell _ _ _
  have HNX := hide (fun (W : World) (hb : Below base w W) => (show Calls Try.prog 11 #[.agg #[fk, fb, .int .i64 f.params, .int .i64 f.result, fs], .int .i64 (c : Int)] W fun e w' => ∃ A c', e = .returned (.slice A (nxt f c).length c') ∧ Sl w' w'.heap.size .i64 A (nxt f c) ∧ (nxt f c).length ≤ c' ∧ c' ≤ 2 ∧ (∀ b o, A = some ⟨b, o, none⟩ → W.heap.size ≤ b) ∧ Below W.heap.size W w' by
    have h := fnextN_any fk fb fs f (c : Int) W B (by have := hb.size; omega) (hi.keep (Same'.of_below (hb.mono hB)) (fun _ h => h)) hok
    rw [nxtI_nat hc] at h
    exact h))
  have hmc : (m.map Value.bool).toArray[c]? = some (.bool (m.getD c false)) := by
    have : c < m.length := by rw [hW.len]; exact hc
    simp [List.getD, this]
  have e1 := (hW.met.cell c hmc).1
  have e2 := (hW.met.cell c hmc).2
  have b5 := (hW.box.cell 5 (v := .slice (some ⟨bm, 0, none⟩) f.blocks.length f.blocks.length) rfl).1
  obtain ⟨Ak, ck, rfl, -, -⟩ := hi.1.open'
  obtain ⟨Ab, cb, rfl, -, -⟩ := hi.2.1.open'
  obtain ⟨As, cs, rfl, -, -⟩ := hi.2.2.1.open'
  have hvl := hW.vlen
  have hblen := hok.1
  have hnl := nxt_len f c
  obtain ⟨nx, hnx⟩ : ∃ nx, nxt f c = nx := ⟨_, rfl⟩
  rw [hnx] at HNX hnl ⊢
  obtain ⟨nl, hnl'⟩ : ∃ nl, nx.length = nl := ⟨_, rfl⟩
  have HNL := hide hnl'
  rw [hnl'] at HNX hnl
  have HI := hide hi0
  have HM := hide hM
  have HB1 := hide hb1
  obtain ⟨Ao, co, rfl, -, -⟩ := hM.opn.sl
  obtain ⟨no, hno⟩ : ∃ no, ov.length = no := ⟨_, rfl⟩
  have HNO := hide hno
  rw [hno] at HM
  have HBH := hide (show base ≤ hw ∧ base ≤ bm from hbd)
  have hwl := hW.box.lt
  have hbl := hW.met.lt
  have hci : (0 : Int) ≤ (c : Int) := by omega
  generalize f.blocks.length = n at *
  have hcn : (c : Int) < (n : Int) := by omega
  generalize m.getD c false = mb at *
  generalize f.kinds.length = lk, f.base.length = lb, f.params = fp, f.result = fr at *
  have HOL := hide (show ov.length < 1000 by rw [hvl]; exact hol)
  clear hi hok hW hM hb1 hi0 hnx hnl' hno hmc hvl hol
  go_enter Try.func43, Try.ntmps43
  go_upto_region 1 with (fail)
  obtain ⟨w1, hw1⟩ : ∃ w1, w1 = w.setCell ⟨bm, c, none⟩ (.bool true) := ⟨_, rfl⟩
  rw [← hw1] at HM HB1 hs1 ⊢
  clear hw1 e1 e2 b5
  have bx := HM.out.box
  have x0 := (bx.cell 0 (v := .slice Ak lk ck) rfl).1
  have x1 := (bx.cell 1 (v := .slice Ab lb cb) rfl).1
  have x2 := (bx.cell 2 (v := .int .i64 fp) rfl).1
  have x3 := (bx.cell 3 (v := .int .i64 fr) rfl).1
  have x4 := (bx.cell 4 (v := .slice As n cs) rfl).1
  have x6 := (bx.cell 6 (v := .slice Ao no co) rfl).1
  have hwl1 : hw < w1.heap.size := by omega
  have HBX := hide bx
  have hbs1 : base ≤ w1.heap.size := by omega
  clear bx hbase hwl hbl hs1
  go_region_law
    (first
      | (refine step_append_visit (w3.alloc (.cells #[.int .i64 (c : Int), .slice A3 nl c3] 88)) (by rfl) _ _ _ (by rfl) base i0 _ Try.underlying66 HI.out hz0 hz1 hz2 rfl (.slice Ao no co) ov (by rfl) ((HM.out.opn.kept (fun g hg => HB3.out.block g (HM.out.opn.lt g hg).2)).kept (fun g hg => Below.heap_alloc _ _ _ (by have := (HM.out.opn.lt g hg).2; omega))) (c : Int) (.slice A3 nl c3) rfl w3.heap.size (Box.new w3 _ _) (by rfl) (by have := HOL.out; omega) (by simp only [World.size_alloc]; omega) ?_; intro g5 cap5 w5 ho5 hg5 hv5 hl5; have y6 := (hg5.cell_far ⟨hw, 6, none⟩ (by simp; omega) (Ne.symm hne)).trans ((World.cell?_alloc_lt w3 _ ⟨hw, 6, none⟩ (by simp; omega)).trans z6); have y6f := (hg5.frozen_far ⟨hw, 6, none⟩ (by simp; omega) (Ne.symm hne)).trans ((World.frozen?_of_block (a := ⟨hw, 6, none⟩) (w := w3) (Below.heap_alloc w3 _ hw (by omega))).trans z6f))
      | (rw [if_pos (by rfl)]; go_simp; go_at_call 11; refine (HNX.out (w1.drewN 1) (below_drewN HB1.out 1)).mono ?_; rintro e w3 ⟨A3, c3, rfl, hs3, hl3, hm3, hn3, hb0⟩; have hb3 : Below w1.heap.size w1 w3 := ⟨hb0.os, hb0.tape, hb0.output, hb0.size, hb0.block⟩; have hz3 := hb3.size; have hwl3 : hw < w3.heap.size := (by omega); have bx3 := HBX.out.below hb3; have z6 := (bx3.cell 6 (v := .slice Ao no co) rfl).1; have z6f := (bx3.cell 6 (v := .slice Ao no co) rfl).2; have hne := HM.out.ne.2.1; have HB3 := hide hb3; have HS3 := hide hs3; have HN3 := hide (show ∀ b o, A3 = some ⟨b, o, none⟩ → w1.heap.size ≤ b from hn3); clear hb0 hb3 bx3 hs3 hn3))
  all_goals
    have HVO := hide (show VisOk w3 (Mut hw bm (.slice Ao no co) vl) ((c : Int), .slice A3 nl c3) ((c : Int), nx) from ⟨rfl, A3, c3, by rw [HNL.out], by rw [HNL.out]; exact hl3, hm3, HS3.out, fun b o hA _ hm => by
      have h1 := HN3.out b o hA
      have h2 := HM.out.box.lt
      have h3 := HM.out.met.lt
      rcases hm with hm | hm | hm | hm
      · omega
      · omega
      · have := (HM.out.opn.lt b hm).2; omega
      · have := (HM.out.lft.row' b hm).2.1; omega⟩)
    have HE := hide ((HM.out.below HB3.out).push ((Below.refl _ _).alloc (Nat.le_refl _) _) hg5 ho5 (by
      rcases hv5 with h | h
      · exact .inl (by rw [h]; rfl)
      · exact .inr ⟨g5, rfl, by rw [h, World.size_alloc]; omega⟩) HVO.out)
    have HBF := hide ((((HB1.out.trans (HB3.out.mono hbs1)).alloc (by omega) (.cells #[.int .i64 (c : Int), .slice A3 nl c3] 88)).grown hg5 (by simp only [World.size_alloc]; omega) (fun k hk => (HM.out.opn.lt k hk).1)).setCell (p := ⟨hw, 6, none⟩) HBH.out.1 (.slice (some ⟨g5, 0, none⟩) (ov.length + 1) cap5))
    go_end0
    exact ⟨rfl, ⟨_, _, HE.out⟩, HBF.out⟩
end Go.Proofs.Ytpggjolbohffjaa
