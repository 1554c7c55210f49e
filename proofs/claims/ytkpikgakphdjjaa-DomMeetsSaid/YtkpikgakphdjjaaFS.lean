/- The contract of the walk's step where a block is left to try on top. Condition: what comes next is there. -/
import Derived.Test.YtkpikgakphdjjaaFZ
set_option linter.unusedSimpArgs false
set_option linter.unusedVariables false
namespace Go.Proofs.Ytkpikgakphdjjaa
open Go.RowKit
attribute [local go_sem ↓] Go.wp_at_zero Go.wp_at_succ

set_option maxHeartbeats 2000000 in
set_option maxRecDepth 100000 in
theorem step_old (base hw bm n : Nat) (fk fb fs vo vl : Value) (fp fr b : Int) (c : Nat) (cs : List Int) (m : List Bool) (os : List (Int × List Int)) (l : List Int) (ov : List (Int × Value)) (w : World) (hbase : base ≤ w.heap.size)
    (hW : WalkP w base hw bm n fk fb fp fr fs m (os ++ [(b, (c : Int) :: cs)]) l vo vl ov) (hol : os.length < 1000) (hc : c < n) (hm : m.getD c false = true) :
    Calls Try.prog 51 #[.pointer (some ⟨hw, 0, none⟩)] w fun e w' => e = .returned (.tuple #[]) ∧ (∃ vo' vl' ov', WalkP w' base hw bm n fk fb fp fr fs m (os ++ [(b, cs)]) l vo' vl' ov') ∧ Below base w w' := by
  obtain ⟨ov0, A, c3, g, cap, rfl, rfl, hl0, hcap, hcm, hbg, hgl, t0, t1, t1f, hnc, hc2, hs, hM⟩ := hW.top
  have hbh := hW.hb.1
  have hwl := hW.box.lt
  have hbl := hW.met.lt
  obtain ⟨b3, o3, rfl, hb3, hc3⟩ := hs (by simp)
  have k0 := hc3 0 (by simp)
  simp only [Nat.add_zero, List.getD_cons_zero] at k0
  have hgb3 : b3 ≠ g := fun e => hM b3 o3 rfl (by simp) (.inr (.inr (.inl (by rw [e]; rfl))))
  obtain ⟨no, hno⟩ : ∃ no, ov0.length = no := ⟨_, rfl⟩
  have HNO := hide hno
  have HLAT := hide (fun (W : World) (y : Value) (hb : Below w.heap.size w W) (hy : VisOk W (Mut hw bm (.slice (some ⟨g, 0, none⟩) (ov0.length + 1) cap) vl) (b, y) (b, cs)) => (hW.below hb).later (y := y) (cs := cs) hy)
  have HVO := hide (fun (W : World) (hb : Below w.heap.size w W) (o' c' : Nat) (h1 : cs.length ≤ c') (h2 : c' ≤ 2) (h3 : 0 < cs.length → o' = o3 + 1) => (show VisOk W (Mut hw bm (.slice (some ⟨g, 0, none⟩) (ov0.length + 1) cap) vl) (b, .slice (some ⟨b3, o', none⟩) cs.length c') (b, cs) from ⟨rfl, _, _, rfl, h1, h2, ((hs.below hb).more hb.size).drop (i := 1) (fun hl b o he => by
      injection he with he
      injection he with e1 e2
      rw [h3 (by simp at hl; omega), e1, e2]), fun b' o'' he hp => by
      injection he with he
      injection he with e1 e2
      subst e1
      exact hM _ o3 rfl (by simp)⟩))
  rw [hno] at hcap hl0 t0 t1 t1f HLAT HVO
  have hno1 : no < 1000 := by omega
  have hmc : (m.map Value.bool).toArray[c]? = some (.bool (m.getD c false)) := by
    have : c < m.length := by rw [hW.len]; exact hc
    simp [List.getD, this]
  have mc := (hW.met.cell c hmc).1
  have b5 := (hW.box.cell 5 (v := .slice (some ⟨bm, 0, none⟩) n n) rfl).1
  have b6 := (hW.box.cell 6 (v := .slice (some ⟨g, 0, none⟩) (ov0.length + 1) cap) rfl).1
  rw [hno] at b6
  have hgne : g ≠ hw := fun e => hW.ne.2.1 (by rw [e]; rfl)
  have hgbm : g ≠ bm := fun e => hW.ne.2.2.1 (by rw [e]; rfl)
  have hcl2 : cap ≤ 9223372036854775807 := by simp only [maxLen] at hcm; omega
  have e1 : IntKind.i64.wrap ((no : Int) + 1 - 1) = (no : Int) := by rw [Int.add_sub_cancel]; exact IntWalk.i64_in _ ⟨by omega, by omega⟩
  have hi1 : (0 : Int) ≤ (no : Int) := by omega
  have hi2 : (no : Int) < (no : Int) + 1 := by omega
  have hci : (0 : Int) ≤ (c : Int) := by omega
  have hcn : (c : Int) < (n : Int) := by omega
  have hgw : hw ≠ g := fun e => hgne e.symm
  have hgm : bm ≠ g := fun e => hgbm e.symm
  rw [show m.getD c false = true from hm] at mc
  obtain ⟨ncs, hncs⟩ : ∃ ncs, cs.length = ncs := ⟨_, rfl⟩
  simp only [List.length_cons, hncs] at hnc t1
  rw [hncs] at HVO
  have h3 : (ncs = 0 ∧ c3 = 1) ∨ (ncs = 0 ∧ c3 = 2) ∨ (ncs = 1 ∧ c3 = 2) := by omega
  have HW := hide hW
  clear hW hno hs hM hc3 hmc hnc hc2 hncs hcm hl0 hm
  have hwsz : base ≤ w.heap.size := hbase
  rcases h3 with ⟨rfl, rfl⟩ | ⟨rfl, rfl⟩ | ⟨rfl, rfl⟩
  all_goals
    go_enter Try.func51, Try.ntmps51
    go_wp2_with fail
    go_quiet (fail)
    go_wp2_with fail
    go_end0
    first
      | exact ⟨rfl, ⟨_, _, _, (HLAT.out (w.drewN nq) _ (below_drewN (Below.refl _ _) nq) (HVO.out (w.drewN nq) (below_drewN (Below.refl _ _) nq) o3 0 (by omega) (by omega) (by omega)))⟩, (below_drewN (Below.refl base w) nq).setCell (p := ⟨g, no * 2 + 1, none⟩) hbg _⟩
      | exact ⟨rfl, ⟨_, _, _, (HLAT.out (w.drewN nq) _ (below_drewN (Below.refl _ _) nq) (HVO.out (w.drewN nq) (below_drewN (Below.refl _ _) nq) (o3 + 1) 1 (by omega) (by omega) (by omega)))⟩, (below_drewN (Below.refl base w) nq).setCell (p := ⟨g, no * 2 + 1, none⟩) hbg _⟩
set_option maxHeartbeats 2000000 in
set_option maxRecDepth 100000 in
theorem step_new (f : FunV) (base hw bm : Nat) (fk fb fs vo vl : Value) (b : Int) (c : Nat) (cs : List Int) (m : List Bool) (os : List (Int × List Int)) (l : List Int) (ov : List (Int × Value)) (w : World) (B : Nat) (hB : B ≤ base) (hbase : base ≤ w.heap.size)
    (hi : FunI w (· < B) fk fb fs f) (hok : FlowOk f)
    (hW : WalkP w base hw bm f.blocks.length fk fb f.params f.result fs m (os ++ [(b, (c : Int) :: cs)]) l vo vl ov) (hol : os.length < 900) (hc : c < f.blocks.length) (hm : m.getD c false = false) :
    Calls Try.prog 51 #[.pointer (some ⟨hw, 0, none⟩)] w fun e w' => e = .returned (.tuple #[]) ∧ (∃ vo' vl' ov', WalkP w' base hw bm f.blocks.length fk fb f.params f.result fs (m.set c true) (os ++ [(b, cs)] ++ [((c : Int), nxt f c)]) l vo' vl' ov') ∧ Below base w w' := by
  have HEN := hide (fun (W : World) (vo : Value) (ov : List (Int × Value)) (hb : Below base w W) (hW : WalkP W base hw bm f.blocks.length fk fb f.params f.result fs m (os ++ [(b, cs)]) l vo vl ov) => enter_any f base hw bm fk fb fs vo vl m (os ++ [(b, cs)]) l ov c W B hB (by have := hb.size; omega) (hi.keep (Same'.of_below (hb.mono hB)) (fun _ h => h)) hok hc hW (by simp; omega))
  clear hi hok
  obtain ⟨nx, hnx⟩ : ∃ nx, nxt f c = nx := ⟨_, rfl⟩
  rw [hnx] at HEN ⊢
  clear hnx
  generalize f.blocks.length = n, f.params = fp, f.result = fr at *
  obtain ⟨ov0, A, c3, g, cap, rfl, rfl, hl0, hcap, hcm, hbg, hgl, t0, t1, t1f, hnc, hc2, hs, hM⟩ := hW.top
  have hbh := hW.hb.1
  have hwl := hW.box.lt
  have hbl := hW.met.lt
  obtain ⟨b3, o3, rfl, hb3, hc3⟩ := hs (by simp)
  have k0 := hc3 0 (by simp)
  simp only [Nat.add_zero, List.getD_cons_zero] at k0
  have hgb3 : b3 ≠ g := fun e => hM b3 o3 rfl (by simp) (.inr (.inr (.inl (by rw [e]; rfl))))
  obtain ⟨no, hno⟩ : ∃ no, ov0.length = no := ⟨_, rfl⟩
  have HNO := hide hno
  have HLAT := hide (fun (W : World) (y : Value) (hb : Below w.heap.size w W) (hy : VisOk W (Mut hw bm (.slice (some ⟨g, 0, none⟩) (ov0.length + 1) cap) vl) (b, y) (b, cs)) => (hW.below hb).later (y := y) (cs := cs) hy)
  have HVO := hide (fun (W : World) (hb : Below w.heap.size w W) (o' c' : Nat) (h1 : cs.length ≤ c') (h2 : c' ≤ 2) (h3 : 0 < cs.length → o' = o3 + 1) => (show VisOk W (Mut hw bm (.slice (some ⟨g, 0, none⟩) (ov0.length + 1) cap) vl) (b, .slice (some ⟨b3, o', none⟩) cs.length c') (b, cs) from ⟨rfl, _, _, rfl, h1, h2, ((hs.below hb).more hb.size).drop (i := 1) (fun hl b o he => by
      injection he with he
      injection he with e1 e2
      rw [h3 (by simp at hl; omega), e1, e2]), fun b' o'' he hp => by
      injection he with he
      injection he with e1 e2
      subst e1
      exact hM _ o3 rfl (by simp)⟩))
  rw [hno] at hcap hl0 t0 t1 t1f HLAT HVO
  have hno1 : no < 1000 := by omega
  have hmc : (m.map Value.bool).toArray[c]? = some (.bool (m.getD c false)) := by
    have : c < m.length := by rw [hW.len]; exact hc
    simp [List.getD, this]
  have mc := (hW.met.cell c hmc).1
  have b5 := (hW.box.cell 5 (v := .slice (some ⟨bm, 0, none⟩) n n) rfl).1
  have b6 := (hW.box.cell 6 (v := .slice (some ⟨g, 0, none⟩) (ov0.length + 1) cap) rfl).1
  rw [hno] at b6
  have hgne : g ≠ hw := fun e => hW.ne.2.1 (by rw [e]; rfl)
  have hgbm : g ≠ bm := fun e => hW.ne.2.2.1 (by rw [e]; rfl)
  have hcl2 : cap ≤ 9223372036854775807 := by simp only [maxLen] at hcm; omega
  have e1 : IntKind.i64.wrap ((no : Int) + 1 - 1) = (no : Int) := by rw [Int.add_sub_cancel]; exact IntWalk.i64_in _ ⟨by omega, by omega⟩
  have hi1 : (0 : Int) ≤ (no : Int) := by omega
  have hi2 : (no : Int) < (no : Int) + 1 := by omega
  have hci : (0 : Int) ≤ (c : Int) := by omega
  have hcn : (c : Int) < (n : Int) := by omega
  have hgw : hw ≠ g := fun e => hgne e.symm
  have hgm : bm ≠ g := fun e => hgbm e.symm
  rw [show m.getD c false = false from hm] at mc
  obtain ⟨ncs, hncs⟩ : ∃ ncs, cs.length = ncs := ⟨_, rfl⟩
  simp only [List.length_cons, hncs] at hnc t1
  rw [hncs] at HVO
  have h3 : (ncs = 0 ∧ c3 = 1) ∨ (ncs = 0 ∧ c3 = 2) ∨ (ncs = 1 ∧ c3 = 2) := by omega
  have HW := hide hW
  clear hW hno hs hM hc3 hmc hnc hc2 hncs hcm hl0 hm
  rcases h3 with ⟨rfl, rfl⟩ | ⟨rfl, rfl⟩ | ⟨rfl, rfl⟩
  all_goals
    go_enter Try.func51, Try.ntmps51
    go_wp2_with fail
    go_quiet (fail)
    go_wp2_with (first
      | (go_at_call 50; refine (HEN.out _ _ _ ((below_drewN (Below.refl base w) nq).setCell (p := ⟨g, no * 2 + 1, none⟩) hbg (.slice (some ⟨b3, o3, none⟩) 0 0)) (HLAT.out (w.drewN nq) _ (below_drewN (Below.refl _ _) nq) (HVO.out (w.drewN nq) (below_drewN (Below.refl _ _) nq) o3 0 (by omega) (by omega) (by omega)))).mono ?_; rintro e w3 ⟨rfl, ⟨vo', ov', hE⟩, hbE⟩; have HE := hide hE; have HBE := hide (((below_drewN (Below.refl base w) nq).setCell (p := ⟨g, no * 2 + 1, none⟩) hbg (.slice (some ⟨b3, o3, none⟩) 0 0)).trans hbE); clear hE hbE)
      | (go_at_call 50; refine (HEN.out _ _ _ ((below_drewN (Below.refl base w) nq).setCell (p := ⟨g, no * 2 + 1, none⟩) hbg (.slice (some ⟨b3, o3 + 1, none⟩) 0 1)) (HLAT.out (w.drewN nq) _ (below_drewN (Below.refl _ _) nq) (HVO.out (w.drewN nq) (below_drewN (Below.refl _ _) nq) (o3 + 1) 1 (by omega) (by omega) (by omega)))).mono ?_; rintro e w3 ⟨rfl, ⟨vo', ov', hE⟩, hbE⟩; have HE := hide hE; have HBE := hide (((below_drewN (Below.refl base w) nq).setCell (p := ⟨g, no * 2 + 1, none⟩) hbg (.slice (some ⟨b3, o3 + 1, none⟩) 0 1)).trans hbE); clear hE hbE)
      | (go_at_call 50; refine (HEN.out _ _ _ ((below_drewN (Below.refl base w) nq).setCell (p := ⟨g, no * 2 + 1, none⟩) hbg (.slice (some ⟨b3, o3 + 1, none⟩) 1 1)) (HLAT.out (w.drewN nq) _ (below_drewN (Below.refl _ _) nq) (HVO.out (w.drewN nq) (below_drewN (Below.refl _ _) nq) (o3 + 1) 1 (by omega) (by omega) (by omega)))).mono ?_; rintro e w3 ⟨rfl, ⟨vo', ov', hE⟩, hbE⟩; have HE := hide hE; have HBE := hide (((below_drewN (Below.refl base w) nq).setCell (p := ⟨g, no * 2 + 1, none⟩) hbg (.slice (some ⟨b3, o3 + 1, none⟩) 1 1)).trans hbE); clear hE hbE))
    go_end0
    exact ⟨rfl, ⟨_, _, _, HE.out⟩, HBE.out⟩
end Go.Proofs.Ytkpikgakphdjjaa
