/- Layer 13: the fixed fact, walked. No condition. -/
import Derived.Test.YtnoknodijombpaaDoorPhDL
import Derived.Deep.CutRange
set_option linter.unusedSimpArgs false
set_option linter.unusedVariables false
namespace Go.Proofs.YtnoknodijombpaaDoor
open Go.RowKit

/-- What was split, as a function in memory. -/
theorem spl_funI {f : FunV} {vk vb vs v1 v2 v3 : Value} {l : List (List InsV × Value)} {w0 w : World} {base B : Nat} (hi : FunI w0 (· < B) vk vb vs f) (h1 : Ow w base 3 .i64 v1 f.kinds) (h2 : Ow w base 3 .i64 v2 f.base) (hm : BlkM w base v3 l) (hl : l.map (·.1) = (splitF f).blocks) : FunI w (· < w.heap.size) v1 v2 v3 (splitF f) := by
  obtain ⟨-, -, -, -, -, -, hR1⟩ := hi.1.sl
  obtain ⟨-, -, -, -, -, -, hR2⟩ := hi.2.1.sl
  refine ⟨ints_vec h1 hR1 (fun b hb => (h1.row' b hb).2.1), ints_vec h2 hR2 (fun b hb => (h2.row' b hb).2.1), ?_, hi.2.2.2.1, hi.2.2.2.2⟩
  have t := hm.blks
  rw [hl] at t
  exact t
def At13 (w : World) (p : Value) (wx : World) : Prop := ∃ h Ak Ab As, p = .pointer (some ⟨h, 0, none⟩) ∧ Box wx h #[.slice Ak 1 1, .slice Ab 1 1, .int .i64 0, .int .i64 0, .slice As 3 3] 34 ∧ FunI wx (· < wx.heap.size) (.slice Ak 1 1) (.slice Ab 1 1) (.slice As 3 3) P13 ∧ Below w.heap.size w wx
theorem at13_of (w : World) : At13 w (.pointer (some ⟨w.heap.size + 1 + 1 + 1 + 1 + 1 + 1, 0, none⟩)) (WP13 w w.heap.size) := by
  obtain ⟨h1, h2, h3⟩ := P13_of w
  exact ⟨_, _, _, _, rfl, h1, h2, h3⟩
set_option maxHeartbeats 4000000 in
set_option maxRecDepth 100000 in
theorem alive13_any (w : World) : Calls Tryd.prog 4 #[] w fun e w' => e = .returned (.bool true) ∧ Below w.heap.size w w' := by
  go_enter Tryd.func4, Tryd.ntmps4
  go_upto_region 1 with (fail)
  go_cut [1] from 2 (fun p wx => At13 w p wx)
  case first =>
    go_wp2
    go_meet
    case rel => exact at13_of w
  case rest =>
    obtain ⟨h, Ak, Ab, As, rfl, hbx, hfi, hbc⟩ := hcut
    have HBC := hide hbc
    have HFI := hide hfi
    have HK := hide (fun (W : World) (hW : Below wc.heap.size wc W) => And.intro ((hbx.below hW).cell 0 (v := .slice Ak 1 1) rfl).1 (And.intro ((hbx.below hW).cell 1 (v := .slice Ab 1 1) rfl).1 (And.intro ((hbx.below hW).cell 2 (v := .int .i64 0) rfl).1 (And.intro ((hbx.below hW).cell 3 (v := .int .i64 0) rfl).1 ((hbx.below hW).cell 4 (v := .slice As 3 3) rfl).1))))
    have kf := fun (W : World) (hW : Below wc.heap.size wc W) => hfi.keep (w := wc) (up hW (Nat.le_refl _)) (fun _ h => h)
    have HCR := hide (fun (W : World) (hW : Below wc.heap.size wc W) => (show Calls Tryd.prog 8 #[.agg #[.slice Ak 1 1, .slice Ab 1 1, .int .i64 0, .int .i64 0, .slice As 3 3]] W fun e w' => ∃ A c, e = .returned (.slice A 1 c) ∧ EdgS w' w'.heap.size A [(0, 2)] ∧ Below W.heap.size W w' from
      (ecritical_any _ _ _ P13 W wc.heap.size hW.size (kf W hW) p13_ok (by decide)).mono fun e w' ⟨A, c, h1, h2, h3, h4, h5, h6⟩ => by
        rw [p13_crit] at h1 h2
        exact ⟨A, c, h1, h2, h6⟩))
    have HSP := hide (fun (W : World) (hW : Below wc.heap.size wc W) => (show Calls Tryd.prog 10 #[.agg #[.slice Ak 1 1, .slice Ab 1 1, .int .i64 0, .int .i64 0, .slice As 3 3]] W fun e w' => ∃ v1 v2 v3, e = .returned (.tuple #[.agg #[v1, v2, .int .i64 0, .int .i64 0, v3], .int .i64 0]) ∧ FunI w' (· < w'.heap.size) v1 v2 v3 G13 ∧ Below W.heap.size W w' from
      (esplit_any _ _ _ P13 W wc.heap.size hW.size (kf W hW) p13_ok (by decide) (by decide) (by decide) (by decide)).mono fun e w' h => by
        obtain ⟨v1, v2, v3, l, h1, h2, h3, h4, h5, h6⟩ := h.1 p13_fit
        exact ⟨v1, v2, v3, h1, spl_funI hfi h2 h3 h4 h5, h6⟩))
    have HCG := hide (fun (W : World) (v1 v2 v3 : Value) (hi : FunI W (· < W.heap.size) v1 v2 v3 G13) => (show Calls Tryd.prog 8 #[.agg #[v1, v2, .int .i64 0, .int .i64 0, v3]] W fun e w' => ∃ A c, e = .returned (.slice A 0 c) ∧ Below W.heap.size W w' from
      (ecritical_any _ _ _ G13 W W.heap.size (Nat.le_refl _) hi g13_ok (by decide)).mono fun e w' ⟨A, c, h1, h2, h3, h4, h5, h6⟩ => by
        rw [g13_crit] at h1
        exact ⟨A, c, h1, h6⟩))
    obtain ⟨c0, c1, c2, c3, c4⟩ := HK.out wc (Below.refl _ _)
    have lh := hbx.lt
    -- the branch of f: its second number
    obtain ⟨bB, oB, A0, k0, hAs, hbB, g0, hx0⟩ := hfi.2.2.1.get (k := 0) rfl
    subst hAs
    obtain ⟨bC, oC, A9, k9, hA0, hbC, ⟨-, -, -, -, -, g5, -⟩, -⟩ := hx0.get (k := 0) rfl
    subst hA0
    have HG0 := hide (fun (W : World) (hW : Below wc.heap.size wc W) => (World.cell?_of_block (a := ⟨bB, oB + 0, none⟩) (hW.block bB hbB)).trans g0)
    have HG5 := hide (fun (W : World) (hW : Below wc.heap.size wc W) => (World.cell?_of_block (a := ⟨bC, oC + 0 * 7 + 5, none⟩) (hW.block bC hbC)).trans g5)
    have hbB1 : bB < wc.heap.size := hbB
    have hbC1 : bC < wc.heap.size := hbC
    clear hbx hfi hbc kf g0 g5 hx0
    go_upto_region 3 with (go_at_call 8; refine (HCR.out wc (Below.refl _ _)).mono ?_; rintro e w3 ⟨A3, k3, rfl, hs3, hb3⟩; have HS3 := hide hs3; have HB3 := hide hb3; have p3 := HK.out w3 hb3; clear hs3 hb3 c0 c1 c2 c3 c4)
    obtain ⟨c0, c1, c2, c3, c4⟩ := p3
    have w3s := HB3.out.size
    obtain ⟨be, oe, rfl, hbe, hce⟩ := HS3.out (by simp)
    obtain ⟨z1, z2⟩ := hce 0 (0, 2) rfl
    have HZ1 := hide (fun (W : World) (hW : Below w3.heap.size w3 W) => (hW.cell (p := ⟨be, oe + 0 * 2, none⟩) hbe).trans z1)
    have HZ2 := hide (fun (W : World) (hW : Below w3.heap.size w3 W) => (hW.cell (p := ⟨be, oe + 0 * 2 + 1, none⟩) hbe).trans z2)
    clear hce z1 z2
    go_upto_region 4 with (go_at_call 10; refine (HSP.out w3 HB3.out).mono ?_; rintro e w4 ⟨v1, v2, v3, rfl, hf4, hb4⟩; obtain ⟨A1, k1, hv1, -, -⟩ := hf4.1.open'; obtain ⟨A2, k2, hv2, -, -⟩ := hf4.2.1.open'; obtain ⟨A4, k4, hv4, -, -⟩ := hf4.2.2.1.open'; rw [show G13.kinds.length = 1 from rfl] at hv1; rw [show G13.base.length = 1 from rfl] at hv2; rw [show G13.blocks.length = 4 by decide] at hv4; subst hv1; subst hv2; subst hv4; have HF4 := hide hf4; have HB4 := hide hb4; clear hf4 hb4 c0 c1 c2 c3 c4)
    obtain ⟨w5, hw5⟩ : ∃ w5, w5 = w4.alloc (.cells #[.slice A1 1 k1, .slice A2 1 k2, .int .i64 0, .int .i64 0, .slice A4 4 k4] 34) := ⟨_, rfl⟩
    obtain ⟨h8, hh8⟩ : ∃ h8, w4.heap.size = h8 := ⟨_, rfl⟩
    have HX8 := hide (show Box w5 h8 #[.slice A1 1 k1, .slice A2 1 k2, .int .i64 0, .int .i64 0, .slice A4 4 k4] 34 by rw [hw5, ← hh8]; exact Box.new w4 _ _)
    have HB5 := hide (show Below w4.heap.size w4 w5 by rw [hw5]; exact alloc1 w4 _)
    have w4s := HB4.out.size
    have w5s := HB5.out.size
    have HF5 := hide (HF4.out.keep (w' := w5) (S' := (· < w5.heap.size)) (up HB5.out (Nat.le_refl _)) (fun b h => by omega))
    rw [← hw5, hh8]
    clear hw5 hh8
    have HB35 := hide (HB4.out.trans (HB5.out.mono w4s))
    have HC5 := hide (HB3.out.trans (HB35.out.mono w3s))
    obtain ⟨c0, c1, c2, c3, c4⟩ := HK.out w5 HC5.out
    have g0 := HG0.out w5 HC5.out
    have g5 := HG5.out w5 HC5.out
    have z1 := HZ1.out w5 HB35.out
    have z2 := HZ2.out w5 HB35.out
    obtain ⟨bD, oD, A7, k7, hA4, hbD, g7, hx7⟩ := HF5.out.2.2.1.get (k := 0) (y := [⟨22, 0, 0, 0, 1, 3, []⟩]) (by decide)
    subst hA4
    obtain ⟨bF, oF, A8, k8, hA7, hbF, ⟨-, -, -, -, -, g8, -⟩, -⟩ := hx7.get (k := 0) rfl
    subst hA7
    have l8 := HX8.out.lt
    have x0 := (HX8.out.cell 0 (v := .slice A1 1 k1) rfl).1
    have x1 := (HX8.out.cell 1 (v := .slice A2 1 k2) rfl).1
    have x2 := (HX8.out.cell 2 (v := .int .i64 0) rfl).1
    have x3 := (HX8.out.cell 3 (v := .int .i64 0) rfl).1
    have x4 := (HX8.out.cell 4 (v := .slice (some ⟨bD, oD, none⟩) 4 k4) rfl).1
    have hbD1 : bD < w5.heap.size := hbD
    have hbF1 : bF < w5.heap.size := hbF
    have lh5 : h < w5.heap.size := by omega
    have lb5 : bB < w5.heap.size := by omega
    have lc5 : bC < w5.heap.size := by omega
    have le5 : be < w5.heap.size := by omega
    have HCG5 := hide (HCG.out w5 _ _ _ HF5.out)
    simp only [Nat.zero_mul, Nat.add_zero] at z1 z2 g0 g5 g7 g8
    clear hx7 HF4
    go_wp2_with (go_at_call 8; refine HCG5.out.mono ?_; rintro e w6 ⟨A6, k6, rfl, hb6⟩; have HB6 := hide (HC5.out.trans (hb6.mono HC5.out.size)); clear hb6)
    go_ret
    exact ⟨by first | rfl | simp, HBC.out.trans (HB6.out.mono HBC.out.size)⟩
end Go.Proofs.YtnoknodijombpaaDoor
