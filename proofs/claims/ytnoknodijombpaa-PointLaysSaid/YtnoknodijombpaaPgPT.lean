/- Layer 14: the fixed fact, walked. No condition. -/
import Derived.Test.YtnoknodijombpaaPgPS
import Derived.Deep.CutRange
set_option linter.unusedSimpArgs false
set_option linter.unusedVariables false
namespace Go.Proofs.Ytnoknodijombpaa
open Go.RowKit

def At14 (w : World) (p : Value) (wx : World) : Prop := ∃ h Ak Ab As, p = .pointer (some ⟨h, 0, none⟩) ∧ Box wx h #[.slice Ak 1 1, .slice Ab 1 1, .int .i64 0, .int .i64 0, .slice As 3 3] 30 ∧ FunI wx (· < wx.heap.size) (.slice Ak 1 1) (.slice Ab 1 1) (.slice As 3 3) P14 ∧ Below w.heap.size w wx
theorem at14_of (w : World) : At14 w (.pointer (some ⟨w.heap.size + 1 + 1 + 1 + 1 + 1 + 1, 0, none⟩)) (WP14 w w.heap.size) := by
  obtain ⟨h1, h2, h3⟩ := P14_of w
  exact ⟨_, _, _, _, rfl, h1, h2, h3⟩
set_option maxHeartbeats 4000000 in
set_option maxRecDepth 100000 in
theorem alive14_any (w : World) : Calls Try.prog 18 #[] w fun e w' => e = .returned (.bool true) ∧ Below w.heap.size w w' := by
  go_enter Try.func18, Try.ntmps18
  go_upto_region 1 with (fail)
  go_cut [1] from 2 (fun p wx => At14 w p wx)
  case first =>
    go_wp2
    go_meet
    case rel => exact at14_of w
  case rest =>
    obtain ⟨h, Ak, Ab, As, rfl, hbx, hfi, hbc⟩ := hcut
    have HBC := hide hbc
    have HLY := hide (show Calls Try.prog 20 #[.agg #[.slice Ak 1 1, .slice Ab 1 1, .int .i64 0, .int .i64 0, .slice As 3 3]] wc fun e w' => ∃ v1 v2 v3, e = .returned (.tuple #[.agg #[v1, v2, .int .i64 0, .int .i64 0, v3], .int .i64 0]) ∧ FunI w' (NF w') v1 v2 v3 L14 ∧ Below wc.heap.size wc w' from
      (play_any _ _ _ P14 wc wc.heap.size (Nat.le_refl _) hfi p14_sok).mono fun e w' h => by
        obtain ⟨v1, v2, v3, h1, h2, h3⟩ := h.1 l14_fit
        rw [l14_eq] at h2
        exact ⟨v1, v2, v3, h1, h2, h3⟩)
    obtain ⟨c0, c1, c2, c3, c4⟩ := And.intro (hbx.cell 0 (v := .slice Ak 1 1) rfl).1 (And.intro (hbx.cell 1 (v := .slice Ab 1 1) rfl).1 (And.intro (hbx.cell 2 (v := .int .i64 0) rfl).1 (And.intro (hbx.cell 3 (v := .int .i64 0) rfl).1 (hbx.cell 4 (v := .slice As 3 3) rfl).1)))
    have lh := hbx.lt
    clear hbx hfi hbc
    go_upto_region 3 with (go_at_call 20; refine HLY.out.mono ?_; rintro e w3 ⟨v1, v2, v3, rfl, hf3, hb3⟩; obtain ⟨A1, k1, hv1, -, -⟩ := hf3.1.open'; obtain ⟨A2, k2, hv2, -, -⟩ := hf3.2.1.open'; obtain ⟨A4, k4, hv4, -, -⟩ := hf3.2.2.1.open'; rw [show L14.kinds.length = 1 from rfl] at hv1; rw [show L14.base.length = 1 from rfl] at hv2; rw [show L14.blocks.length = 4 from rfl] at hv4; subst hv1; subst hv2; subst hv4; have HF3 := hide hf3; have HB3 := hide hb3; clear hf3 hb3 c0 c1 c2 c3 c4 lh)
    obtain ⟨w4, hw4⟩ : ∃ w4, w4 = w3.alloc (.cells #[.slice A1 1 k1, .slice A2 1 k2, .int .i64 0, .int .i64 0, .slice A4 4 k4] 30) := ⟨_, rfl⟩
    obtain ⟨h8, hh8⟩ : ∃ h8, w3.heap.size = h8 := ⟨_, rfl⟩
    have HX4 := hide (show Box w4 h8 #[.slice A1 1 k1, .slice A2 1 k2, .int .i64 0, .int .i64 0, .slice A4 4 k4] 30 by rw [hw4, ← hh8]; exact Box.new w3 _ _)
    have HB4 := hide (show Below wc.heap.size wc w4 by rw [hw4]; exact HB3.out.trans ((alloc1 w3 _).mono HB3.out.size))
    have HF4 := hide (show FunI w4 (· < w4.heap.size) (.slice A1 1 k1) (.slice A2 1 k2) (.slice A4 4 k4) L14 by
      rw [hw4]
      exact (funI_NF HF3.out (fun x hx => (alloc1 w3 _ : Below w3.heap.size w3 _).block x hx.lt)).keep (fun _ _ _ => rfl) (fun b hb => hb.lt))
    rw [← hw4, hh8]
    clear hw4 hh8
    have HKX := hide (fun (W : World) (hW : Below w4.heap.size w4 W) => (show (W.cell? ⟨h8, 0, none⟩ = some (.slice A1 1 k1) ∧ W.cell? ⟨h8, 1, none⟩ = some (.slice A2 1 k2) ∧ W.cell? ⟨h8, 2, none⟩ = some (.int .i64 0) ∧ W.cell? ⟨h8, 3, none⟩ = some (.int .i64 0) ∧ W.cell? ⟨h8, 4, none⟩ = some (.slice A4 4 k4)) ∧ h8 < W.heap.size from
      ⟨⟨((HX4.out.below hW).cell 0 (v := .slice A1 1 k1) rfl).1, ((HX4.out.below hW).cell 1 (v := .slice A2 1 k2) rfl).1, ((HX4.out.below hW).cell 2 (v := .int .i64 0) rfl).1, ((HX4.out.below hW).cell 3 (v := .int .i64 0) rfl).1, ((HX4.out.below hW).cell 4 (v := .slice A4 4 k4) rfl).1⟩, (HX4.out.below hW).lt⟩))
    have HPT := hide (show Calls Try.prog 24 #[.agg #[.slice A1 1 k1, .slice A2 1 k2, .int .i64 0, .int .i64 0, .slice A4 4 k4]] w4 fun e w' => ∃ g c, e = .returned (.slice (some ⟨g, 0, none⟩) 1 c) ∧ (w'.cell? ⟨g, 0, none⟩ = some (.int .i64 3) ∧ w'.cell? ⟨g, 1, none⟩ = some (.int .i64 0) ∧ g < w'.heap.size) ∧ 1 ≤ c ∧ Below w4.heap.size w4 w' from
      (ppoints_any _ _ _ L14 w4 w4.heap.size (Nat.le_refl _) HF4.out (by decide) (by decide)).mono fun e w' h => by
        obtain ⟨v, h1, h2, h3⟩ := h
        rw [l14_pts] at h2
        obtain ⟨g, c, rfl, -, hg, hc, -, -⟩ := h2.blk (by decide)
        have t0 := (h2.at' rfl plC_len (j := 0) rfl (i := 0) (by omega)).1
        have t1 := (h2.at' rfl plC_len (j := 0) rfl (i := 1) (by omega)).1
        exact ⟨g, c, h1, ⟨t0, t1, hg⟩, hc, h3⟩)
    have HNM := hide (fun (W : World) (hW : Below w4.heap.size w4 W) (b i : Int) => (show Calls Try.prog 26 #[.agg #[.slice A1 1 k1, .slice A2 1 k2, .int .i64 0, .int .i64 0, .slice A4 4 k4], .int .i64 b, .int .i64 i] W fun e w' => e = .returned (.int .i64 (idxP [(3, 0)] (b, i))) ∧ Below W.heap.size W w' from by
      rw [← l14_pts]
      exact pnumber_any _ _ _ L14 b i W w4.heap.size hW.size (HF4.out.keep (up hW (Nat.le_refl _)) (fun _ h => h)) (by decide) (by decide)))
    obtain ⟨⟨c0, c1, c2, c3, c4⟩, lh8⟩ := HKX.out w4 (Below.refl _ _)
    go_upto_region 4 with (go_at_call 24; refine HPT.out.mono ?_; rintro e w5 ⟨g5, k5, rfl, hc5, hk5, hb5⟩; have HC5 := hide hc5; have HB5 := hide hb5; have p5 := HKX.out w5 hb5; clear hc5 hb5 c0 c1 c2 c3 c4 lh8)
    obtain ⟨⟨c0, c1, c2, c3, c4⟩, lh8⟩ := p5
    obtain ⟨d0, d1, lg5⟩ := HC5.out
    have HI5 := hide (pis_any 10 w5)
    have HN5 := hide (HNM.out w5 HB5.out 3 0)
    rw [show isPt 10 = true from rfl] at HI5
    rw [show idxP [(3, 0)] (3, 0) = 0 from by decide] at HN5
    have HN6 := hide (fun (W : World) (hW : Below w4.heap.size w4 W) => (show Calls Try.prog 26 #[.agg #[.slice A1 1 k1, .slice A2 1 k2, .int .i64 0, .int .i64 0, .slice A4 4 k4], .int .i64 3, .int .i64 1] W fun e w' => e = .returned (.int .i64 (-1)) ∧ Below W.heap.size W w' from by
      have t := HNM.out W hW 3 1
      rw [show idxP [(3, 0)] (3, 1) = -1 from by decide] at t
      exact t))
    go_wp2_with (first
      | (go_at_call 26; refine (HN6.out w7 HB7.out).mono ?_; rintro e w8 ⟨rfl, hb8⟩; have HB8 := hide (HB7.out.trans (hb8.mono HB7.out.size)); clear hb8 e0 e1 e2 e3 e4 eh8)
      | (go_at_call 26; refine HN5.out.mono ?_; rintro e w7 ⟨rfl, hb7⟩; have hc7 := HB5.out.trans (hb7.mono HB5.out.size); obtain ⟨⟨e0, e1, e2, e3, e4⟩, eh8⟩ := HKX.out w7 hc7; have HB7 := hide hc7; clear hb7 hc7 c0 c1 c2 c3 c4 lh8 d0 d1 lg5)
      | (go_at_call 28; refine HI5.out.mono ?_; rintro e w6 ⟨rfl, rfl⟩))
    go_ret
    exact ⟨by first | rfl | simp, HBC.out.trans ((HB4.out.trans (HB8.out.mono HB4.out.size)).mono HBC.out.size)⟩
end Go.Proofs.Ytnoknodijombpaa
