/- The statement CodeEncodes, walked: it answers true. Condition: the table of parts reads as listed. -/
import Derived.Test.YtpgljbjgbjjcnaaDoorREnc
import Derived.Test.YtpgljbjgbjjcnaaDoorCOnce
set_option linter.unusedSimpArgs false
set_option linter.unusedVariables false
namespace Go.Proofs.YtpgljbjgbjjcnaaDoor
open Go.RowKit

set_option maxHeartbeats 2000000 in
set_option maxRecDepth 100000 in
theorem encodes_law (vp vq : Value) (p q : List FunV) (w : World) (hT : TabP w) (hp : FunsV w (· < w.heap.size) vp p) (hq : FunsV w (· < w.heap.size) vq q) :
    Calls Tryd.prog 3 #[.agg #[vp], .agg #[vq]] w fun e w' => e = .returned (.bool true) ∧ Below w.heap.size w w' := by
  have kp := fun (W : World) (hW : Below w.heap.size w W) => hp.keep (up hW (Nat.le_refl _)) (fun _ h => h)
  have kq := fun (W : World) (hW : Below w.heap.size w W) => hq.keep (up hW (Nat.le_refl _)) (fun _ h => h)
  obtain ⟨A, c, rfl, -, -⟩ := hp.open'
  obtain ⟨A', c', rfl, -, -⟩ := hq.open'
  have HA := hide (fun (W : World) (hW : Below w.heap.size w W) => alive_any W (hT.below hW hT.1))
  have HG := hide (fun (W : World) (hW : Below w.heap.size w W) => great_any _ p W w.heap.size hW.size (kp W hW))
  have HG2 := hide (fun (W : World) (hW : Below w.heap.size w W) => great_any _ q W w.heap.size hW.size (kq W hW))
  have HE := hide (fun (W : World) (hW : Below w.heap.size w W) => encode_any _ p W w.heap.size hW.size (hT.below hW hT.1) (kp W hW))
  have HE2 := hide (fun (W : World) (hW : Below w.heap.size w W) => rencode_any _ p W ((kp W hW).keep (fun _ _ _ => rfl) (fun b h => by have := hW.size; omega)))
  have HS := hide (fun (W : World) (hW : Below w.heap.size w W) => sameP_any _ _ p q W w.heap.size hW.size (kp W hW) (kq W hW))
  have HRS := hide (fun (W : World) (hW : Below w.heap.size w W) => rsame_any _ _ p q W w.heap.size hW.size (kp W hW) (kq W hW))
  have HSS := hide (fun (W : World) (hW : Below w.heap.size w W) => (sameP_any _ _ p p W w.heap.size hW.size (kp W hW) (kp W hW)).mono (R' := fun e w' => e = .returned (.bool true) ∧ Below W.heap.size W w') (fun e w' ⟨h1, h2⟩ => ⟨by rw [h1]; simp, h2⟩))
  generalize p.length = lp at *
  generalize q.length = lq at *
  unfold EncA at HE
  unfold REncA at HE2
  generalize encR p = ep at *
  obtain ⟨ea, en⟩ := ep
  simp only at HE HE2
  generalize decide (p = q) = bpq at *
  clear kp kq hp hq hT
  go_enter Tryd.func3, Tryd.ntmps3
  go_upto_region 3 with (go_at_call 13; refine (HA.out _ (alloc2 w _ _)).mono ?_; rintro e w1 ⟨rfl, hb1⟩; have hz1 := hb1.size; simp only [World.size_alloc] at hz1 hb1; have x1 := (hb1.cell (p := ⟨w.heap.size, 0, none⟩) (by show w.heap.size < _; omega)).trans (show _ = some (Value.slice A lp c) by simp); have x2 := (hb1.cell (p := ⟨w.heap.size + 1, 0, none⟩) (by show w.heap.size + 1 < _; omega)).trans (show _ = some (Value.slice A' lq c') by simp); have hc1 := (alloc2 w (.cells #[.slice A lp c] 24) (.cells #[.slice A' lq c'] 24)).trans (hb1.mono (by omega)))
  clear hb1
  have HC1 := hide hc1
  clear hc1
  go_upto_region 5 with (first
    | (go_at_call 14; refine (HG2.out w2 HC2.out).mono ?_; rintro e w3 ⟨b2, rfl, hb3⟩; have hz3 := hb3.size; have y1 := (hb3.cell (p := ⟨w.heap.size, 0, none⟩) (by show w.heap.size < _; omega)).trans x1; have y2 := (hb3.cell (p := ⟨w.heap.size + 1, 0, none⟩) (by show w.heap.size + 1 < _; omega)).trans x2; have HC3 := hide (HC2.out.trans (hb3.mono (by omega))); clear hb3)
    | (go_at_call 14; refine (HG.out w1 HC1.out).mono ?_; rintro e w2 ⟨b1, rfl, hb2⟩; have hz2 := hb2.size; have y1 := (hb2.cell (p := ⟨w.heap.size, 0, none⟩) (by show w.heap.size < _; omega)).trans x1; have y2 := (hb2.cell (p := ⟨w.heap.size + 1, 0, none⟩) (by show w.heap.size + 1 < _; omega)).trans x2; have HC2 := hide (HC1.out.trans (hb2.mono (by omega))); clear x1 x2; have x1 := y1; have x2 := y2; clear y1 y2 hb2))
  · go_ret
    exact ⟨rfl, HC2.out⟩
  · go_ret
    exact ⟨rfl, HC3.out⟩
  clear x1 x2
  go_upto_region 7 with (first
      | (go_at_call 16; refine (HE2.out w4 HC4.out).mono ?_; rintro e w5 ⟨A5, c5, rfl, hs5, hb5⟩; have hz5 := hb5.size; have u1 := (hb5.cell (p := ⟨w.heap.size, 0, none⟩) (by show w.heap.size < _; omega)).trans t1; have u2 := (hb5.cell (p := ⟨w.heap.size + 1, 0, none⟩) (by show w.heap.size + 1 < _; omega)).trans t2; have HC5 := hide (HC4.out.trans (hb5.mono (by omega))); have HS5 := hide hs5; have HS4 := hide (HS4.out.below hb5); clear t1 t2 hb5 hs5)
      | (go_at_call 15; refine (HE.out w3 HC3.out).mono ?_; rintro e w4 ⟨A4, c4, rfl, hs4, -, -, hl4, hb4⟩; have hz4 := hb4.size; have t1 := (hb4.cell (p := ⟨w.heap.size, 0, none⟩) (by show w.heap.size < _; omega)).trans y1; have t2 := (hb4.cell (p := ⟨w.heap.size + 1, 0, none⟩) (by show w.heap.size + 1 < _; omega)).trans y2; have HC4 := hide (HC3.out.trans (hb4.mono (by omega))); have HS4 := hide hs4; clear y1 y2 hb4 hs4))
  have HSM := hide (fun q => (same_any A4 A5 ea.length ea.length c4 c5 ea ea (w5.drewN q) _ _ HS4.out HS5.out rfl rfl (by omega) (by omega)).mono (R' := fun e w' => e = .returned (.bool true) ∧ ∃ q', w' = (w5.drewN q).drewN q') (fun e w' ⟨h1, h2⟩ => ⟨by rw [h1]; simp, h2⟩))
  have hz5' : w.heap.size + 1 < w5.heap.size := by omega
  generalize ea.length = na at *
  clear HS4 HS5 HE HE2 HG HG2 HA
  go_region_held3 (fun w' => w'.cell? ⟨w.heap.size, 0, none⟩ = some (.slice A lp c) ∧ w'.cell? ⟨w.heap.size + 1, 0, none⟩ = some (.slice A' lq c')) (first | go_keep | (exact ⟨g1, g2⟩))
    (first
      | (go_at_call 18; refine (HSS.out w8 HC8.out).mono ?_; rintro e w9 ⟨rfl, hb9⟩; have g1 := (hb9.cell (p := ⟨w.heap.size, 0, none⟩) (by show w.heap.size < _; omega)).trans v1; have g2 := (hb9.cell (p := ⟨w.heap.size + 1, 0, none⟩) (by show w.heap.size + 1 < _; omega)).trans v2; have HC9 := hide (HC8.out.trans (hb9.mono (by omega))); clear hb9)
      | (go_at_call 19; refine (HRS.out w7 HC7.out).mono ?_; rintro e w8 ⟨rfl, hb8⟩; have hz8 := hb8.size; have v1 := (hb8.cell (p := ⟨w.heap.size, 0, none⟩) (by show w.heap.size < _; omega)).trans t1; have v2 := (hb8.cell (p := ⟨w.heap.size + 1, 0, none⟩) (by show w.heap.size + 1 < _; omega)).trans t2; have g1 := v1; have g2 := v2; have HC8 := hide (HC7.out.trans (hb8.mono (by omega))); clear hb8)
      | (go_at_call 18; refine (HS.out _ (below_drewN HC5.out _)).mono ?_; rintro e w7 ⟨rfl, hb7⟩; have hz7 : w5.heap.size ≤ w7.heap.size := hb7.size; have t1 := (hb7.cell (p := ⟨w.heap.size, 0, none⟩) (by show w.heap.size < _; simp; omega)).trans u1; have t2 := (hb7.cell (p := ⟨w.heap.size + 1, 0, none⟩) (by show w.heap.size + 1 < _; simp; omega)).trans u2; have g1 := t1; have g2 := t2; have HC7 := hide ((below_drewN HC5.out _).trans (hb7.mono (by simp; omega))); clear hb7)
      | (go_at_call 17; refine (HSM.out 1).mono ?_; rintro e w6 ⟨rfl, q1, rfl⟩; have g1 := u1; have g2 := u2))
  all_goals
    go_wp2
    go_ret
    exact ⟨by simp, HC9.out⟩
end Go.Proofs.YtpgljbjgbjjcnaaDoor
