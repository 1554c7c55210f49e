/- The statement CodeOnce, walked: it answers true. Condition: the table of parts reads as listed. -/
import Derived.Test.YtpgljbjgbjjcnaaDoorCAlive
import Derived.Test.YtpgljbjgbjjcnaaDoorCGreat
import Derived.Test.YtpgljbjgbjjcnaaDoorCSame
import Derived.Test.YtpgljbjgbjjcnaaDoorVRef
set_option linter.unusedSimpArgs false
set_option linter.unusedVariables false
namespace Go.Proofs.YtpgljbjgbjjcnaaDoor
open Go.RowKit

theorem encR_nat (p : List FunV) : (encR p).2 = 0 ∨ (((encR p).2 : Int) != 0) = true := by
  by_cases h : (encR p).2 = 0
  · exact .inl h
  · right; simp; omega

set_option maxHeartbeats 1000000 in
set_option maxRecDepth 100000 in
theorem once_law (vp vq : Value) (p q : List FunV) (w : World) (hT : TabP w) (hp : FunsV w (· < w.heap.size) vp p) (hq : FunsV w (· < w.heap.size) vq q) :
    Calls Tryd.prog 6 #[.agg #[vp], .agg #[vq]] w fun e w' => e = .returned (.bool true) ∧ Below w.heap.size w w' := by
  have hR := hp.range
  have hS := hq.range
  have HInj := hide (fun h1 h2 => enc_inj hR hS h1 h2)
  have kp := fun (W : World) (hW : Below w.heap.size w W) => hp.keep (up hW (Nat.le_refl _)) (fun _ h => h)
  have kq := fun (W : World) (hW : Below w.heap.size w W) => hq.keep (up hW (Nat.le_refl _)) (fun _ h => h)
  obtain ⟨A, c, rfl, -, -⟩ := hp.open'
  obtain ⟨A', c', rfl, -, -⟩ := hq.open'
  have HA := hide (fun (W : World) (hW : Below w.heap.size w W) => alive_any W (hT.below hW hT.1))
  have HG := hide (fun (W : World) (hW : Below w.heap.size w W) => great_any _ p W w.heap.size hW.size (kp W hW))
  have HG2 := hide (fun (W : World) (hW : Below w.heap.size w W) => great_any _ q W w.heap.size hW.size (kq W hW))
  have HE := hide (fun (W : World) (hW : Below w.heap.size w W) => encode_any _ p W w.heap.size hW.size (hT.below hW hT.1) (kp W hW))
  have HE2 := hide (fun (W : World) (hW : Below w.heap.size w W) => encode_any _ q W w.heap.size hW.size (hT.below hW hT.1) (kq W hW))
  have HS := hide (fun (W : World) (hW : Below w.heap.size w W) => sameP_any _ _ p q W w.heap.size hW.size (kp W hW) (kq W hW))
  generalize p.length = lp at *
  generalize q.length = lq at *
  unfold EncA at HE HE2
  generalize encR p = ep at *
  generalize encR q = eq at *
  obtain ⟨ea, en⟩ := ep
  obtain ⟨fa, fn⟩ := eq
  simp only at HInj HE HE2
  clear kp kq hp hq hT hR hS
  go_enter Tryd.func6, Tryd.ntmps6
  go_upto_region 3 with (go_at_call 13; refine (HA.out _ (alloc2 w _ _)).mono ?_; rintro e w1 ⟨rfl, hb1⟩; have hz1 := hb1.size; simp only [World.size_alloc] at hz1 hb1; have x1 := (hb1.cell (p := ⟨w.heap.size, 0, none⟩) (by show w.heap.size < _; omega)).trans (show _ = some (Value.slice A lp c) by simp); have x2 := (hb1.cell (p := ⟨w.heap.size + 1, 0, none⟩) (by show w.heap.size + 1 < _; omega)).trans (show _ = some (Value.slice A' lq c') by simp); have hc1 := (alloc2 w (.cells #[.slice A lp c] 24) (.cells #[.slice A' lq c'] 24)).trans (hb1.mono (by omega)))
  clear hb1
  have HC1 := hide hc1
  clear hc1
  go_upto_region 5 with (first
    | (go_at_call 14; refine (HG2.out w2 HC2.out).mono ?_; rintro e w3 ⟨b2, rfl, hb3⟩; have hz3 := hb3.size; have y1 := (hb3.cell (p := ⟨w.heap.size, 0, none⟩) (by show w.heap.size < _; omega)).trans x1; have y2 := (hb3.cell (p := ⟨w.heap.size + 1, 0, none⟩) (by show w.heap.size + 1 < _; omega)).trans x2; have HC3 := hide (HC2.out.trans (hb3.mono (by omega))); clear hb3)
    | (go_at_call 14; refine (HG.out w1 HC1.out).mono ?_; rintro e w2 ⟨b1, rfl, hb2⟩; have hz2 := hb2.size; have y1 := (hb2.cell (p := ⟨w.heap.size, 0, none⟩) (by show w.heap.size < _; omega)).trans x1; have y2 := (hb2.cell (p := ⟨w.heap.size + 1, 0, none⟩) (by show w.heap.size + 1 < _; omega)).trans x2; have HC2 := hide (HC1.out.trans (hb2.mono (by omega))); clear x1 x2; have x1 := y1; have x2 := y2; clear y1 y2 hb2))
  · go_ret
    exact ⟨rfl, HC2.out⟩
  · go_ret
    exact ⟨rfl, HC3.out⟩
  · clear x1 x2
    by_cases hen : en = 0
    · subst hen
      by_cases hfn : fn = 0
      · subst hfn
        go_upto_region 9 with (first
      | (go_at_call 15; refine (HE2.out w4 HC4.out).mono ?_; rintro e w5 ⟨A5, c5, rfl, hs5, -, -, hl5, hb5⟩; have hz5 := hb5.size; have u1 := (hb5.cell (p := ⟨w.heap.size, 0, none⟩) (by show w.heap.size < _; omega)).trans t1; have u2 := (hb5.cell (p := ⟨w.heap.size + 1, 0, none⟩) (by show w.heap.size + 1 < _; omega)).trans t2; have HC5 := hide (HC4.out.trans (hb5.mono (by omega))); have HS5 := hide hs5; have HS4 := hide (HS4.out.below hb5); clear t1 t2 hb5 hs5)
      | (go_at_call 15; refine (HE.out w3 HC3.out).mono ?_; rintro e w4 ⟨A4, c4, rfl, hs4, -, -, hl4, hb4⟩; have hz4 := hb4.size; have t1 := (hb4.cell (p := ⟨w.heap.size, 0, none⟩) (by show w.heap.size < _; omega)).trans y1; have t2 := (hb4.cell (p := ⟨w.heap.size + 1, 0, none⟩) (by show w.heap.size + 1 < _; omega)).trans y2; have HC4 := hide (HC3.out.trans (hb4.mono (by omega))); have HS4 := hide hs4; clear y1 y2 hb4 hs4))
        have hdec := hide (show (ea = fa) = (p = q) by have h := HInj.out; simpa using h)
        have HSM := hide (fun q => same_any A4 A5 ea.length fa.length c4 c5 ea fa (w5.drewN q) _ _ HS4.out HS5.out rfl rfl (by omega) (by omega))
        have HSP := hide (fun q => HS.out (w5.drewN q) (below_drewN HC5.out q))
        generalize ea.length = na at *
        generalize fa.length = nf at *
        clear HInj
        have hbool : decide (p = q) = decide (ea = fa) := decide_eq_decide.2 (by rw [hdec.out])
        rw [hbool] at HSP
        clear hbool
        generalize decide (ea = fa) = bb at *
        go_region_held3 (fun w' => w'.cell? ⟨w.heap.size, 0, none⟩ = some (.slice A lp c) ∧ w'.cell? ⟨w.heap.size + 1, 0, none⟩ = some (.slice A' lq c')) (first | go_keep | (exact ⟨g1, g2⟩))
          (first
            | (go_at_call 17; refine (HSM.out 1).mono ?_; rintro e w6 ⟨rfl, q1, rfl⟩; have g1 := u1; have g2 := u2)
            | (go_at_call 18; refine (HSP.out _).mono ?_; rintro e w7 ⟨rfl, hb7⟩; have g1 := (hb7.cell (p := ⟨w.heap.size, 0, none⟩) (by show w.heap.size < _; simp; omega)).trans u1; have g2 := (hb7.cell (p := ⟨w.heap.size + 1, 0, none⟩) (by show w.heap.size + 1 < _; simp; omega)).trans u2))
        go_wp2
        go_ret
        exact ⟨rfl, (below_drewN HC5.out _).trans (hb7.mono (by simp; omega))⟩
      · have hfb : ((fn : Int) != 0) = true := by simp; omega
        have he0 : (((0 : Nat) : Int) != 0) = false := rfl
        clear hfn
        go_wp2_with (first
      | (go_at_call 15; refine (HE2.out w4 HC4.out).mono ?_; rintro e w5 ⟨A5, c5, rfl, hs5, -, -, hl5, hb5⟩; have hz5 := hb5.size; have u1 := (hb5.cell (p := ⟨w.heap.size, 0, none⟩) (by show w.heap.size < _; omega)).trans t1; have u2 := (hb5.cell (p := ⟨w.heap.size + 1, 0, none⟩) (by show w.heap.size + 1 < _; omega)).trans t2; have HC5 := hide (HC4.out.trans (hb5.mono (by omega))); have HS5 := hide hs5; have HS4 := hide (HS4.out.below hb5); clear t1 t2 hb5 hs5)
      | (go_at_call 15; refine (HE.out w3 HC3.out).mono ?_; rintro e w4 ⟨A4, c4, rfl, hs4, -, -, hl4, hb4⟩; have hz4 := hb4.size; have t1 := (hb4.cell (p := ⟨w.heap.size, 0, none⟩) (by show w.heap.size < _; omega)).trans y1; have t2 := (hb4.cell (p := ⟨w.heap.size + 1, 0, none⟩) (by show w.heap.size + 1 < _; omega)).trans y2; have HC4 := hide (HC3.out.trans (hb4.mono (by omega))); have HS4 := hide hs4; clear y1 y2 hb4 hs4))
        go_ret
        exact ⟨rfl, HC5.out⟩
    · have heb : ((en : Int) != 0) = true := by simp; omega
      clear hen
      go_wp2_with (first
      | (go_at_call 15; refine (HE2.out w4 HC4.out).mono ?_; rintro e w5 ⟨A5, c5, rfl, hs5, -, -, hl5, hb5⟩; have hz5 := hb5.size; have u1 := (hb5.cell (p := ⟨w.heap.size, 0, none⟩) (by show w.heap.size < _; omega)).trans t1; have u2 := (hb5.cell (p := ⟨w.heap.size + 1, 0, none⟩) (by show w.heap.size + 1 < _; omega)).trans t2; have HC5 := hide (HC4.out.trans (hb5.mono (by omega))); have HS5 := hide hs5; have HS4 := hide (HS4.out.below hb5); clear t1 t2 hb5 hs5)
      | (go_at_call 15; refine (HE.out w3 HC3.out).mono ?_; rintro e w4 ⟨A4, c4, rfl, hs4, -, -, hl4, hb4⟩; have hz4 := hb4.size; have t1 := (hb4.cell (p := ⟨w.heap.size, 0, none⟩) (by show w.heap.size < _; omega)).trans y1; have t2 := (hb4.cell (p := ⟨w.heap.size + 1, 0, none⟩) (by show w.heap.size + 1 < _; omega)).trans y2; have HC4 := hide (HC3.out.trans (hb4.mono (by omega))); have HS4 := hide hs4; clear y1 y2 hb4 hs4))
      go_ret
      exact ⟨rfl, HC5.out⟩
end Go.Proofs.YtpgljbjgbjjcnaaDoor
