/- The statement EdgeCounts, walked: it answers true. Condition: no slice of the program is longer than any machine's memory. -/
import Derived.Test.YtbofnlaacjgclaaPcDM
set_option linter.unusedSimpArgs false
set_option linter.unusedVariables false
namespace Go.Proofs.Ytbofnlaacjgclaa
open Go.RowKit

set_option maxHeartbeats 4000000 in
set_option maxRecDepth 100000 in
theorem counts_law (vp : Value) (p : List FunV) (w : World) (hp : FunsV w (· < w.heap.size) vp p) (hsz : progSize p) :
    Calls Try.prog 5 #[.agg #[vp]] w fun e w' => e = .returned (.bool true) ∧ Below w.heap.size w w' := by
  have HKP := hide (fun (W : World) (hW : Below w.heap.size w W) => hp.keep (up hW (Nat.le_refl _)) (fun _ h => h))
  have HOUT := hide (fun (W : World) (hW : Below w.heap.size w W) => out13_any vp p W w.heap.size hW.size (hp.keep (up hW (Nat.le_refl _)) (fun _ h => h)) hsz)
  have HALLOK := hide (fun (h : progB4 p = true ∧ progFew p) => @eOk_of p h.1)
  obtain ⟨A, c, rfl, hpc, hpm⟩ := hp.open'
  obtain ⟨lp, hlp⟩ : ∃ lp, p.length = lp := ⟨_, rfl⟩
  have HLP := hide hlp
  rw [hlp] at HKP HOUT hpc ⊢
  clear hp hsz hlp
  go_enter Try.func5, Try.ntmps5
  go_upto_region 1 with (fail)
  obtain ⟨w0, hw0⟩ : ∃ w0, w0 = w.alloc (.cells #[.slice A lp c] 24) := ⟨_, rfl⟩
  have HX0 := hide (show Box w0 w.heap.size #[.slice A lp c] 24 by rw [hw0]; exact Box.new w _ _)
  have HB0 := hide (show Below w.heap.size w w0 by rw [hw0]; exact alloc1 w _)
  rw [← hw0]
  clear hw0
  go_upto_region 3 with (go_at_call 6; refine (alive13_any w0).mono ?_; rintro e w1 ⟨rfl, hb1⟩; have HX1 := hide (HX0.out.below hb1); have HC1 := hide (HB0.out.trans (hb1.mono HB0.out.size)); clear hb1)
  have x1 := (HX1.out.cell 0 (v := .slice A lp c) rfl).1
  have l1 := HX1.out.lt
  go_upto_region 5 with (go_at_call 7; refine (HOUT.out w1 HC1.out).mono ?_; rintro e w2 ⟨b1, rfl, hs2, hb2⟩; have HB2 := hide (HC1.out.trans (hb2.mono HC1.out.size)); have HX2 := hide (HX1.out.below hb2); have HS2 := hide hs2; clear x1 hb2 hs2)
  all_goals try (go_ret; exact ⟨rfl, HB2.out⟩)
  have hb1f : b1 = false := by first | assumption | exact Bool.eq_false_iff.2 (by assumption)
  subst hb1f
  have HPB := hide (HS2.out.out rfl)
  have HOKS := hide (HALLOK.out (HS2.out.out rfl))
  clear HOUT HALLOK HS2 HC1 HX1 l1
  go_wp2
  go_loopw [3] (fun i wr => ∃ k : Nat, k ≤ lp ∧ i = .int .i64 k ∧ Below w2.heap.size w2 wr) (fun i _ => lp - (intOf i).toNat)
  case atStart => exact ⟨0, Nat.zero_le _, rfl, Below.refl _ _⟩
  case round =>
    obtain ⟨k, hk, rfl, hb'⟩ := hrel
    obtain ⟨wo, rfl⟩ : ∃ wo, wo = wr := ⟨_, rfl⟩
    have hszo := hb'.size
    have HBEL := hide (HB2.out.trans (hb'.mono HB2.out.size))
    have HXO := hide (HX2.out.below hb')
    have HBW := hide hb'
    have xp := (HXO.out.cell 0 (v := .slice A lp c) rfl).1
    have lxp := HXO.out.lt
    clear hb'
    by_cases hlt : k < lp
    case neg =>
      go_wp2
      go_ret
      exact ⟨rfl, HBEL.out⟩
    have HKLT := hide hlt
    obtain ⟨f, hf⟩ : ∃ f, p[k]? = some f := ⟨_, List.getElem?_eq_getElem (by have := HLP.out; omega)⟩
    obtain ⟨b, o, Ak, ck, Ab, cb, As, cs, hA, hbb, ⟨e0, e1, e2, e3, e4⟩, hi⟩ := (HKP.out wo HBEL.out).get hf
    subst hA
    have hbs : b < wo.heap.size := by have := HBEL.out.size; omega
    have HLF := hide (HOKS.out f (List.mem_of_getElem? hf))
    have kI := fun (W : World) (hW : Below wo.heap.size wo W) => hi.keep (w := wo) (S := (· < w.heap.size)) (up hW HBEL.out.size) (fun _ h => h)
    have hsW : ∀ W : World, Below wo.heap.size wo W → w.heap.size ≤ W.heap.size := fun W hW => by have := hW.size; have := HBEL.out.size; omega
    have hls40 := HLF.out.flow.1
    have hls1 := HLF.out.one
    have HCR := hide (fun (W : World) (hW : Below wo.heap.size wo W) => ecritical_any _ _ _ f W w.heap.size (hsW W hW) (kI W hW) HLF.out.flow HLF.out.one)
    have HSPL := hide (fun (W : World) (hW : Below wo.heap.size wo W) => (esplit_any _ _ _ f W w.heap.size (hsW W hW) (kI W hW) HLF.out.flow HLF.out.one (by have := HLF.out.kinds; omega) (by have := HLF.out.kinds; have := HLF.out.bl; omega) HLF.out.code).mono (R' := fun e w' => (fitsB f = true → ∃ v1 v2 v3, e = .returned (.tuple #[.agg #[v1, v2, .int .i64 f.params, .int .i64 f.result, v3], .int .i64 0]) ∧ FunI w' (· < w'.heap.size) v1 v2 v3 (splitF f) ∧ Below W.heap.size W w') ∧ (fitsB f = false → e = .returned (.tuple #[.agg #[.slice none 0 0, .slice none 0 0, .int .i64 0, .int .i64 0, .slice none 0 0], .int .i64 9]) ∧ Below W.heap.size W w')) (fun e w' h => ⟨fun hf => by
      obtain ⟨v1, v2, v3, l, h1, h2, h3, h4, h5, h6⟩ := h.1 hf
      exact ⟨v1, v2, v3, h1, spl_funI (kI W hW) h2 h3 h4 h5, h6⟩, h.2⟩))
    have HSP := hide (SpI.all HLF.out.flow)
    have HFI := hide (show fitsB f = decide (f.blocks.length + (critN f).length ≤ 40) from rfl)
    have hcn := critN_len HLF.out.flow
    obtain ⟨cn, hcne⟩ : ∃ cn, (critN f).length = cn := ⟨_, rfl⟩
    have HCN := hide hcne
    unfold CritA at HCR
    rw [hcne] at HCR HFI hcn HSP
    obtain ⟨ls, hls2⟩ : ∃ ls, f.blocks.length = ls := ⟨_, rfl⟩
    have HLS := hide hls2
    rw [hls2] at HCR HSPL HFI e4 hls40 hls1
    obtain ⟨ft, hft⟩ : ∃ ft, fitsB f = ft := ⟨_, rfl⟩
    rw [hft] at HSPL HFI
    clear hi hf kI hsW hls2 hcne hft
    generalize f.kinds.length = lk, f.base.length = lb, f.params = fp, f.result = fr at *
    have hki : (0 : Int) ≤ (k : Int) := by omega
    have hkl : (k : Int) < (lp : Int) := by omega
    go_upto_region 9 with (fail)
    obtain ⟨w5, hw5⟩ : ∃ w5, w5 = wo.alloc (.cells #[.slice Ak lk ck, .slice Ab lb cb, .int .i64 fp, .int .i64 fr, .slice As ls cs] 30) := ⟨_, rfl⟩
    obtain ⟨h5, hh5⟩ : ∃ h5, wo.heap.size = h5 := ⟨_, rfl⟩
    have HX5 := hide (show Box w5 h5 #[.slice Ak lk ck, .slice Ab lb cb, .int .i64 fp, .int .i64 fr, .slice As ls cs] 30 by rw [hw5, ← hh5]; exact Box.new wo _ _)
    have HB5 := hide (show Below wo.heap.size wo w5 by rw [hw5]; exact alloc1 wo _)
    rw [← hw5, hh5]
    clear hw5 hh5 e0 e1 e2 e3 e4 hbs xp lxp
    have l5 := HX5.out.lt
    have hz5 := HB5.out.size
    have HK5 := hide (fun (W : World) (hW : Below w5.heap.size w5 W) => And.intro ((HX5.out.below hW).cell 0 (v := .slice Ak lk ck) rfl).1 (And.intro ((HX5.out.below hW).cell 1 (v := .slice Ab lb cb) rfl).1 (And.intro ((HX5.out.below hW).cell 2 (v := .int .i64 fp) rfl).1 (And.intro ((HX5.out.below hW).cell 3 (v := .int .i64 fr) rfl).1 ((HX5.out.below hW).cell 4 (v := .slice As ls cs) rfl).1))))
    have HUP := hide (fun (W : World) (hW : Below w5.heap.size w5 W) => HB5.out.trans (hW.mono HB5.out.size))
    obtain ⟨c0, c1, c2, c3, c4⟩ := HK5.out w5 (Below.refl _ _)
    go_upto_region 10 with (go_at_call 11; (with_reducible refine (HCR.out w5 (HUP.out w5 (Below.refl _ _))).mono ?_); rintro e w6 ⟨A6, k6, rfl, hs6, hc6, hm6, ha6, hb6⟩; have HS6 := hide hs6; have HC6 := hide hb6; have p6 := HK5.out w6 hb6; clear hs6 ha6 hb6 c0 c1 c2 c3 c4)
    obtain ⟨c0, c1, c2, c3, c4⟩ := p6
    have w6s := HC6.out.size
    have l56 : h5 < w6.heap.size := by omega
    have HSPW := hide (HSPL.out w6 (HUP.out w6 HC6.out))
    cases ft with
    | false =>
      have hgt : ¬ ls + cn ≤ 40 := of_decide_eq_false HFI.out.symm
      have hgt2 : (ls : Int) + (cn : Int) > 40 := by omega
      go_upto_region 11 with (go_at_call 8; (with_reducible refine HSPW.out.mono ?_); rintro e w7 ⟨-, h7⟩; obtain ⟨rfl, hb7⟩ := h7 rfl; have HC7 := hide (HC6.out.trans (hb7.mono w6s)); have p7 := HK5.out w7 HC7.out; clear hb7 h7 c0 c1 c2 c3 c4)
      obtain ⟨c0, c1, c2, c3, c4⟩ := p7
      have HK78 := hide (fun (o : Obj) => HK5.out (w7.alloc o) (HC7.out.alloc HC7.out.size o))
      obtain ⟨w8, hw8⟩ : ∃ w8, w8 = w7.alloc (.cells #[.slice none 0 0, .slice none 0 0, .int .i64 0, .int .i64 0, .slice none 0 0] 30) := ⟨_, rfl⟩
      have p8 := HK78.out (.cells #[.slice none 0 0, .slice none 0 0, .int .i64 0, .int .i64 0, .slice none 0 0] 30)
      rw [← hw8] at p8 ⊢
      have HC8 := hide (show Below w5.heap.size w5 w8 by rw [hw8]; exact HC7.out.alloc HC7.out.size _)
      clear hw8 c0 c1 c2 c3 c4
      obtain ⟨c0, c1, c2, c3, c4⟩ := p8
      have l58 : h5 < w8.heap.size := by have := HC8.out.size; omega
      go_wp2
      go_roundw
      case rel => exact ⟨k + 1, by have := HKLT.out; omega, by go_num, HBW.out.trans ((HUP.out w8 HC8.out).mono hszo)⟩
      case measure => have := HKLT.out; simp [intOf]; omega
    | true =>
      have hle : ls + cn ≤ 40 := of_decide_eq_true HFI.out.symm
      have hle2 : ¬ (ls : Int) + (cn : Int) > 40 := by omega
      have HSL := hide (show (splitF f).blocks.length = ls + cn by rw [HSP.out.len, HLS.out])
      have HNEW := hide (fun (j : Nat) (e : Int × Int) (hj : j < cn) (he : (critN f)[j]? = some e) => (show (splitF f).blocks[ls + j]? = some [jumpI e.2] by rw [← HLS.out]; exact HSP.out.new j e hj he))
      obtain ⟨fg, hfg⟩ : ∃ fg, splitF f = fg := ⟨_, rfl⟩
      rw [hfg] at HSPW HSL HNEW
      obtain ⟨gk, hgk⟩ : ∃ gk, fg.kinds.length = gk := ⟨_, rfl⟩
      obtain ⟨gb, hgb⟩ : ∃ gb, fg.base.length = gb := ⟨_, rfl⟩
      have HGK := hide hgk
      have HGB := hide hgb
      clear hfg hgk hgb
      go_upto_region 11 with (go_at_call 8; (with_reducible refine HSPW.out.mono ?_); rintro e w7 ⟨h7, -⟩; obtain ⟨v1, v2, v3, rfl, hf7, hb7⟩ := h7 rfl; obtain ⟨A1, k1, hv1, -, -⟩ := hf7.1.open'; obtain ⟨A2, k2, hv2, -, -⟩ := hf7.2.1.open'; obtain ⟨A4, k4, hv4, -, -⟩ := hf7.2.2.1.open'; rw [HGK.out] at hv1; rw [HGB.out] at hv2; rw [HSL.out] at hv4; subst hv1; subst hv2; subst hv4; have HF7 := hide hf7.2.2.1; have HD7 := hide hb7; have HC7 := hide (HC6.out.trans (hb7.mono w6s)); clear hb7 h7 hf7 c0 c1 c2 c3 c4)
      have w7s := HD7.out.size
      obtain ⟨w8, hw8⟩ : ∃ w8, w8 = w7.alloc (.cells #[.slice A1 gk k1, .slice A2 gb k2, .int .i64 fp, .int .i64 fr, .slice A4 (ls + cn) k4] 30) := ⟨_, rfl⟩
      obtain ⟨h8, hh8⟩ : ∃ h8, w7.heap.size = h8 := ⟨_, rfl⟩
      have HX8 := hide (show Box w8 h8 #[.slice A1 gk k1, .slice A2 gb k2, .int .i64 fp, .int .i64 fr, .slice A4 (ls + cn) k4] 30 by rw [hw8, ← hh8]; exact Box.new w7 _ _)
      have HD8 := hide (show Below w7.heap.size w7 w8 by rw [hw8]; exact alloc1 w7 _)
      have HC8 := hide (show Below w5.heap.size w5 w8 by rw [hw8]; exact HC7.out.alloc HC7.out.size _)
      have HE8 := hide (HS6.out.below (HD7.out.trans (HD8.out.mono w7s)))
      rw [← hw8, hh8]
      have w8s := HD8.out.size
      have HF8 := hide (HF7.out.keep (w' := w8) (S' := (· < w8.heap.size)) (up HD8.out (Nat.le_refl _)) (fun b h => by omega))
      clear hw8 hh8
      obtain ⟨c0, c1, c2, c3, c4⟩ := HK5.out w8 HC8.out
      have l8 := HX8.out.lt
      have l58 : h5 < w8.heap.size := by have := HC8.out.size; omega
      have y4 := (HX8.out.cell 4 (v := .slice A4 (ls + cn) k4) rfl).1
      have hq : ((ls : Int) + (cn : Int) == (ls : Int) + (cn : Int)) = true := by simp
      go_wp2
      clear c0 c1 c2 c3 c4 y4
      go_loopw [8] (fun i wr => ∃ j : Nat, j ≤ cn ∧ i = .int .i64 (j : Int) ∧ Below w8.heap.size w8 wr) (fun i _ => cn - (intOf i).toNat)
      case atStart => exact ⟨0, Nat.zero_le _, rfl, Below.refl _ _⟩
      case round =>
        obtain ⟨j, hj, rfl, hbj⟩ := hrel
        obtain ⟨wj, rfl⟩ : ∃ wj, wj = wr := ⟨_, rfl⟩
        have HBJ := hide hbj
        have lj := hbj.size
        have HCJ := hide (HC8.out.trans (hbj.mono HC8.out.size))
        clear hbj
        by_cases hltj : j < cn
        case neg =>
          have hnl : ¬ ((j : Int) < (cn : Int)) := by omega
          go_wp2
          go_roundw
          case rel => exact ⟨k + 1, by have := HKLT.out; omega, by go_num, HBW.out.trans ((HUP.out wj HCJ.out).mono hszo)⟩
          case measure => have := HKLT.out; simp [intOf]; omega
        have HJLT := hide hltj
        obtain ⟨e, he⟩ : ∃ e, (critN f)[j]? = some e := ⟨_, List.getElem?_eq_getElem (by have := HCN.out; omega)⟩
        obtain ⟨tz, htz⟩ : ∃ tz, e.2 = tz := ⟨_, rfl⟩
        have hnew := HNEW.out j e hltj he
        rw [htz] at hnew
        obtain ⟨bD, oD, A9, k9, hA4, hbD, g7, hx7⟩ := ((HF8.out.keep (w' := wj) (S' := (· < wj.heap.size)) (up HBJ.out (Nat.le_refl _)) (fun b h => by omega)) : BlksV wj (· < wj.heap.size) (.slice A4 (ls + cn) k4) fg.blocks).get hnew
        subst hA4
        obtain ⟨bF, oF, A8, k8, hA9, hbF, ⟨q0, q1, q2, q3, q4, q5, q6⟩, -⟩ := hx7.get (k := 0) rfl
        subst hA9
        obtain ⟨be, oe, rfl, hbe, hce⟩ := HE8.out (by have := HCN.out; omega)
        obtain ⟨z1, z2⟩ := hce j e he
        rw [htz] at z2
        have z2' := (HBJ.out.cell (p := ⟨be, oe + j * 2 + 1, none⟩) (by show be < _; omega)).trans z2
        obtain ⟨c0, c1, c2, c3, c4⟩ := HK5.out wj HCJ.out
        have y4 := ((HX8.out.below HBJ.out).cell 4 (v := .slice (some ⟨bD, oD, none⟩) (ls + cn) k4) rfl).1
        have l8j : h8 < wj.heap.size := by omega
        have l5j : h5 < wj.heap.size := by omega
        have lbD : bD < wj.heap.size := hbD
        have lbF : bF < wj.heap.size := hbF
        have lbe : be < wj.heap.size := by omega
        simp only [Nat.zero_mul, Nat.add_zero] at q0 q4
        replace q0 : wj.cell? ⟨bF, oF, none⟩ = some (.int .i64 21) := q0
        replace q4 : wj.cell? ⟨bF, oF + 4, none⟩ = some (.int .i64 tz) := q4
        replace g7 : wj.cell? ⟨bD, oD + (ls + j), none⟩ = some (.slice (some ⟨bF, oF, none⟩) 1 k9) := g7
        have i0 : (0 : Int) ≤ (j : Int) := by omega
        have i1 : (j : Int) < (cn : Int) := by omega
        have i2 : (0 : Int) ≤ (ls : Int) + (j : Int) := by omega
        have i3 : (ls : Int) + (j : Int) < (ls : Int) + (cn : Int) := by omega
        have i4 : ((ls : Int) + (j : Int)).toNat = ls + j := by omega
        clear hx7 hce z1 z2 he htz hnew q1 q2 q3 q5 q6
        go_upto_region 20 with (fail)
        go_quiet (fail)
        go_wp2
        go_roundw
        case rel => exact ⟨j + 1, by have := HJLT.out; omega, by go_num, below_drewN HBJ.out _⟩
        case measure => have := HJLT.out; simp [intOf]; omega
end Go.Proofs.Ytbofnlaacjgclaa
