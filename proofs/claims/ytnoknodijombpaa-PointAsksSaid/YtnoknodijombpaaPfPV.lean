/- The statement PointAsks, walked: it answers true. Condition: no slice of the program is longer than any machine's memory. -/
import Derived.Test.YtnoknodijombpaaPfPT
import Derived.Test.YtnoknodijombpaaPfPU
set_option linter.unusedSimpArgs false
set_option linter.unusedVariables false
namespace Go.Proofs.Ytnoknodijombpaa
open Go.RowKit

set_option maxHeartbeats 4000000 in
set_option maxRecDepth 100000 in
theorem asks14_law (vp : Value) (p : List FunV) (op y1 y2 : Int) (w : World) (hp : FunsV w (· < w.heap.size) vp p) (hsz : progSize p) :
    Calls Try.prog 5 #[.agg #[vp], .int .i64 op, .agg #[.int .i64 y1, .int .i64 y2]] w fun e w' => e = .returned (.bool true) ∧ Below w.heap.size w w' := by
  have HKP := hide (fun (W : World) (hW : Below w.heap.size w W) => hp.keep (up hW (Nat.le_refl _)) (fun _ h => h))
  have HOUT := hide (fun (W : World) (hW : Below w.heap.size w W) => out14_any vp p W w.heap.size hW.size (hp.keep (up hW (Nat.le_refl _)) (fun _ h => h)) hsz)
  have HALLOK := hide (fun h => @flowOk_of p h)
  obtain ⟨A, c, rfl, hpc, hpm⟩ := hp.open'
  obtain ⟨lp, hlp⟩ : ∃ lp, p.length = lp := ⟨_, rfl⟩
  have HLP := hide hlp
  rw [hlp] at HKP HOUT hpc ⊢
  clear hp hsz hlp
  go_enter Try.func5, Try.ntmps5
  go_upto_region 1 with (fail)
  obtain ⟨w0, hw0⟩ : ∃ w0, w0 = (w.alloc (.cells #[.slice A lp c] 24)).alloc (.cells #[.int .i64 y1, .int .i64 y2] 41) := ⟨_, rfl⟩
  obtain ⟨h2, hh2⟩ : ∃ h2, w.heap.size + 1 = h2 := ⟨_, rfl⟩
  have HX0 := hide (show Box w0 w.heap.size #[.slice A lp c] 24 by rw [hw0]; exact (Box.new w _ _).alloc _)
  have HY0 := hide (show Box w0 h2 #[.int .i64 y1, .int .i64 y2] 41 by
    have h := Box.new (w.alloc (.cells #[.slice A lp c] 24)) #[.int .i64 y1, .int .i64 y2] 41
    rw [World.size_alloc, hh2] at h
    rw [hw0]; exact h)
  have HB0 := hide (show Below w.heap.size w w0 by rw [hw0]; exact alloc2 w _ _)
  rw [← hw0, hh2]
  clear hw0 hh2
  go_upto_region 3 with (go_at_call 18; refine (alive14_any w0).mono ?_; rintro e w1 ⟨rfl, hb1⟩; have HX1 := hide (HX0.out.below hb1); have HY1 := hide (HY0.out.below hb1); have HC1 := hide (HB0.out.trans (hb1.mono HB0.out.size)); clear hb1)
  have x1 := (HX1.out.cell 0 (v := .slice A lp c) rfl).1
  have l1 := HX1.out.lt
  go_upto_region 5 with (go_at_call 19; refine (HOUT.out w1 HC1.out).mono ?_; rintro e w2 ⟨b1, rfl, hs2, hb2⟩; have HB2 := hide (HC1.out.trans (hb2.mono HC1.out.size)); have HX2 := hide (HX1.out.below hb2); have HY2 := hide (HY1.out.below hb2); have HS2 := hide hs2; clear x1 hb2 hs2)
  all_goals try (go_ret; exact ⟨rfl, HB2.out⟩)
  have hb1f : b1 = false := by first | assumption | exact Bool.eq_false_iff.2 (by assumption)
  subst hb1f
  have HOKS := hide (HALLOK.out (HS2.out.out rfl))
  clear HOUT HALLOK HS2 HC1 HX1 HY1 l1
  go_wp2
  go_loopw [7] (fun i wr => ∃ k : Nat, k ≤ lp ∧ i = .int .i64 k ∧ Below w2.heap.size w2 wr) (fun i _ => lp - (intOf i).toNat)
  case atStart => exact ⟨0, Nat.zero_le _, rfl, Below.refl _ _⟩
  case round =>
    obtain ⟨k, hk, rfl, hb'⟩ := hrel
    obtain ⟨wo, rfl⟩ : ∃ wo, wo = wr := ⟨_, rfl⟩
    have hszo := hb'.size
    have HBEL := hide (HB2.out.trans (hb'.mono HB2.out.size))
    have HXO := hide (HX2.out.below hb')
    have HYO := hide (HY2.out.below hb')
    have HBW := hide hb'
    have xp := (HXO.out.cell 0 (v := .slice A lp c) rfl).1
    have lxp := HXO.out.lt
    clear hb'
    by_cases hlt : k < lp
    case neg =>
      have HIS := hide (pis_any op wo)
      have HRS := hide (rpis_any op wo)
      cases hq : isPt op with
      | true =>
        rw [hq] at HIS HRS
        clear hq
        go_wp2_with (first
          | (go_at_call 29; refine HRS.out.mono ?_; rintro e w4 ⟨rfl, rfl⟩)
          | (go_at_call 28; refine HIS.out.mono ?_; rintro e w4 ⟨rfl, rfl⟩))
        go_ret
        exact ⟨by first | rfl | simp, HBEL.out⟩
      | false =>
        rw [hq] at HIS HRS
        clear hq
        go_wp2_with (first
          | (go_at_call 29; refine HRS.out.mono ?_; rintro e w4 ⟨rfl, rfl⟩)
          | (go_at_call 28; refine HIS.out.mono ?_; rintro e w4 ⟨rfl, rfl⟩))
        go_ret
        exact ⟨by first | rfl | simp, HBEL.out⟩
    have HLT := hide hlt
    obtain ⟨f, hf⟩ : ∃ f, p[k]? = some f := ⟨_, List.getElem?_eq_getElem (by have := HLP.out; omega)⟩
    obtain ⟨b, o, Ak, ck, Ab, cb, As, cs, hA, hbb, ⟨e0, e1, e2, e3, e4⟩, hi⟩ := (HKP.out wo HBEL.out).get hf
    subst hA
    have hbs : b < wo.heap.size := by have := HBEL.out.size; omega
    obtain ⟨hok, hls1⟩ := HOKS.out f (List.mem_of_getElem? hf)
    have kI := fun (W : World) (hW : Below wo.heap.size wo W) => hi.keep (w := wo) (S := (· < w.heap.size)) (up hW HBEL.out.size) (fun _ h => h)
    have hsW : ∀ W : World, Below wo.heap.size wo W → w.heap.size ≤ W.heap.size := fun W hW => by have := hW.size; have := HBEL.out.size; omega
    have HPT := hide (fun (W : World) (hW : Below wo.heap.size wo W) => ppoints_any _ _ _ f W w.heap.size (hsW W hW) (kI W hW) hok.1 hok.2.1)
    have HRT := hide (fun (W : World) (hW : Below wo.heap.size wo W) => rpoints_any _ _ _ f W w.heap.size (hsW W hW) (kI W hW) hok.1 hok.2.1)
    have HPN := hide (fun (W : World) (hW : Below wo.heap.size wo W) => pnumber_any _ _ _ f y1 y2 W w.heap.size (hsW W hW) (kI W hW) hok.1 hok.2.1)
    have HRN := hide (fun (W : World) (hW : Below wo.heap.size wo W) => rnumber_any _ _ _ f y1 y2 W w.heap.size (hsW W hW) (kI W hW) hok.1 hok.2.1)
    have hnp := ptsTo_len hok.2.1 f.blocks.length
    have hnp' : (ptsN f).length ≤ 1600 := by have := hok.1; unfold ptsN; omega
    obtain ⟨xi, hxi⟩ : ∃ xi, idxP (ptsN f) (y1, y2) = xi := ⟨_, rfl⟩
    rw [hxi] at HPN HRN
    obtain ⟨es, hes⟩ : ∃ es, ptsN f = es := ⟨_, rfl⟩
    rw [hes] at HPT HRT hnp'
    obtain ⟨np, hnpe⟩ : ∃ np, es.length = np := ⟨_, rfl⟩
    have HNP := hide hnpe
    rw [hnpe] at hnp'
    generalize f.kinds.length = lk, f.base.length = lb, f.blocks.length = ls, f.params = fp, f.result = fr at *
    have HFC := hide (fun (W : World) (hW : Below wo.heap.size wo W) => (show W.cell? ⟨b, o + k * 5, none⟩ = some (.slice Ak lk ck) ∧ W.cell? ⟨b, o + k * 5 + 1, none⟩ = some (.slice Ab lb cb) ∧ W.cell? ⟨b, o + k * 5 + 2, none⟩ = some (.int .i64 fp) ∧ W.cell? ⟨b, o + k * 5 + 3, none⟩ = some (.int .i64 fr) ∧ W.cell? ⟨b, o + k * 5 + 4, none⟩ = some (.slice As ls cs) from
      ⟨(hW.cell (p := ⟨b, o + k * 5, none⟩) hbs).trans e0, (hW.cell (p := ⟨b, o + k * 5 + 1, none⟩) hbs).trans e1, (hW.cell (p := ⟨b, o + k * 5 + 2, none⟩) hbs).trans e2, (hW.cell (p := ⟨b, o + k * 5 + 3, none⟩) hbs).trans e3, (hW.cell (p := ⟨b, o + k * 5 + 4, none⟩) hbs).trans e4⟩))
    have hki : (0 : Int) ≤ (k : Int) := by omega
    have hkl : (k : Int) < (lp : Int) := by omega
    clear hi hf kI hok hsW hes hxi hnpe hnp e0 e1 e2 e3 e4 hls1
    have HKX := hide (fun (W : World) (hW : Below wo.heap.size wo W) => (show (W.cell? ⟨w.heap.size, 0, none⟩ = some (.slice (some ⟨b, o, none⟩) lp c) ∧ W.cell? ⟨b, o + k * 5, none⟩ = some (.slice Ak lk ck) ∧ W.cell? ⟨b, o + k * 5 + 1, none⟩ = some (.slice Ab lb cb) ∧ W.cell? ⟨b, o + k * 5 + 2, none⟩ = some (.int .i64 fp) ∧ W.cell? ⟨b, o + k * 5 + 3, none⟩ = some (.int .i64 fr) ∧ W.cell? ⟨b, o + k * 5 + 4, none⟩ = some (.slice As ls cs)) ∧ w.heap.size < W.heap.size ∧ b < W.heap.size from
      ⟨⟨((HXO.out.below hW).cell 0 (v := .slice (some ⟨b, o, none⟩) lp c) rfl).1, HFC.out W hW⟩, (HXO.out.below hW).lt, by have := hW.size; omega⟩))
    have HKY := hide (fun (W : World) (hW : Below wo.heap.size wo W) => (show (W.cell? ⟨w.heap.size, 0, none⟩ = some (.slice (some ⟨b, o, none⟩) lp c) ∧ W.cell? ⟨b, o + k * 5, none⟩ = some (.slice Ak lk ck) ∧ W.cell? ⟨b, o + k * 5 + 1, none⟩ = some (.slice Ab lb cb) ∧ W.cell? ⟨b, o + k * 5 + 2, none⟩ = some (.int .i64 fp) ∧ W.cell? ⟨b, o + k * 5 + 3, none⟩ = some (.int .i64 fr) ∧ W.cell? ⟨b, o + k * 5 + 4, none⟩ = some (.slice As ls cs) ∧ W.cell? ⟨h2, 0, none⟩ = some (.int .i64 y1) ∧ W.cell? ⟨h2, 1, none⟩ = some (.int .i64 y2)) ∧ w.heap.size < W.heap.size ∧ b < W.heap.size ∧ h2 < W.heap.size from by
      obtain ⟨⟨q0, q1, q2, q3, q4, q5⟩, q6, q7⟩ := HKX.out W hW
      exact ⟨⟨q0, q1, q2, q3, q4, q5, ((HYO.out.below hW).cell 0 (v := .int .i64 y1) rfl).1, ((HYO.out.below hW).cell 1 (v := .int .i64 y2) rfl).1⟩, q6, q7, (HYO.out.below hW).lt⟩))
    obtain ⟨⟨p0, p1, p2, p3, p4, p5⟩, lpx, lbx⟩ := HKX.out wo (Below.refl _ _)
    clear xp lxp hbs
    go_upto_region 8 with (fail)
    go_region_held3 (fun w' => w'.cell? ⟨w.heap.size, 0, none⟩ = some (.slice (some ⟨b, o, none⟩) lp c) ∧ w'.cell? ⟨b, o + k * 5, none⟩ = some (.slice Ak lk ck) ∧ w'.cell? ⟨b, o + k * 5 + 1, none⟩ = some (.slice Ab lb cb) ∧ w'.cell? ⟨b, o + k * 5 + 2, none⟩ = some (.int .i64 fp) ∧ w'.cell? ⟨b, o + k * 5 + 3, none⟩ = some (.int .i64 fr) ∧ w'.cell? ⟨b, o + k * 5 + 4, none⟩ = some (.slice As ls cs)) (first | go_keep | (exact q7) | (exact q6))
      (first
        | (go_at_call 25; refine (HRT.out w6 HC6.out).mono ?_; rintro e w7 ⟨v7, rfl, ho7, hb7⟩; obtain ⟨A7, k7, hv7, hk7, hm7⟩ := ho7.sl; rw [HNP.out] at hv7 hk7; have hc7 := HC6.out.trans (hb7.mono HC6.out.size); obtain ⟨q7, lq7, lr7⟩ := HKX.out w7 hc7; have HO7 := hide ho7; have HO67 := hide (HO6.out.below hb7); have HC7 := hide hc7; subst hv7; clear ho7 hb7 hc7)
        | (go_at_call 24; refine (HPT.out _ (below_drewN (Below.refl _ _) 1)).mono ?_; rintro e w6 ⟨v6, rfl, ho6, hb6⟩; obtain ⟨A6, k6, hv6, hk6, hm6⟩ := ho6.sl; rw [HNP.out] at hv6 hk6; have hc6 : Below wo.heap.size wo w6 := ⟨hb6.os, hb6.tape, hb6.output, hb6.size, hb6.block⟩; obtain ⟨q6, lq6, lr6⟩ := HKX.out w6 hc6; have HO6 := hide ho6; have HC6 := hide hc6; subst hv6; clear ho6 hb6 hc6))
    clear q6 q7 p0 p1 p2 p3 p4 p5 lpx lbx lq6 lr6 lq7 lr7
    obtain ⟨⟨p0, p1, p2, p3, p4, p5, a0, a1⟩, lpx, lbx, lh2⟩ := HKY.out w7 HC7.out
    go_upto_region 9 with (fail)
    go_region_held3 (fun w' => w'.cell? ⟨w.heap.size, 0, none⟩ = some (.slice (some ⟨b, o, none⟩) lp c) ∧ w'.cell? ⟨b, o + k * 5, none⟩ = some (.slice Ak lk ck) ∧ w'.cell? ⟨b, o + k * 5 + 1, none⟩ = some (.slice Ab lb cb) ∧ w'.cell? ⟨b, o + k * 5 + 2, none⟩ = some (.int .i64 fp) ∧ w'.cell? ⟨b, o + k * 5 + 3, none⟩ = some (.int .i64 fr) ∧ w'.cell? ⟨b, o + k * 5 + 4, none⟩ = some (.slice As ls cs) ∧ w'.cell? ⟨h2, 0, none⟩ = some (.int .i64 y1) ∧ w'.cell? ⟨h2, 1, none⟩ = some (.int .i64 y2)) (first | go_keep | (exact q9) | (exact q8))
      (first
        | (go_at_call 27; refine (HRN.out w8 HC8.out).mono ?_; rintro e w9 ⟨rfl, hb9⟩; have hc9 := HC8.out.trans (hb9.mono HC8.out.size); obtain ⟨q9, lq9, lr9, ls9⟩ := HKY.out w9 hc9; have HO9 := hide (HO7.out.below (HB78.out.trans (hb9.mono HB78.out.size))); have HO69 := hide (HO67.out.below (HB78.out.trans (hb9.mono HB78.out.size))); have HC9 := hide hc9; clear hb9 hc9)
        | (go_at_call 26; refine (HPN.out _ (below_drewN HC7.out 1)).mono ?_; rintro e w8 ⟨rfl, hb8⟩; have hb78 : Below w7.heap.size w7 w8 := ⟨hb8.os, hb8.tape, hb8.output, hb8.size, hb8.block⟩; have hc8 := HC7.out.trans (hb78.mono HC7.out.size); obtain ⟨q8, lq8, lr8, ls8⟩ := HKY.out w8 hc8; have HC8 := hide hc8; have HB78 := hide hb78; clear hb8 hc8 hb78))
    clear q8 q9 p0 p1 p2 p3 p4 p5 a0 a1 lpx lbx lh2
    go_wp2
    go_loopw [10] (fun i wr => ∃ j : Nat, j ≤ np ∧ i = .int .i64 j ∧ Below w9.heap.size w9 wr) (fun i _ => np - (intOf i).toNat)
    case atStart => exact ⟨0, Nat.zero_le _, rfl, Below.refl _ _⟩
    case round =>
      obtain ⟨j, hj, rfl, hbj⟩ := hrel
      obtain ⟨wq, rfl⟩ : ∃ wq, wq = wr := ⟨_, rfl⟩
      have HBJ := hide hbj
      have hszq := hbj.size
      clear hbj
      by_cases hlj : j < np
      case neg =>
        go_wp2
        go_roundw
        case rel => exact ⟨k + 1, by have := HLT.out; omega, by go_num, HBW.out.trans ((HC9.out.trans (HBJ.out.mono HC9.out.size)).mono hszo)⟩
        case measure => have := HLT.out; simp [intOf]; omega
      have HLJ := hide hlj
      obtain ⟨⟨z1, z2⟩, hy⟩ : ∃ y, es[j]? = some y := ⟨_, List.getElem?_eq_getElem (by have := HNP.out; omega)⟩
      obtain ⟨g6, cap6, hv6, -, hg6, -, -, -⟩ := HO69.out.blk (by have := HNP.out; omega)
      obtain ⟨g7, cap7, hv7, -, hg7, -, -, -⟩ := HO9.out.blk (by have := HNP.out; omega)
      rw [HNP.out] at hv6 hv7
      injection hv6 with hA6 hx6 hy6
      injection hv7 with hA7 hx7 hy7
      subst hA6
      subst hA7
      clear hx6 hy6 hx7 hy7
      have c60 : wq.cell? ⟨g6, j * 2, none⟩ = some (.int .i64 z1) := (HBJ.out.cell (p := ⟨g6, j * 2, none⟩) hg6).trans (HO69.out.at' HNP.out plC_len hy (i := 0) (by omega)).1
      have c61 : wq.cell? ⟨g6, j * 2 + 1, none⟩ = some (.int .i64 z2) := (HBJ.out.cell (p := ⟨g6, j * 2 + 1, none⟩) hg6).trans (HO69.out.at' HNP.out plC_len hy (i := 1) (by omega)).1
      have c70 : wq.cell? ⟨g7, j * 2, none⟩ = some (.int .i64 z1) := (HBJ.out.cell (p := ⟨g7, j * 2, none⟩) hg7).trans (HO9.out.at' HNP.out plC_len hy (i := 0) (by omega)).1
      have c71 : wq.cell? ⟨g7, j * 2 + 1, none⟩ = some (.int .i64 z2) := (HBJ.out.cell (p := ⟨g7, j * 2 + 1, none⟩) hg7).trans (HO9.out.at' HNP.out plC_len hy (i := 1) (by omega)).1
      have lg6 : g6 < wq.heap.size := by omega
      have lg7 : g7 < wq.heap.size := by omega
      have hji : (0 : Int) ≤ (j : Int) := by omega
      have hjn : (j : Int) < (np : Int) := by omega
      clear hy
      go_wp2_with fail
      go_quiet (fail)
      go_wp2
      go_roundw
      case rel => exact ⟨j + 1, by have := HLJ.out; omega, by go_num, below_drewN HBJ.out _⟩
      case measure => have := HLJ.out; simp [intOf]; omega
end Go.Proofs.Ytnoknodijombpaa
