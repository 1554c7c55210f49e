/- The statement FlowAsks, walked: it answers true. Condition: no slice of the program is longer than any machine's memory. -/
import Derived.Test.YtpggjolbohffjaaFK
set_option linter.unusedSimpArgs false
set_option linter.unusedVariables false
namespace Go.Proofs.Ytpggjolbohffjaa
open Go.RowKit

theorem ints_same5 (va vb : Value) (xs : List Int) (w : World) (B : Nat) (hx : IntsV w (· < B) va xs) (hy : IntsV w (· < B) vb xs) :
    Calls Try.prog 10 #[va, vb] w fun e w' => e = .returned (.bool true) ∧ Below w.heap.size w w' :=
  (rints_any va vb xs xs w B hx hy).mono fun e w' ⟨h1, q, h2⟩ => ⟨by rw [h1]; simp, by rw [h2]; exact below_drewN (Below.refl _ _) q⟩
theorem nxtI_R {f : FunV} (hok : FlowOk f) (z : Int) : ∀ v ∈ nxtI f z, i64R v := by
  unfold nxtI
  split
  · exact nxt_R hok _
  · intro v hv; cases hv
theorem prevN_R {f : FunV} (hok : FlowOk f) (z : Int) : ∀ v ∈ prevN f z, i64R v := by
  intro v hv
  unfold prevN edgesN edgesTo at hv
  simp only [List.mem_map, List.mem_filter, List.mem_flatMap, List.mem_range] at hv
  obtain ⟨p, ⟨⟨i, hi, u, -, rfl⟩, -⟩, rfl⟩ := hv
  have := hok.1
  unfold i64R
  simp only
  omega
set_option maxHeartbeats 4000000 in
set_option maxRecDepth 100000 in
theorem asks_law (vp : Value) (p : List FunV) (z : Int) (w : World) (hp : FunsV w (· < w.heap.size) vp p) (hsz : progSize p) :
    Calls Try.prog 3 #[.agg #[vp], .int .i64 z] w fun e w' => e = .returned (.bool true) ∧ Below w.heap.size w w' := by
  have HKP := hide (fun (W : World) (hW : Below w.heap.size w W) => hp.keep (up hW (Nat.le_refl _)) (fun _ h => h))
  have HOUT := hide (fun (W : World) (hW : Below w.heap.size w W) => out5_any vp p W w.heap.size hW.size (hp.keep (up hW (Nat.le_refl _)) (fun _ h => h)) hsz)
  have HALLOK := hide (fun h => @flowOk_of p h)
  have HIS := hide (fun va vb zs W B hx hy => ints_same5 va vb zs W B hx hy)
  have HSE := hide (fun A1 A2 c1 c2 es W h1 h2 hn => sameEdges_yes A1 A2 c1 c2 es W h1 h2 hn)
  obtain ⟨A, c, rfl, hpc, hpm⟩ := hp.open'
  obtain ⟨lp, hlp⟩ : ∃ lp, p.length = lp := ⟨_, rfl⟩
  have HLP := hide hlp
  rw [hlp] at HKP HOUT hpc ⊢
  clear hp hsz hlp
  go_enter Try.func3, Try.ntmps3
  go_upto_region 1 with (fail)
  obtain ⟨w0, hw0⟩ : ∃ w0, w0 = w.alloc (.cells #[.slice A lp c] 24) := ⟨_, rfl⟩
  have HX0 := hide (show Box w0 w.heap.size #[.slice A lp c] 24 by rw [hw0]; exact Box.new w _ _)
  have HB0 := hide (show Below w.heap.size w w0 by rw [hw0]; exact alloc1 w _)
  have hl0 := HX0.out.lt
  rw [← hw0]
  clear hw0
  go_upto_region 3 with (go_at_call 8; refine (alive5_any w0).mono ?_; rintro e w1 ⟨rfl, hb1⟩; have HX1 := hide (HX0.out.below hb1); have HC1 := hide (HB0.out.trans (hb1.mono HB0.out.size)); clear hb1)
  have x1 := (HX1.out.cell 0 (v := .slice A lp c) rfl).1
  have l1 := HX1.out.lt
  go_upto_region 5 with (go_at_call 9; refine (HOUT.out w1 HC1.out).mono ?_; rintro e w2 ⟨b1, rfl, hs2, hb2⟩; have HB2 := hide (HC1.out.trans (hb2.mono HC1.out.size)); have HX2 := hide (HX1.out.below hb2); have HS2 := hide hs2; clear x1 hb2 hs2)
  all_goals try (go_ret; exact ⟨rfl, HB2.out⟩)
  have hb1f : b1 = false := by assumption
  subst hb1f
  have HOKS := hide (HALLOK.out (HS2.out.out rfl))
  clear HOUT HALLOK HS2 HC1 HX1 l1 hl0
  have l2 := HX2.out.lt
  go_wp2
  go_loopw [5] (fun i wr => ∃ k : Nat, k ≤ lp ∧ i = .int .i64 k ∧ Below w2.heap.size w2 wr) (fun i _ => lp - (intOf i).toNat)
  case atStart => exact ⟨0, Nat.zero_le _, rfl, Below.refl _ _⟩
  case round =>
    obtain ⟨k, hk, rfl, hb⟩ := hrel
    obtain ⟨wo, rfl⟩ : ∃ wo, wo = wr := ⟨_, rfl⟩
    have hszo := hb.size
    have HBEL := hide (HB2.out.trans (hb.mono HB2.out.size))
    have HXO := hide (HX2.out.below hb)
    have HBW := hide hb
    have xp := (HXO.out.cell 0 (v := .slice A lp c) rfl).1
    have lxp := HXO.out.lt
    clear hb
    by_cases hlt : k < lp
    case neg =>
      go_wp2
      go_ret
      exact ⟨rfl, HBEL.out⟩
    obtain ⟨f, hf⟩ : ∃ f, p[k]? = some f := ⟨_, List.getElem?_eq_getElem (by have := HLP.out; omega)⟩
    obtain ⟨b, o, Ak, ck, Ab, cb, As, cs, hA, hbb, ⟨e0, e1, e2, e3, e4⟩, hi⟩ := (HKP.out wo HBEL.out).get hf
    subst hA
    have hbs : b < wo.heap.size := by have := HBEL.out.size; omega
    obtain ⟨hok, hls1⟩ := HOKS.out f (List.mem_of_getElem? hf)
    have kI := fun (W : World) (hW : Below wo.heap.size wo W) => hi.keep (w := wo) (S := (· < w.heap.size)) (up hW HBEL.out.size) (fun _ h => h)
    have HNX := hide (fun (W : World) (hW : Below wo.heap.size wo W) => fnextN_any _ _ _ f z W w.heap.size (by have := hW.size; have := HBEL.out.size; omega) (kI W hW) hok)
    have HNR := hide (fun (W : World) (hW : Below wo.heap.size wo W) => rnextN_any _ _ _ f z W w.heap.size (by have := hW.size; have := HBEL.out.size; omega) (kI W hW) hok)
    have HPX := hide (fun (W : World) (hW : Below wo.heap.size wo W) => fprev_any _ _ _ f z W w.heap.size (by have := hW.size; have := HBEL.out.size; omega) (kI W hW) hok)
    have HPR := hide (fun (W : World) (hW : Below wo.heap.size wo W) => rprev_any _ _ _ f z W w.heap.size (by have := hW.size; have := HBEL.out.size; omega) (kI W hW) hok)
    have HEX := hide (fun (W : World) (hW : Below wo.heap.size wo W) => fedges_any _ _ _ f W w.heap.size (by have := hW.size; have := HBEL.out.size; omega) (kI W hW) hok)
    have HER := hide (fun (W : World) (hW : Below wo.heap.size wo W) => redges_any _ _ _ f W w.heap.size (by have := hW.size; have := HBEL.out.size; omega) (kI W hW) hok)
    have HZX := hide (fun (W : World) (hW : Below wo.heap.size wo W) => fsize_any _ _ _ f W w.heap.size (by have := hW.size; have := HBEL.out.size; omega) (kI W hW) hok)
    have HZR := hide (fun (W : World) (hW : Below wo.heap.size wo W) => rsize_any _ _ _ f W w.heap.size (by have := hW.size; have := HBEL.out.size; omega) (kI W hW) hok)
    have HRN := hide (nxtI_R hok z)
    have HRP := hide (prevN_R hok z)
    have HEL := hide (show (edgesN f).length ≤ 1000 by have := edgesN_len hok; omega)
    generalize nxtI f z = nx at *
    generalize prevN f z = pn at *
    generalize edgesN f = en at *
    generalize sizeTo f f.blocks.length = sz at *
    generalize f.kinds.length = lk, f.base.length = lb, f.blocks.length = ls, f.params = fp, f.result = fr at *
    have hki : (0 : Int) ≤ (k : Int) := by omega
    have hkl : (k : Int) < (lp : Int) := by omega
    clear hi hf kI hok hls1
    go_upto_region 9 with (fail)
    obtain ⟨w5, hw5⟩ : ∃ w5, w5 = wo.alloc (.cells #[.slice Ak lk ck, .slice Ab lb cb, .int .i64 fp, .int .i64 fr, .slice As ls cs] 30) := ⟨_, rfl⟩
    obtain ⟨h5, hh5⟩ : ∃ h5, wo.heap.size = h5 := ⟨_, rfl⟩
    have HX5 := hide (show Box w5 h5 #[.slice Ak lk ck, .slice Ab lb cb, .int .i64 fp, .int .i64 fr, .slice As ls cs] 30 by rw [hw5, ← hh5]; exact Box.new wo _ _)
    have HB5 := hide (show Below wo.heap.size wo w5 by rw [hw5]; exact alloc1 wo _)
    rw [← hw5, hh5]
    clear hw5 hh5 e0 e1 e2 e3 e4 hbs xp lxp
    have hz5 := HB5.out.size
    have l5 := HX5.out.lt
    have c0 := (HX5.out.cell 0 (v := .slice Ak lk ck) rfl).1
    have c1 := (HX5.out.cell 1 (v := .slice Ab lb cb) rfl).1
    have c2 := (HX5.out.cell 2 (v := .int .i64 fp) rfl).1
    have c3 := (HX5.out.cell 3 (v := .int .i64 fr) rfl).1
    have c4 := (HX5.out.cell 4 (v := .slice As ls cs) rfl).1
    have HK5 := hide (fun (W : World) (hW : Below w5.heap.size w5 W) => And.intro ((HX5.out.below hW).cell 0 (v := .slice Ak lk ck) rfl).1 (And.intro ((HX5.out.below hW).cell 1 (v := .slice Ab lb cb) rfl).1 (And.intro ((HX5.out.below hW).cell 2 (v := .int .i64 fp) rfl).1 (And.intro ((HX5.out.below hW).cell 3 (v := .int .i64 fr) rfl).1 ((HX5.out.below hW).cell 4 (v := .slice As ls cs) rfl).1))))
    have HUP := hide (fun (W : World) (hW : Below w5.heap.size w5 W) => HB5.out.trans (hW.mono HB5.out.size))
    go_region_held3 (fun w' => w'.cell? ⟨h5, 0, none⟩ = some (.slice Ak lk ck) ∧ w'.cell? ⟨h5, 1, none⟩ = some (.slice Ab lb cb) ∧ w'.cell? ⟨h5, 2, none⟩ = some (.int .i64 fp) ∧ w'.cell? ⟨h5, 3, none⟩ = some (.int .i64 fr) ∧ w'.cell? ⟨h5, 4, none⟩ = some (.slice As ls cs)) (first | go_keep | (exact qg) | (exact qf) | (exact qe) | (exact qd) | (exact qc) | (exact qb) | (exact qa) | (exact q9) | (exact q8) | (exact q7) | (exact q6))
      (first
        | (go_at_call 19; refine (HZR.out wf (HUP.out wf HCf.out)).mono ?_; rintro e wg ⟨rfl, hbg⟩; have hcg := HCf.out.trans (hbg.mono HCf.out.size); have qg := HK5.out wg hcg; have HCg := hide hcg; clear hbg hcg)
        | (go_at_call 18; refine (HZX.out we (HUP.out we HCe.out)).mono ?_; rintro e wf ⟨rfl, hbf⟩; have hcf := HCe.out.trans (hbf.mono HCe.out.size); have qf := HK5.out wf hcf; have HCf := hide hcf; clear hbf hcf)
        | (go_at_call 15; refine (HSE.out Ac Ad cc cd en wd ((HSc.out.below HBd.out).more HBd.out.size) HSd.out HEL.out).mono ?_; rintro e we ⟨rfl, hbe⟩; have hce := HCd.out.trans (hbe.mono HCd.out.size); have qe := HK5.out we hce; have HCe := hide hce; clear hbe hce)
        | (go_at_call 17; refine (HER.out wc (HUP.out wc HCc.out)).mono ?_; rintro e wd ⟨vd, rfl, hod, hbd⟩; obtain ⟨Ad, cd, rfl, -, -, hsd⟩ := hod.sl; have hcd := HCc.out.trans (hbd.mono HCc.out.size); have qd := HK5.out wd hcd; have HSd := hide hsd; have HBd := hide hbd; have HCd := hide hcd; clear hbd hcd hod hsd)
        | (go_at_call 16; refine (HEX.out wb (HUP.out wb HCb.out)).mono ?_; rintro e wc ⟨vc, rfl, hoc, hbc⟩; obtain ⟨Ac, cc, rfl, -, -, hsc⟩ := hoc.sl; have hcc := HCb.out.trans (hbc.mono HCb.out.size); have qc := HK5.out wc hcc; have HSc := hide hsc; have HCc := hide hcc; clear hbc hcc hoc hsc)
        | (go_at_call 10; refine (HIS.out v9 va pn wa wa.heap.size HV9.out HVa.out).mono ?_; rintro e wb ⟨rfl, hbb'⟩; have hcb' := HCa.out.trans (hbb'.mono HCa.out.size); have qb := HK5.out wb hcb'; have HCb := hide hcb'; clear hbb' hcb')
        | (go_at_call 14; refine (HPR.out w9 (HUP.out w9 HC9.out)).mono ?_; rintro e wa ⟨va, rfl, hoa, hba⟩; have hca := HC9.out.trans (hba.mono HC9.out.size); have qa := HK5.out wa hca; have HV9 := hide (HV8.out.keep (up hba (Nat.le_refl _)) (fun bb hh => by have := hba.size; omega) : IntsV wa (· < wa.heap.size) v9 pn); have HVa := hide (hoa.intsV HRP.out); have HCa := hide hca; clear hba hca hoa)
        | (go_at_call 13; refine (HPX.out w8 (HUP.out w8 HC8.out)).mono ?_; rintro e w9 ⟨v9, rfl, ho9, hb9⟩; have hc9 := HC8.out.trans (hb9.mono HC8.out.size); have q9 := HK5.out w9 hc9; have HV8 := hide (ho9.intsV HRP.out); have HC9 := hide hc9; clear hb9 hc9 ho9)
        | (go_at_call 10; refine (HIS.out _ _ nx w7 w7.heap.size HV6.out HV7.out).mono ?_; rintro e w8 ⟨rfl, hb8⟩; have hc8 := HC7.out.trans (hb8.mono HC7.out.size); have q8 := HK5.out w8 hc8; have HC8 := hide hc8; clear hb8 hc8)
        | (go_at_call 12; refine (HNR.out w6 (HUP.out w6 HC6.out)).mono ?_; rintro e w7 ⟨A7, c7, rfl, hs7, hl7, hm7, -, hb7⟩; have hc7 := HC6.out.trans (hb7.mono HC6.out.size); have q7 := HK5.out w7 hc7; have HV7 := hide (hs7.vec hl7 (by omega) HRN.out); have HV6 := hide (((HS6.out.below hb7).more hb7.size).vec hl6 (by omega) HRN.out); have HC7 := hide hc7; clear hb7 hc7 hs7)
        | (go_at_call 11; refine (HNX.out _ (HUP.out _ (below_drewN (Below.refl _ _) 1))).mono ?_; rintro e w6 ⟨A6, c6, rfl, hs6, hl6, hm6, -, hb6⟩; have hc6 : Below w5.heap.size w5 w6 := ⟨hb6.os, hb6.tape, hb6.output, hb6.size, hb6.block⟩; have q6 := HK5.out w6 hc6; have HS6 := hide hs6; have HC6 := hide hc6; clear hb6 hc6 hs6))
    all_goals
      go_wp2
      go_roundw
      case rel => exact ⟨k + 1, by omega, by go_num, HBW.out.trans ((HUP.out wg HCg.out).mono hszo)⟩
      case measure => simp [intOf]; omega
end Go.Proofs.Ytpggjolbohffjaa
