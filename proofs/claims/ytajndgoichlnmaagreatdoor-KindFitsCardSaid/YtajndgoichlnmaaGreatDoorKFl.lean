/- The statement KindFits, walked: it answers true. Conditions: the tables of parts and of rows read as listed; no slice of the program is longer than any machine's memory. -/
import Derived.Test.YtajndgoichlnmaaGreatDoorKXw
import Derived.Deep.RegionHeld3
set_option linter.unusedSimpArgs false
set_option linter.unusedVariables false
namespace Go.Proofs.YtajndgoichlnmaaGreatDoor
open Go.RowKit

set_option maxHeartbeats 4000000 in
set_option maxRecDepth 100000 in
theorem fits_law (vp : Value) (p : List FunV) (n : Int) (va : Value) (x : InsV) (w : World) (hT : TabP w) (hR : RowP w) (hp : FunsV w (· < w.heap.size) vp p) (hsz : progSize p) (hx : InsI w (· < w.heap.size) va x) (hxl : x.args.length ≤ 17592186044000) :
    Calls Tryz.prog 4 #[.agg #[vp], .int .i64 n, .agg #[.int .i64 x.op, .int .i64 x.d, .int .i64 x.a, .int .i64 x.b, .int .i64 x.n, .int .i64 x.m, va]] w fun e w' => e = .returned (.bool true) ∧ Below w.heap.size w w' := by
  have HAL := hide (fun (W : World) (hW : Below w.heap.size w W) => alive8_any W (hT.below hW hT.1) (hR.below hW hR.1))
  have HGR := hide (fun (W : World) (hW : Below w.heap.size w W) => great8_any vp p W w.heap.size hW.size (hp.keep (up hW (Nat.le_refl _)) (fun _ h => h)) hsz)
  have HC4 := hide (fun (W : World) (hW : Below w.heap.size w W) (hf : progFew p) => check4_any vp p W w.heap.size hW.size (hp.keep (up hW (Nat.le_refl _)) (fun _ h => h)) hf)
  have HFEW := hide (fun h : ∀ f ∈ p, smallF f => smallF.few h)
  have HIN := hide (fun (W : World) (hW : Below w.heap.size w W) => rins4_any vp p n x va W w.heap.size hW.size (hp.keep (up hW (Nat.le_refl _)) (fun _ h => h)) (hx.keep (up hW (Nat.le_refl _)) (fun _ h => h)) hxl)
  have HKF := hide (fun (k : Nat) (f : FunV) (hf : p[k]? = some f) (hF : FitF p f x) (W : World) (hW : Below w.heap.size w W) => kFits_any vp p f k x va W w.heap.size hW.size (hp.keep (up hW (Nat.le_refl _)) (fun _ h => h)) hf (hx.keep (up hW (Nat.le_refl _)) (fun _ h => h)) (hR.below hW hR.1) hF.op (fun h => (hF.call h).1))
  have HRF := hide (fun (k : Nat) (f : FunV) (hf : p[k]? = some f) (hF : FitF p f x) (W : World) (hW : Below w.heap.size w W) => rfits_any vp p f k x va W w.heap.size hW.size (hp.keep (up hW (Nat.le_refl _)) (fun _ h => h)) hf (hx.keep (up hW (Nat.le_refl _)) (fun _ h => h)) hF)
  have HMF := hide (fun (h : progB4 p = true) (hm : mayI p n x = true) => (show ∃ (k : Nat) (f : FunV), n = (k : Int) ∧ p[k]? = some f ∧ FitF p f x from by
    by_cases hin : inB 0 ((p.length : Int) - 1) n = true
    · have hin2 := inB4_iff.1 hin
      obtain ⟨f, hf⟩ : ∃ f, p[n.toNat]? = some f := ⟨_, List.getElem?_eq_getElem (by omega)⟩
      have hnn : n = ((n.toNat : Nat) : Int) := by omega
      rw [hnn, mayI_in hf] at hm
      exact ⟨n.toNat, f, hnn, hf, fitF_of h (List.mem_of_getElem? hf) hm⟩
    · rw [mayI_out (Bool.eq_false_iff.2 hin)] at hm
      cases hm))
  obtain ⟨Ap, cp, rfl, hcp, hmp⟩ := hp.open'
  obtain ⟨Ax, cx, rfl, hcx, hmx⟩ := hx.1.open'
  obtain ⟨b4, hb4⟩ : ∃ b4, progB4 p = b4 := ⟨_, rfl⟩
  have HP4 := hide hb4
  obtain ⟨mi, hmi⟩ : ∃ mi, mayI p n x = mi := ⟨_, rfl⟩
  have HMI := hide hmi
  rw [hmi] at HIN
  generalize fitB p = FB at HKF HRF
  generalize p.length = lp at *
  obtain ⟨FBx, hFB⟩ : ∃ r : FunV → Bool, (fun f => FB f x) = r := ⟨_, rfl⟩
  have hFB2 : ∀ f, FB f x = FBx f := fun f => by rw [← hFB]
  simp only [hFB2] at HKF HRF
  have HXF := hide (fun (k : Nat) (f : FunV) (hf : p[k]? = some f) (hF : FitF p f x) => hF)
  clear hp hx hT hR hsz hxl hmi hcp hmp hcx hmx hFB hFB2
  obtain ⟨FX, hFX⟩ : ∃ FX : FunV → Prop, (fun f => FitF p f x) = FX := ⟨_, rfl⟩
  have hFX2 : ∀ f, FitF p f x = FX f := fun f => by rw [← hFX]
  simp only [hFX2] at HKF HRF HMF
  clear HXF hFX hFX2
  have HMI2 := hide (fun (h4 : progB4 p = true) (h : mi = true) => HMF.out h4 (by rw [HMI.out]; exact h))
  clear HMF HMI
  generalize x.args.length = lx, x.op = xo, x.d = xd, x.a = xa, x.b = xb, x.n = xn, x.m = xm at *
  go_enter Tryz.func4, Tryz.ntmps4
  go_upto_region 1 with (fail)
  obtain ⟨w1, hw1⟩ : ∃ w1, w1 = (w.alloc (.cells #[.slice Ap lp cp] 24)).alloc (.cells #[.int .i64 xo, .int .i64 xd, .int .i64 xa, .int .i64 xb, .int .i64 xn, .int .i64 xm, .slice Ax lx cx] 31) := ⟨_, rfl⟩
  obtain ⟨h5, hh5⟩ : ∃ h5, w.heap.size = h5 := ⟨_, rfl⟩
  have HX0 := hide (show Box w1 (h5) #[.slice Ap lp cp] 24 by rw [hw1, ← hh5]; have t := Box.new w #[.slice Ap lp cp] 24; (try simp only [World.size_alloc] at t); exact (t.alloc _))
  have HX1 := hide (show Box w1 (h5 + 1) #[.int .i64 xo, .int .i64 xd, .int .i64 xa, .int .i64 xb, .int .i64 xn, .int .i64 xm, .slice Ax lx cx] 31 by rw [hw1, ← hh5]; have t := Box.new (w.alloc (.cells #[.slice Ap lp cp] 24)) #[.int .i64 xo, .int .i64 xd, .int .i64 xa, .int .i64 xb, .int .i64 xn, .int .i64 xm, .slice Ax lx cx] 31; (try simp only [World.size_alloc] at t); exact t)
  have HB1 := hide (show Below w.heap.size w w1 by rw [hw1]; exact (((Below.refl _ _).alloc (Nat.le_refl _) _).alloc (by simp only [World.size_alloc]; omega) _))
  have w1s := HB1.out.size
  have w1z := hide (show w1.heap.size = h5 + 1 + 1 by rw [hw1, ← hh5]; simp only [World.size_alloc])
  have HK0 := hide (fun (W : World) (hW : Below w1.heap.size w1 W) => ((HX0.out.below hW).cell 0 (v := .slice Ap lp cp) rfl).1)
  have lHX0 := HX0.out.lt
  have HK1 := hide (fun (W : World) (hW : Below w1.heap.size w1 W) => (And.intro ((HX1.out.below hW).cell 0 (v := .int .i64 xo) rfl).1 (And.intro ((HX1.out.below hW).cell 1 (v := .int .i64 xd) rfl).1 (And.intro ((HX1.out.below hW).cell 2 (v := .int .i64 xa) rfl).1 (And.intro ((HX1.out.below hW).cell 3 (v := .int .i64 xb) rfl).1 (And.intro ((HX1.out.below hW).cell 4 (v := .int .i64 xn) rfl).1 (And.intro ((HX1.out.below hW).cell 5 (v := .int .i64 xm) rfl).1 ((HX1.out.below hW).cell 6 (v := .slice Ax lx cx) rfl).1)))))))
  have lHX1 := HX1.out.lt
  have h5g : w.heap.size ≤ h5 := by omega
  rw [← hw1, hh5]
  clear hw1 hh5
  have p0 := HK0.out w1 (Below.refl _ _)
  obtain ⟨x0, x1, x2, x3, x4, x5, x6⟩ := HK1.out w1 (Below.refl _ _)
  cases b4
  case false =>
    have hc : chkN4 p = 5 := by unfold chkN4; rw [hb4]; rfl
    rw [hc] at HC4
    clear hb4 hc
    go_wp2_with (first
      | (go_at_call 11; (with_reducible refine (HC4.out w3 HB3.out (HFEW.out (HS3.out (by simp)))).mono ?_); rintro e w4 ⟨rfl, hb4⟩; have HQ4 := hide (HQ3.out.trans (hb4.mono HQ3.out.size)); have HB4 := hide (HB3.out.trans (hb4.mono HB3.out.size)); have p4 := HK0.out w4 HQ4.out; have px4 := HK1.out w4 HQ4.out; clear hb4)
      | (go_at_call 8; (with_reducible refine (HGR.out w2 HB2.out).mono ?_); rintro e w3 ⟨bG, rfl, hs3, hb3⟩; have HS3 := hide hs3; have HQ3 := hide (HQ2.out.trans (hb3.mono HQ2.out.size)); have HB3 := hide (HB2.out.trans (hb3.mono HB2.out.size)); have p3 := HK0.out w3 HQ3.out; have px3 := HK1.out w3 HQ3.out; clear hb3 hs3; cases bG)
      | (go_at_call 7; (with_reducible refine (HAL.out w1 HB1.out).mono ?_); rintro e w2 ⟨rfl, hb2⟩; have HQ2 := hide hb2; have HB2 := hide (HB1.out.trans (hb2.mono HB1.out.size)); have p2 := HK0.out w2 hb2; have px2 := HK1.out w2 hb2; clear hb2))
    all_goals
      go_ret
      first
        | exact ⟨rfl, HB4.out⟩
        | exact ⟨rfl, HB3.out⟩
  have hc : chkN4 p = 0 := by unfold chkN4; rw [hb4]; rfl
  rw [hc] at HC4
  clear hb4 hc
  cases mi
  case false =>
    go_wp2_with (first
      | (go_at_call 12; (with_reducible refine (HIN.out w4 HB4.out).mono ?_); rintro e w5 ⟨rfl, hb5⟩; have HQ5 := hide (HQ4.out.trans (hb5.mono HQ4.out.size)); have HB5 := hide (HB4.out.trans (hb5.mono HB4.out.size)); clear hb5)
      | (go_at_call 11; (with_reducible refine (HC4.out w3 HB3.out (HFEW.out (HS3.out (by simp)))).mono ?_); rintro e w4 ⟨rfl, hb4⟩; have HQ4 := hide (HQ3.out.trans (hb4.mono HQ3.out.size)); have HB4 := hide (HB3.out.trans (hb4.mono HB3.out.size)); have p4 := HK0.out w4 HQ4.out; have px4 := HK1.out w4 HQ4.out; clear hb4)
      | (go_at_call 8; (with_reducible refine (HGR.out w2 HB2.out).mono ?_); rintro e w3 ⟨bG, rfl, hs3, hb3⟩; have HS3 := hide hs3; have HQ3 := hide (HQ2.out.trans (hb3.mono HQ2.out.size)); have HB3 := hide (HB2.out.trans (hb3.mono HB2.out.size)); have p3 := HK0.out w3 HQ3.out; have px3 := HK1.out w3 HQ3.out; clear hb3 hs3; cases bG)
      | (go_at_call 7; (with_reducible refine (HAL.out w1 HB1.out).mono ?_); rintro e w2 ⟨rfl, hb2⟩; have HQ2 := hide hb2; have HB2 := hide (HB1.out.trans (hb2.mono HB1.out.size)); have p2 := HK0.out w2 hb2; have px2 := HK1.out w2 hb2; clear hb2))
    all_goals
      go_ret
      first
        | exact ⟨rfl, HB5.out⟩
        | exact ⟨rfl, HB3.out⟩
  obtain ⟨k, f, rfl, hf, hF⟩ := HMI2.out HP4.out rfl
  have HKG := hide (HKF.out k f hf hF)
  have HRG := hide (HRF.out k f hf hF)
  generalize FBx f = bf at *
  clear HKF HRF HMI2 hf hF
  go_upto_region 5 with (first
    | (go_at_call 12; (with_reducible refine (HIN.out w4 HB4.out).mono ?_); rintro e w5 ⟨rfl, hb5⟩; have HQ5 := hide (HQ4.out.trans (hb5.mono HQ4.out.size)); have HB5 := hide (HB4.out.trans (hb5.mono HB4.out.size)); clear hb5)
    | (go_at_call 11; (with_reducible refine (HC4.out w3 HB3.out (HFEW.out (HS3.out (by simp)))).mono ?_); rintro e w4 ⟨rfl, hb4⟩; have HQ4 := hide (HQ3.out.trans (hb4.mono HQ3.out.size)); have HB4 := hide (HB3.out.trans (hb4.mono HB3.out.size)); have p4 := HK0.out w4 HQ4.out; have px4 := HK1.out w4 HQ4.out; clear hb4)
    | (go_at_call 8; (with_reducible refine (HGR.out w2 HB2.out).mono ?_); rintro e w3 ⟨bG, rfl, hs3, hb3⟩; have HS3 := hide hs3; have HQ3 := hide (HQ2.out.trans (hb3.mono HQ2.out.size)); have HB3 := hide (HB2.out.trans (hb3.mono HB2.out.size)); have p3 := HK0.out w3 HQ3.out; have px3 := HK1.out w3 HQ3.out; clear hb3 hs3; cases bG)
    | (go_at_call 7; (with_reducible refine (HAL.out w1 HB1.out).mono ?_); rintro e w2 ⟨rfl, hb2⟩; have HQ2 := hide hb2; have HB2 := hide (HB1.out.trans (hb2.mono HB1.out.size)); have p2 := HK0.out w2 hb2; have px2 := HK1.out w2 hb2; clear hb2))
  all_goals try (go_ret; exact ⟨rfl, HB3.out⟩)
  have HXC := hide (fun (W : World) (hW : Below w5.heap.size w5 W) => And.intro (HK0.out W (HQ5.out.trans (hW.mono HQ5.out.size))) (HK1.out W (HQ5.out.trans (hW.mono HQ5.out.size))))
  obtain ⟨p5, x0', x1', x2', x3', x4', x5', x6'⟩ := HXC.out w5 (Below.refl _ _)
  have HKG2 := hide (HKG.out w5.drew (below_drewN HB5.out 1))
  go_region_held3 (fun w' => w'.cell? ⟨h5, 0, none⟩ = some (.slice Ap lp cp) ∧ w'.cell? ⟨h5 + 1, 0, none⟩ = some (.int .i64 xo) ∧ w'.cell? ⟨h5 + 1, 1, none⟩ = some (.int .i64 xd) ∧ w'.cell? ⟨h5 + 1, 2, none⟩ = some (.int .i64 xa) ∧ w'.cell? ⟨h5 + 1, 3, none⟩ = some (.int .i64 xb) ∧ w'.cell? ⟨h5 + 1, 4, none⟩ = some (.int .i64 xn) ∧ w'.cell? ⟨h5 + 1, 5, none⟩ = some (.int .i64 xm) ∧ w'.cell? ⟨h5 + 1, 6, none⟩ = some (.slice Ax lx cx)) (first | go_keep | (exact q7) | (exact q6))
      (first
        | (go_at_call 14; (with_reducible refine (HRG.out w6 (HB5.out.trans (HC6.out.mono HB5.out.size))).mono ?_); rintro e w7 ⟨rfl, hb⟩; have hc7 := HC6.out.trans (hb.mono HC6.out.size); have q7 := HXC.out w7 hc7; have HC7 := hide hc7; clear hb hc7)
        | (go_at_call 13; refine HKG2.out.mono ?_; rintro e w6 ⟨rfl, hb⟩; have hc6 : Below w5.heap.size w5 w6 := ⟨hb.os, hb.tape, hb.output, hb.size, hb.block⟩; have q6 := HXC.out w6 hc6; have HC6 := hide hc6; clear hb hc6))
  go_wp2
  go_ret
  exact ⟨by first | rfl | simp, HB5.out.trans (HC7.out.mono HB5.out.size)⟩
end Go.Proofs.YtajndgoichlnmaaGreatDoor
