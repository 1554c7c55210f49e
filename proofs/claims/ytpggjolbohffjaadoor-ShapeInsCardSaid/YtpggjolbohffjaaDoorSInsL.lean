/- The statement ShapeIns, walked: it answers true. Conditions: the table of parts reads as listed; no slice of the program or of the instruction is longer than any machine's memory. -/
import Derived.Test.YtpggjolbohffjaaDoorSIns
set_option linter.unusedSimpArgs false
set_option linter.unusedVariables false
namespace Go.Proofs.YtpggjolbohffjaaDoor
open Go.RowKit

theorem ints_same (va vb : Value) (xs : List Int) (w : World) (B : Nat) (hx : IntsV w (· < B) va xs) (hy : IntsV w (· < B) vb xs) :
    Calls Tryd.prog 24 #[va, vb] w fun e w' => e = .returned (.bool true) ∧ Below w.heap.size w w' :=
  (rints_any va vb xs xs w B hx hy).mono fun e w' ⟨h1, q, h2⟩ => ⟨by rw [h1]; simp, by rw [h2]; exact below_drewN (Below.refl _ _) q⟩
set_option maxHeartbeats 4000000 in
set_option maxRecDepth 100000 in
theorem ins_law (vp : Value) (p : List FunV) (n : Int) (va : Value) (x : InsV) (w : World) (hT : TabP w) (hp : FunsV w (· < w.heap.size) vp p) (hx : InsI w (· < w.heap.size) va x) (hsz : progSize p) :
    Calls Tryd.prog 5 #[.agg #[vp], .int .i64 n, .agg #[.int .i64 x.op, .int .i64 x.d, .int .i64 x.a, .int .i64 x.b, .int .i64 x.n, .int .i64 x.m, va]] w fun e w' => e = .returned (.bool true) ∧ Below w.heap.size w w' := by
  have kp := fun (W : World) (hW : Below w.heap.size w W) => hp.keep (up hW (Nat.le_refl _)) (fun _ h => h)
  have kx := fun (W : World) (hW : Below w.heap.size w W) => hx.keep (up hW (Nat.le_refl _)) (fun _ h => h)
  have HA := hide (fun (W : World) (hW : Below w.heap.size w W) => alive4_any W (hT.below hW hT.1))
  have HG := hide (fun (W : World) (hW : Below w.heap.size w W) => great2_any vp p W w.heap.size hW.size (kp W hW) hsz)
  have HSI := hide (fun (W : World) (hW : Below w.heap.size w W) (hl : x.args.length ≤ 1099511627000) => sins_any vp p n x va W w.heap.size hW.size (hT.below hW hT.1) (kp W hW) (kx W hW) hl)
  have HRI := hide (fun (W : World) (hW : Below w.heap.size w W) (hl : x.args.length ≤ 1099511627000) => rins4_any vp p n x va W w.heap.size hW.size (kp W hW) (kx W hW) hl)
  have HU := hide (fun (W : World) (hW : Below w.heap.size w W) (hl : x.args.length ≤ 1099511627000) => uses_any x va W w.heap.size hW.size (hT.below hW hT.1) (kx W hW) hl)
  have HU4 := hide (fun (W : World) (hW : Below w.heap.size w W) (hl : x.args.length ≤ 1099511627000) => uses4_any x va W w.heap.size hW.size (kx W hW) hl)
  have HL := hide (fun (W : World) => last_any x.op W)
  have HL4 := hide (fun (W : World) => last4_any x.op W)
  have HUR := hide (usesL_R hx.2 hx.1.range)
  have HNR := hide (nextL_R hx.2)
  have HIS := hide (fun va vb zs W B hx hy => ints_same va vb zs W B hx hy)
  obtain ⟨A, c, rfl, hc, hm⟩ := hp.open'
  obtain ⟨Aa, ca, rfl⟩ := hx.open'
  have HN := hide (fun (W : World) => next_any x Aa x.args.length ca W)
  have HN4 := hide (fun (W : World) => next4_any x Aa x.args.length ca W)
  have HS := hide (fun (W : World) (hW : Below w.heap.size w W) => sets_any x Aa x.args.length ca W (hT.below hW hT.1) hx.2.1)
  have HS4 := hide (fun (W : World) => sets4_any x Aa x.args.length ca W)
  have hxr := hx.2
  unfold InsR at hxr
  obtain ⟨np, hnp⟩ : ∃ np, p.length = np := ⟨_, rfl⟩
  rw [hnp] at hc HG HSI HRI ⊢
  generalize x.args.length = la at *
  generalize mayI p n x = mb at *
  generalize usesL x = us at *
  generalize nextL x = nx at *
  generalize lastB x.op = lb at *
  generalize hasB4 x.op 68 = sb at *
  generalize (if sb = true then x.d else 0) = sv at *
  generalize x.op = xop, x.d = xd, x.a = xa, x.b = xb, x.n = xn, x.m = xm at *
  clear hp hx hT hnp kp kx hsz
  go_enter Tryd.func5, Tryd.ntmps5
  go_upto_region 1 with (fail)
  obtain ⟨w1, hw1⟩ : ∃ w1, w1 = (w.alloc (.cells #[.slice A np c] 26)).alloc (.cells #[.int .i64 xop, .int .i64 xd, .int .i64 xa, .int .i64 xb, .int .i64 xn, .int .i64 xm, .slice Aa la ca] 41) := ⟨_, rfl⟩
  obtain ⟨h2, hh2⟩ : ∃ h2, w.heap.size + 1 = h2 := ⟨_, rfl⟩
  have HBP := hide (show Box w1 w.heap.size #[.slice A np c] 26 by rw [hw1]; exact (Box.new w _ _).alloc _)
  have HBX := hide (show Box w1 h2 #[.int .i64 xop, .int .i64 xd, .int .i64 xa, .int .i64 xb, .int .i64 xn, .int .i64 xm, .slice Aa la ca] 41 by
    have h := Box.new (w.alloc (.cells #[.slice A np c] 26)) #[.int .i64 xop, .int .i64 xd, .int .i64 xa, .int .i64 xb, .int .i64 xn, .int .i64 xm, .slice Aa la ca] 41
    rw [World.size_alloc, hh2] at h
    rw [hw1]; exact h)
  have HB1 := hide (show Below w.heap.size w w1 by rw [hw1]; exact alloc2 w _ _)
  have hl1 := HBP.out.lt
  have hl2 := HBX.out.lt
  rw [← hw1, hh2]
  have hwh2 : w.heap.size < h2 := by omega
  clear hw1 hh2
  go_upto_region 3 with (go_at_call 12; refine (HA.out w1 HB1.out).mono ?_; rintro e w2 ⟨rfl, hb2⟩; have hz2 := hb2.size; have HB2 := hide (HB1.out.trans (hb2.mono HB1.out.size)); have HP2 := hide (HBP.out.below hb2); have HX2 := hide (HBX.out.below hb2); clear hb2)
  have p0 := (HP2.out.cell 0 (v := .slice A np c) rfl).1
  obtain ⟨x0, x1, x2, x3, x4, x5, x6⟩ := SBoxR.of HX2.out
  by_cases hla : la ≤ 100
  case neg =>
    have hg : 100 < la := by omega
    clear hla
    go_wp2_with (go_at_call 13; refine (HG.out w2 HB2.out).mono ?_; rintro e w3 ⟨b1, rfl, -, hb3⟩; have HB3 := hide (HB2.out.trans (hb3.mono HB2.out.size)); have x6' := (SBoxR.of (HX2.out.below hb3)).2.2.2.2.2.2; clear hb3)
    all_goals
      go_ret
      exact ⟨rfl, HB3.out⟩
  have hg : ¬ 100 < la := by omega
  go_upto_region 5 with (go_at_call 13; refine (HG.out w2 HB2.out).mono ?_; rintro e w3 ⟨b1, rfl, -, hb3⟩; have hz3 := hb3.size; have HB3 := hide (HB2.out.trans (hb3.mono HB2.out.size)); have x6' := (SBoxR.of (HX2.out.below hb3)).2.2.2.2.2.2; have HP3 := hide (HP2.out.below hb3); have HX3 := hide (HX2.out.below hb3); clear hb3)
  all_goals try (go_ret; exact ⟨rfl, HB3.out⟩)
  clear x0 x1 x2 x3 x4 x5 x6 x6' p0
  have l3 := HX3.out.lt
  obtain ⟨x0, x1, x2, x3, x4, x5, x6⟩ := SBoxR.of HX3.out
  go_upto_region 7 with (first
    | (go_at_call 19; refine (HS4.out w4).mono ?_; rintro e w5 ⟨rfl, hb5⟩; have hz5 := hb5.size; have HB5 := hide (HB4.out.trans (hb5.mono HB4.out.size)); have HP5 := hide (HP4.out.below hb5); have HX5 := hide (HX4.out.below hb5); clear hb5)
    | (go_at_call 18; refine (HS.out w3 HB3.out).mono ?_; rintro e w4 ⟨rfl, hb4⟩; have hz4 := hb4.size; have HB4 := hide (HB3.out.trans (hb4.mono HB3.out.size)); have HP4 := hide (HP3.out.below hb4); have hx4 := HX3.out.below hb4; have y4 := SBoxR.of hx4; obtain ⟨y0, y1, y2, y3, y4, y5, y6⟩ := y4; have HX4 := hide hx4; clear hb4 hx4))
  clear x0 x1 x2 x3 x4 x5 x6 y0 y1 y2 y3 y4 y5 y6
  have l5 := HX5.out.lt
  have lp5 := HP5.out.lt
  obtain ⟨x0, x1, x2, x3, x4, x5, x6⟩ := SBoxR.of HX5.out
  have p0 := (HP5.out.cell 0 (v := .slice A np c) rfl).1
  have HKX := hide (fun (W : World) (hW : Below w5.heap.size w5 W) => And.intro ((HP5.out.below hW).cell 0 (v := .slice A np c) rfl).1 (SBoxR.of (HX5.out.below hW)))
  have HLA := hide (show la ≤ 1099511627000 by omega)
  cases mb <;> cases lb
  all_goals
    go_region_held3 (fun w' => w'.cell? ⟨w.heap.size, 0, none⟩ = some (.slice A np c) ∧ w'.cell? ⟨h2, 0, none⟩ = some (.int .i64 xop) ∧ w'.cell? ⟨h2, 1, none⟩ = some (.int .i64 xd) ∧ w'.cell? ⟨h2, 2, none⟩ = some (.int .i64 xa) ∧ w'.cell? ⟨h2, 3, none⟩ = some (.int .i64 xb) ∧ w'.cell? ⟨h2, 4, none⟩ = some (.int .i64 xn) ∧ w'.cell? ⟨h2, 5, none⟩ = some (.int .i64 xm) ∧ w'.cell? ⟨h2, 6, none⟩ = some (.slice Aa la ca)) (first | go_keep | (exact qd) | (exact qc) | (exact qb) | (exact qa) | (exact q9) | (exact q8) | (exact q7) | (exact q6))
      (first
        | (go_at_call 24; refine (HIS.out _ _ nx wc wc.heap.size HVb.out HVc.out).mono ?_; rintro e wd ⟨rfl, hbd⟩; have hcd := HCc.out.trans (hbd.mono HCc.out.size); have qd := HKX.out wd hcd; have HCd := hide hcd; clear hbd hcd)
        | (go_at_call 28; refine (HN4.out wb).mono ?_; rintro e wc ⟨Ac, cc, rfl, hsc, hlc, hmc, hbc⟩; have hcc := HCb.out.trans (hbc.mono HCb.out.size); have qc := HKX.out wc hcc; have HVc := hide (hsc.intsV hlc (by omega) HNR.out); have HVb := hide (HVa.out.keep (up hbc (Nat.le_refl _)) (fun bb hh => by have := hbc.size; omega) : IntsV wc (· < wc.heap.size) _ nx); have HCc := hide hcc; clear hbc hcc hsc)
        | (go_at_call 27; refine (HN.out wa).mono ?_; rintro e wb ⟨Ab, cb, rfl, hsb, hlb, hmb, hbb⟩; have hcb := HCa.out.trans (hbb.mono HCa.out.size); have qb := HKX.out wb hcb; have HVa := hide (hsb.intsV hlb (by omega) HNR.out); have HCb := hide hcb; clear hbb hcb hsb)
        | (go_at_call 24; refine (HIS.out v8 v9 us w9 w9.heap.size HV8.out HV9.out).mono ?_; rintro e wa ⟨rfl, hba⟩; have hca := HC9.out.trans (hba.mono HC9.out.size); have qa := HKX.out wa hca; have HCa := hide hca; clear hba hca)
        | (go_at_call 26; refine (HU4.out w8 (HB5.out.trans (HC8.out.mono HB5.out.size)) HLA.out).mono ?_; rintro e w9 ⟨v9, rfl, ho9, hb9⟩; have hc9 := HC8.out.trans (hb9.mono HC8.out.size); have q9 := HKX.out w9 hc9; have HV8 := hide (HV7.out.keep (up hb9 (Nat.le_refl _)) (fun bb hh => by have := hb9.size; omega) : IntsV w9 (· < w9.heap.size) v8 us); have HV9 := hide (ho9.intsV HUR.out); have HC9 := hide hc9; clear hb9 hc9 ho9)
        | (go_at_call 25; refine (HU.out w7 (HB5.out.trans (HC7.out.mono HB5.out.size)) HLA.out).mono ?_; rintro e w8 ⟨v8, rfl, ho8, hb8⟩; have hc8 := HC7.out.trans (hb8.mono HC7.out.size); have q8 := HKX.out w8 hc8; have HV7 := hide (ho8.intsV HUR.out); have HC8 := hide hc8; clear hb8 hc8 ho8)
        | (go_at_call 23; refine (HL4.out _).mono ?_; rintro e w' ⟨rfl, rfl⟩)
        | (go_at_call 22; refine (HL.out _).mono ?_; rintro e w' ⟨rfl, rfl⟩)
        | (go_at_call 21; refine (HRI.out w6 (HB5.out.trans (HC6.out.mono HB5.out.size)) HLA.out).mono ?_; rintro e w7 ⟨rfl, hb7⟩; have hc7 := HC6.out.trans (hb7.mono HC6.out.size); have q7 := HKX.out w7 hc7; have HC7 := hide hc7; clear hb7 hc7)
        | (go_at_call 20; refine (HSI.out _ (below_drewN HB5.out 1) HLA.out).mono ?_; rintro e w6 ⟨rfl, hb6⟩; have hc6 : Below w5.heap.size w5 w6 := ⟨hb6.os, hb6.tape, hb6.output, hb6.size, hb6.block⟩; have q6 := HKX.out w6 hc6; have HC6 := hide hc6; clear hb6 hc6))
    all_goals
      go_wp2
      go_ret
      exact ⟨by simp, HB5.out.trans (HCd.out.mono HB5.out.size)⟩
end Go.Proofs.YtpggjolbohffjaaDoor
