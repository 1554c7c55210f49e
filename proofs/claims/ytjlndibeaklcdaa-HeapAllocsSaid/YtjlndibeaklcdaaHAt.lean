/- Layer 9, the reference: Right, at, Load, Ref. No condition but on lengths. -/
import Derived.Test.YtjlndibeaklcdaaHO
set_option linter.unusedSimpArgs false
set_option linter.unusedVariables false
namespace Go.Proofs.Ytjlndibeaklcdaa
open Go.RowKit

set_option maxHeartbeats 2000000 in
set_option maxRecDepth 100000 in
theorem rright_any (vh : Value) (h : List ObjV) (w : World) (B : Nat) (hB : B ≤ w.heap.size) (hh : ObjsV w (· < B) vh h) :
    Calls Try.prog 12 #[.agg #[vh]] w fun e w' => e = .returned (.bool (rightB h)) ∧ Below w.heap.size w w' := by
  have HK := hide (fun (W : World) (hW : Below w.heap.size w W) => hh.keep (up hW hB) (fun _ h => h))
  obtain ⟨Ao, c, rfl, hc, hm⟩ := hh.open'
  obtain ⟨n, hn⟩ : ∃ n, h.length = n := ⟨_, rfl⟩
  have HN := hide hn
  rw [hn] at HK hc ⊢
  clear hh hn
  go_enter Try.func12, Try.ntmps12
  go_upto_region 1 with (fail)
  obtain ⟨w1, hw1⟩ : ∃ w1, w1 = w.alloc (.cells #[.slice Ao n c] 24) := ⟨_, rfl⟩
  obtain ⟨h5, hh5⟩ : ∃ h5, w.heap.size = h5 := ⟨_, rfl⟩
  have HX0 := hide (show Box w1 (h5) #[.slice Ao n c] 24 by rw [hw1, ← hh5]; have t := Box.new w #[.slice Ao n c] 24; (try simp only [World.size_alloc] at t); exact t)
  have HB1 := hide (show Below w.heap.size w w1 by rw [hw1]; exact ((Below.refl _ _).alloc (Nat.le_refl _) _))
  have w1s := HB1.out.size
  have w1z := hide (show w1.heap.size = h5 + 1 by rw [hw1, ← hh5]; simp only [World.size_alloc])
  have HK0 := hide (fun (W : World) (hW : Below w1.heap.size w1 W) => ((HX0.out.below hW).cell 0 (v := .slice Ao n c) rfl).1)
  have lHX0 := HX0.out.lt
  have h5g : w.heap.size ≤ h5 := by omega
  rw [← hw1, hh5]
  clear hw1 hh5
  have p0 := HK0.out w1 (Below.refl _ _)
  go_wp2
  go_loopw [3] (fun i wr => ∃ k : Nat, k ≤ n ∧ i = .int .i64 k ∧ Below w1.heap.size w1 wr ∧ Hid ((h.take k).all (objB n) = true)) (fun i _ => n - (intOf i).toNat)
  case atStart => exact ⟨0, Nat.zero_le _, rfl, Below.refl _ _, hide (by simp)⟩
  case round =>
    obtain ⟨k, hk, rfl, hb', hno⟩ := hrel
    obtain ⟨wo, rfl⟩ : ∃ wo, wo = wr := ⟨_, rfl⟩
    have hszo := hb'.size
    have HBEL := hide (HB1.out.trans (hb'.mono HB1.out.size))
    have HBW := hide hb'
    have xp := HK0.out wo hb'
    clear hb' p0
    by_cases hlt : k < n
    case neg =>
      have hv := hide (show rightB h = true by unfold rightB; rw [HN.out]; exact allB_end hno.out HN.out (by omega))
      go_wp2
      go_ret
      exact ⟨ret_bool hv.out.symm, HBEL.out⟩
    obtain ⟨o, ho⟩ : ∃ o, h[k]? = some o := ⟨_, List.getElem?_eq_getElem (by have := HN.out; omega)⟩
    obtain ⟨bg, og, Ar, cr, Ai, ci, hAo, hbgb, ⟨e0, e1⟩, hi⟩ := (HK.out wo HBEL.out).get ho
    subst hAo
    have hbs : bg < wo.heap.size := by omega
    have HFA := hide (fun hf : objB n o = false => (show rightB h = false by unfold rightB; rw [HN.out]; exact allB_not ho hf))
    have HTR := hide (fun hf : objB n o = true => (show (h.take (k + 1)).all (objB n) = true from allB_take hno.out ho hf))
    have HIR := hide (fun (W : World) (hW : Below wo.heap.size wo W) => (hi.1.keep (up hW (by omega : B ≤ wo.heap.size)) (fun _ h => h)))
    have hob : objB n o = (decide (o.refs.length ≤ 8) && (decide (o.ints.length ≤ 8) && o.refs.all (rfB n))) := rfl
    have HOB := hide hob
    obtain ⟨rl, hrl⟩ : ∃ rl, o.refs.length = rl := ⟨_, rfl⟩
    obtain ⟨il, hil⟩ : ∃ il, o.ints.length = il := ⟨_, rfl⟩
    have HRL := hide hrl
    rw [hrl] at HOB e0 HIR
    rw [hil] at HOB e1
    have hmr : rl ≤ 9223372036854775807 := by obtain ⟨A, c, -, h1, h2⟩ := hi.1.open'; omega
    have hmi : il ≤ 9223372036854775807 := by obtain ⟨A, c, -, h1, h2⟩ := hi.2.open'; omega
    clear hi ho hrl hil hob
    have hki : (0 : Int) ≤ (k : Int) := by omega
    have hkl : (k : Int) < (n : Int) := by omega
    go_upto_region 5 with (fail)
    obtain ⟨w4, hw4⟩ : ∃ w4, w4 = wo.alloc (.cells #[.slice Ar rl cr, .slice Ai il ci] 43) := ⟨_, rfl⟩
    obtain ⟨h6, hh6⟩ : ∃ h6, wo.heap.size = h6 := ⟨_, rfl⟩
    have HFX0 := hide (show Box w4 (h6) #[.slice Ar rl cr, .slice Ai il ci] 43 by rw [hw4, ← hh6]; have t := Box.new wo #[.slice Ar rl cr, .slice Ai il ci] 43; (try simp only [World.size_alloc] at t); exact t)
    have HB4 := hide (show Below wo.heap.size wo w4 by rw [hw4]; exact ((Below.refl _ _).alloc (Nat.le_refl _) _))
    have w4s := HB4.out.size
    have w4z := hide (show w4.heap.size = h6 + 1 by rw [hw4, ← hh6]; simp only [World.size_alloc])
    have HFK0 := hide (fun (W : World) (hW : Below w4.heap.size w4 W) => (And.intro ((HFX0.out.below hW).cell 0 (v := .slice Ar rl cr) rfl).1 ((HFX0.out.below hW).cell 1 (v := .slice Ai il ci) rfl).1))
    have lHFX0 := HFX0.out.lt
    have h6g : wo.heap.size ≤ h6 := by omega
    rw [← hw4, hh6]
    clear hw4 hh6

    obtain ⟨c0, c1⟩ := HFK0.out w4 (Below.refl _ _)
    clear e0 e1
    have HQ := hide (fun (W : World) (hW : Below w4.heap.size w4 W) => And.intro (HFK0.out W hW) (HK0.out W (HBW.out.trans ((HB4.out.trans (hW.mono HB4.out.size)).mono hszo))))
    obtain ⟨-, xp⟩ := HQ.out w4 (Below.refl _ _)
    by_cases h8 : 8 < rl
    · have hv := hide (HFA.out (by rw [HOB.out]; have : decide (rl ≤ 8) = false := by simpa using h8
                                   rw [this]; rfl))
      go_wp2
      go_ret
      exact ⟨ret_bool hv.out.symm, HBEL.out.trans (HB4.out.mono HBEL.out.size)⟩
    have d8 : decide (rl ≤ 8) = true := by simpa using h8
    by_cases h9 : 8 < il
    · have hv := hide (HFA.out (by rw [HOB.out]; have : decide (il ≤ 8) = false := by simpa using h9
                                   rw [this, d8]; rfl))
      clear d8
      go_wp2
      go_ret
      exact ⟨ret_bool hv.out.symm, HBEL.out.trans (HB4.out.mono HBEL.out.size)⟩
    have d9 : decide (il ≤ 8) = true := by simpa using h9
    rw [d8, d9] at HOB
    clear d8 d9
    have HCC := hide (fun (W : World) (hW : Below w4.heap.size w4 W) => HIR.out W (HB4.out.trans (hW.mono HB4.out.size)))
    go_wp2
    go_loopw [5] (fun i wr => ∃ k2 : Nat, k2 ≤ rl ∧ i = .int .i64 k2 ∧ Below w4.heap.size w4 wr ∧ Hid ((o.refs.take k2).all (rfB n) = true)) (fun i _ => rl - (intOf i).toNat)
    case atStart => exact ⟨0, Nat.zero_le _, rfl, Below.refl _ _, hide (by simp)⟩
    case round =>
      obtain ⟨k2, hk2, rfl, hb', hno2⟩ := hrel
      obtain ⟨wi, rfl⟩ : ∃ wi, wi = wr := ⟨_, rfl⟩
      have hszi := hb'.size
      have HBI := hide hb'
      clear c0 c1 xp
      obtain ⟨⟨c0, c1⟩, xp⟩ := HQ.out wi hb'
      clear hb'
      by_cases hlt2 : k2 < rl
      case neg =>
        have hv := hide (HTR.out (by rw [HOB.out, allB_end hno2.out HRL.out (by omega)]; rfl))
        go_wp2
        go_roundw
        case rel => exact ⟨k + 1, by omega, by go_num, HBW.out.trans ((HB4.out.trans (HBI.out.mono HB4.out.size)).mono hszo), hv⟩
        case measure => simp [intOf]; omega
      obtain ⟨y, hy⟩ : ∃ y, o.refs[k2]? = some y := ⟨_, List.getElem?_eq_getElem (by have := HRL.out; omega)⟩
      have HY := hide hy
      obtain ⟨br, or, hAr, hbr, z0, -⟩ := (HCC.out wi HBI.out).get hy
      subst hAr
      have hbs2 : br < wi.heap.size := by omega
      clear hy
      have hki2 : (0 : Int) ≤ (k2 : Int) := by omega
      have hkl2 : (k2 : Int) < (rl : Int) := by omega
      have hrf : rfB n y = (decide (0 ≤ y) && decide (y ≤ n)) := rfl
      by_cases y0 : y < 0
      · have hd1 : decide (y < 0) = true := decide_eq_true y0
        have hv := hide (HFA.out (by rw [HOB.out, allB_not HY.out (show rfB n y = false by rw [hrf]; simp; omega)]; rfl))
        clear hrf
        go_wp2_with fail
        go_quiet (fail)
        go_wp2
        go_ret
        exact ⟨ret_bool hv.out.symm, HBEL.out.trans (below_drewN (HB4.out.trans (HBI.out.mono HB4.out.size)) _ |>.mono HBEL.out.size)⟩
      have hd1 : decide (y < 0) = false := decide_eq_false y0
      by_cases y1 : y > n
      · have hd2 : decide (y > (n : Int)) = true := decide_eq_true y1
        have hv := hide (HFA.out (by rw [HOB.out, allB_not HY.out (show rfB n y = false by rw [hrf]; simp; omega)]; rfl))
        clear hrf
        go_wp2_with fail
        go_quiet (fail)
        go_wp2
        go_ret
        exact ⟨ret_bool hv.out.symm, HBEL.out.trans (below_drewN (HB4.out.trans (HBI.out.mono HB4.out.size)) _ |>.mono HBEL.out.size)⟩
      have hd2 : decide (y > (n : Int)) = false := decide_eq_false y1
      have hv := hide (allB_take hno2.out HY.out (show rfB n y = true by rw [hrf]; simp; omega))
      clear hrf
      go_wp2_with fail
      go_quiet (fail)
      go_wp2
      go_roundw
      case rel => exact ⟨k2 + 1, by omega, by go_num, below_drewN HBI.out _, hv⟩
      case measure => simp [intOf]; omega
set_option maxHeartbeats 2000000 in
set_option maxRecDepth 100000 in
theorem rat_any (vh : Value) (h : List ObjV) (obj : Int) (w : World) (B : Nat) (hB : B ≤ w.heap.size) (hh : ObjsV w (· < B) vh h) :
    Calls Try.prog 34 #[.agg #[vh], .int .i64 obj] w fun e w' => e = .returned (.int .i64 ((atN h obj : Nat) : Int)) ∧ Below w.heap.size w w' := by
  have HRR := hide (fun (W : World) (hW : Below w.heap.size w W) => rright_any vh h W B (by have := hW.size; omega) (hh.keep (up hW hB) (fun _ h => h)))
  obtain ⟨Ao, c, rfl, hc, hm⟩ := hh.open'
  obtain ⟨n, hn⟩ : ∃ n, h.length = n := ⟨_, rfl⟩
  obtain ⟨bR, hbR⟩ : ∃ bR, rightB h = bR := ⟨_, rfl⟩
  have hv : atN h obj = if bR = true then (if obj = 0 then 14 else if 1 ≤ obj ∧ obj ≤ n then 0 else 1) else 1 := by unfold atN; rw [hbR, hn]
  obtain ⟨V, hV⟩ : ∃ V, atN h obj = V := ⟨_, rfl⟩
  rw [hV]
  rw [hV] at hv
  have HV := hide hv
  rw [hbR] at HRR
  rw [hn] at HRR ⊢
  clear hh hn hv hbR hV
  go_enter Try.func34, Try.ntmps34
  go_upto_region 1 with (fail)
  obtain ⟨w1, hw1⟩ : ∃ w1, w1 = w.alloc (.cells #[.slice Ao n c] 24) := ⟨_, rfl⟩
  obtain ⟨h5, hh5⟩ : ∃ h5, w.heap.size = h5 := ⟨_, rfl⟩
  have HX0 := hide (show Box w1 (h5) #[.slice Ao n c] 24 by rw [hw1, ← hh5]; have t := Box.new w #[.slice Ao n c] 24; (try simp only [World.size_alloc] at t); exact t)
  have HB1 := hide (show Below w.heap.size w w1 by rw [hw1]; exact ((Below.refl _ _).alloc (Nat.le_refl _) _))
  have w1s := HB1.out.size
  have w1z := hide (show w1.heap.size = h5 + 1 by rw [hw1, ← hh5]; simp only [World.size_alloc])
  have HK0 := hide (fun (W : World) (hW : Below w1.heap.size w1 W) => ((HX0.out.below hW).cell 0 (v := .slice Ao n c) rfl).1)
  have lHX0 := HX0.out.lt
  have h5g : w.heap.size ≤ h5 := by omega
  rw [← hw1, hh5]
  clear hw1 hh5
  have p0 := HK0.out w1 (Below.refl _ _)
  cases bR
  · replace HV := hide (HV.out.trans (if_neg (by simp)))
    go_wp2_with (go_at_call 12; (with_reducible refine (HRR.out w1 HB1.out).mono ?_); rintro e w2 ⟨rfl, hb2⟩; have HB2 := hide (HB1.out.trans (hb2.mono HB1.out.size)); have p2 := HK0.out w2 hb2; have l2 := hb2.size; clear hb2 p0)
    go_ret
    exact ⟨by rw [HV.out]; rfl, HB2.out⟩
  replace HV := hide (HV.out.trans (if_pos rfl))
  by_cases h0 : obj = 0
  · replace HV := hide (HV.out.trans (if_pos h0))
    have hd1 : (obj == 0) = true := by simpa using h0
    go_wp2_with (go_at_call 12; (with_reducible refine (HRR.out w1 HB1.out).mono ?_); rintro e w2 ⟨rfl, hb2⟩; have HB2 := hide (HB1.out.trans (hb2.mono HB1.out.size)); have p2 := HK0.out w2 hb2; have l2 := hb2.size; clear hb2 p0)
    go_ret
    exact ⟨by rw [HV.out]; rfl, HB2.out⟩
  replace HV := hide (HV.out.trans (if_neg h0))
  have hd1 : (obj == 0) = false := by simpa using h0
  by_cases h1 : obj < 0
  · replace HV := hide (HV.out.trans (if_neg (by omega)))
    have hd2 : decide (obj < 0) = true := decide_eq_true h1
    go_wp2_with (go_at_call 12; (with_reducible refine (HRR.out w1 HB1.out).mono ?_); rintro e w2 ⟨rfl, hb2⟩; have HB2 := hide (HB1.out.trans (hb2.mono HB1.out.size)); have p2 := HK0.out w2 hb2; have l2 := hb2.size; clear hb2 p0)
    go_ret
    exact ⟨by rw [HV.out]; rfl, HB2.out⟩
  have hd2 : decide (obj < 0) = false := decide_eq_false h1
  by_cases h2 : obj > n
  · replace HV := hide (HV.out.trans (if_neg (by omega)))
    have hd3 : decide (obj > (n : Int)) = true := decide_eq_true h2
    go_wp2_with (go_at_call 12; (with_reducible refine (HRR.out w1 HB1.out).mono ?_); rintro e w2 ⟨rfl, hb2⟩; have HB2 := hide (HB1.out.trans (hb2.mono HB1.out.size)); have p2 := HK0.out w2 hb2; have l2 := hb2.size; clear hb2 p0)
    go_ret
    exact ⟨by rw [HV.out]; rfl, HB2.out⟩
  replace HV := hide (HV.out.trans (if_pos (by omega)))
  have hd3 : decide (obj > (n : Int)) = false := decide_eq_false h2
  go_wp2_with (go_at_call 12; (with_reducible refine (HRR.out w1 HB1.out).mono ?_); rintro e w2 ⟨rfl, hb2⟩; have HB2 := hide (HB1.out.trans (hb2.mono HB1.out.size)); have p2 := HK0.out w2 hb2; have l2 := hb2.size; clear hb2 p0)
  go_ret
  exact ⟨by rw [HV.out]; rfl, HB2.out⟩
set_option maxHeartbeats 2000000 in
set_option maxRecDepth 100000 in
theorem rload_any (vh : Value) (h : List ObjV) (obj n : Int) (w : World) (B : Nat) (hB : B ≤ w.heap.size) (hh : ObjsV w (· < B) vh h) (hmx : h.length ≤ 1000000) :
    Calls Try.prog 21 #[.agg #[vh], .int .i64 obj, .int .i64 n] w fun e w' => e = .returned (.tuple #[.int .i64 (loadR h obj n).1, .int .i64 (((loadR h obj n).2 : Nat) : Int)]) ∧ Below w.heap.size w w' := by
  have HAT := hide (fun (W : World) (hW : Below w.heap.size w W) => rat_any vh h obj W B (by have := hW.size; omega) (hh.keep (up hW hB) (fun _ h => h)))
  have HHK := hide (fun (W : World) (hW : Below w.heap.size w W) => hh.keep (up hW hB) (fun _ h => h))
  obtain ⟨Ao, c, rfl, hc, hm⟩ := hh.open'
  by_cases ha : atN h obj = 0
  case neg =>
    have hv : loadR h obj n = (0, atN h obj) := by unfold loadR; rw [if_neg ha]
    rw [hv]
    have hE : (((atN h obj : Nat) : Int) != 0) = true := by simpa using ha
    generalize h.length = hl at *
    generalize ((atN h obj : Nat) : Int) = E at *
    clear hh ha hv
    go_enter Try.func21, Try.ntmps21
    go_upto_region 1 with (fail)
    obtain ⟨w1, hw1⟩ : ∃ w1, w1 = w.alloc (.cells #[.slice Ao hl c] 24) := ⟨_, rfl⟩
    obtain ⟨h5, hh5⟩ : ∃ h5, w.heap.size = h5 := ⟨_, rfl⟩
    have HX0 := hide (show Box w1 (h5) #[.slice Ao hl c] 24 by rw [hw1, ← hh5]; have t := Box.new w #[.slice Ao hl c] 24; (try simp only [World.size_alloc] at t); exact t)
    have HB1 := hide (show Below w.heap.size w w1 by rw [hw1]; exact ((Below.refl _ _).alloc (Nat.le_refl _) _))
    have w1s := HB1.out.size
    have w1z := hide (show w1.heap.size = h5 + 1 by rw [hw1, ← hh5]; simp only [World.size_alloc])
    have HK0 := hide (fun (W : World) (hW : Below w1.heap.size w1 W) => ((HX0.out.below hW).cell 0 (v := .slice Ao hl c) rfl).1)
    have lHX0 := HX0.out.lt
    have h5g : w.heap.size ≤ h5 := by omega
    rw [← hw1, hh5]
    clear hw1 hh5
    have p0 := HK0.out w1 (Below.refl _ _)
    go_wp2_with (go_at_call 34; (with_reducible refine (HAT.out w1 HB1.out).mono ?_); rintro e w2 ⟨rfl, hb2⟩; have HB2 := hide (HB1.out.trans (hb2.mono HB1.out.size)); have p2 := HK0.out w2 hb2; have l2 := hb2.size; have HC2 := hide hb2; clear hb2 p0)
    go_ret2
    exact ⟨rfl, HB2.out⟩
  have hv : loadR h obj n = fldR (objO h obj).ints n := by unfold loadR; rw [if_pos ha]
  rw [hv]
  clear hv
  rw [ha] at HAT
  obtain ⟨hr, h1, h2⟩ := atN_zero.1 ha
  obtain ⟨k, rfl⟩ : ∃ k : Nat, obj = (k : Int) + 1 := ⟨(obj - 1).toNat, by omega⟩
  have hget := objO_get h1 h2
  rw [show ((k : Int) + 1 - 1).toNat = k by omega] at hget
  have HGT := hide hget
  generalize objO h ((k : Int) + 1) = o at *
  obtain ⟨V, hV⟩ : ∃ V, fldR o.ints n = V := ⟨_, rfl⟩
  rw [hV]
  have HV := hide hV
  clear hV
  obtain ⟨hl, hhl⟩ : ∃ hl, h.length = hl := ⟨_, rfl⟩
  have hkl0 : k < hl := by omega
  rw [hhl] at HAT HHK ⊢
  have hlm : hl ≤ 1000000 := by omega
  obtain ⟨fl, hfl⟩ : ∃ fl, o.ints.length = fl := ⟨_, rfl⟩
  have HFL := hide hfl
  clear hh ha hr h1 h2 hget hhl hfl hmx
  go_enter Try.func21, Try.ntmps21
  go_upto_region 1 with (fail)
  obtain ⟨w1, hw1⟩ : ∃ w1, w1 = w.alloc (.cells #[.slice Ao hl c] 24) := ⟨_, rfl⟩
  obtain ⟨h5, hh5⟩ : ∃ h5, w.heap.size = h5 := ⟨_, rfl⟩
  have HX0 := hide (show Box w1 (h5) #[.slice Ao hl c] 24 by rw [hw1, ← hh5]; have t := Box.new w #[.slice Ao hl c] 24; (try simp only [World.size_alloc] at t); exact t)
  have HB1 := hide (show Below w.heap.size w w1 by rw [hw1]; exact ((Below.refl _ _).alloc (Nat.le_refl _) _))
  have w1s := HB1.out.size
  have w1z := hide (show w1.heap.size = h5 + 1 by rw [hw1, ← hh5]; simp only [World.size_alloc])
  have HK0 := hide (fun (W : World) (hW : Below w1.heap.size w1 W) => ((HX0.out.below hW).cell 0 (v := .slice Ao hl c) rfl).1)
  have lHX0 := HX0.out.lt
  have h5g : w.heap.size ≤ h5 := by omega
  rw [← hw1, hh5]
  clear hw1 hh5
  have p0 := HK0.out w1 (Below.refl _ _)
  go_upto_region 2 with (go_at_call 34; (with_reducible refine (HAT.out w1 HB1.out).mono ?_); rintro e w2 ⟨rfl, hb2⟩; have HB2 := hide (HB1.out.trans (hb2.mono HB1.out.size)); have p2 := HK0.out w2 hb2; have l2 := hb2.size; have HC2 := hide hb2; clear hb2 p0)
  obtain ⟨bg, og, Ar, cr, Ai, ci, hAo, hbgb, ⟨e0, e1⟩, hi⟩ := (HHK.out w2 HB2.out).get HGT.out
  subst hAo
  have hbs : bg < w2.heap.size := by have := HB2.out.size; omega
  have hki : (0 : Int) ≤ (k : Int) := by omega
  have hkl : (k : Int) < (hl : Int) := by omega
  have ez : IntKind.i64.wrap ((k : Int) + 1 - 1) = (k : Int) := by rw [show (k : Int) + 1 - 1 = (k : Int) by omega]; exact IntWalk.i64_in _ ⟨by omega, by omega⟩
  have HI2 := hide hi.2
  clear hi
  rw [HFL.out] at e1
  by_cases n0 : n < 0
  · have hv : fldR o.ints n = (0, 15) := by unfold fldR; rw [if_neg (by omega)]
    replace HV := hide (HV.out.symm.trans hv)
    clear hv
    have hd1 : decide (n < 0) = true := decide_eq_true n0
    go_wp2
    go_ret2
    exact ⟨by rw [HV.out]; rfl, HB2.out⟩
  have hd1 : decide (n < 0) = false := decide_eq_false n0
  obtain ⟨j, rfl⟩ : ∃ j : Nat, n = (j : Int) := ⟨n.toNat, by omega⟩
  by_cases n1 : fl ≤ j
  · have hv : fldR o.ints (j : Int) = (0, 15) := by unfold fldR; rw [HFL.out, if_neg (by omega)]
    replace HV := hide (HV.out.symm.trans hv)
    clear hv
    have hd2 : decide ((j : Int) ≥ (fl : Int)) = true := by simp; omega
    go_wp2
    go_ret2
    exact ⟨by rw [HV.out]; rfl, HB2.out⟩
  have hd2 : decide ((j : Int) ≥ (fl : Int)) = false := by simp; omega
  obtain ⟨y, hy⟩ : ∃ y, o.ints[j]? = some y := ⟨_, List.getElem?_eq_getElem (by have := HFL.out; omega)⟩
  have hv : fldR o.ints (j : Int) = (y, 0) := by
    rw [fldR_val ⟨by omega, by rw [HFL.out]; omega⟩, Int.toNat_natCast, List.getD_eq_getElem?_getD, hy]
    rfl
  replace HV := hide (HV.out.symm.trans hv)
  obtain ⟨bf, of, hAf, hbf, z0, -⟩ := HI2.out.get hy
  subst hAf
  have hbf2 : bf < w2.heap.size := by have := HB2.out.size; omega
  have hji : (0 : Int) ≤ (j : Int) := by omega
  have hjl : (j : Int) < (fl : Int) := by omega
  clear hy hv
  go_wp2
  go_ret2
  exact ⟨by rw [HV.out]; rfl, HB2.out⟩
set_option maxHeartbeats 2000000 in
set_option maxRecDepth 100000 in
theorem rref_any (vh : Value) (h : List ObjV) (obj n : Int) (w : World) (B : Nat) (hB : B ≤ w.heap.size) (hh : ObjsV w (· < B) vh h) (hmx : h.length ≤ 1000000) :
    Calls Try.prog 23 #[.agg #[vh], .int .i64 obj, .int .i64 n] w fun e w' => e = .returned (.tuple #[.int .i64 (refR h obj n).1, .int .i64 (((refR h obj n).2 : Nat) : Int)]) ∧ Below w.heap.size w w' := by
  have HAT := hide (fun (W : World) (hW : Below w.heap.size w W) => rat_any vh h obj W B (by have := hW.size; omega) (hh.keep (up hW hB) (fun _ h => h)))
  have HHK := hide (fun (W : World) (hW : Below w.heap.size w W) => hh.keep (up hW hB) (fun _ h => h))
  obtain ⟨Ao, c, rfl, hc, hm⟩ := hh.open'
  by_cases ha : atN h obj = 0
  case neg =>
    have hv : refR h obj n = (0, atN h obj) := by unfold refR; rw [if_neg ha]
    rw [hv]
    have hE : (((atN h obj : Nat) : Int) != 0) = true := by simpa using ha
    generalize h.length = hl at *
    generalize ((atN h obj : Nat) : Int) = E at *
    clear hh ha hv
    go_enter Try.func23, Try.ntmps23
    go_upto_region 1 with (fail)
    obtain ⟨w1, hw1⟩ : ∃ w1, w1 = w.alloc (.cells #[.slice Ao hl c] 24) := ⟨_, rfl⟩
    obtain ⟨h5, hh5⟩ : ∃ h5, w.heap.size = h5 := ⟨_, rfl⟩
    have HX0 := hide (show Box w1 (h5) #[.slice Ao hl c] 24 by rw [hw1, ← hh5]; have t := Box.new w #[.slice Ao hl c] 24; (try simp only [World.size_alloc] at t); exact t)
    have HB1 := hide (show Below w.heap.size w w1 by rw [hw1]; exact ((Below.refl _ _).alloc (Nat.le_refl _) _))
    have w1s := HB1.out.size
    have w1z := hide (show w1.heap.size = h5 + 1 by rw [hw1, ← hh5]; simp only [World.size_alloc])
    have HK0 := hide (fun (W : World) (hW : Below w1.heap.size w1 W) => ((HX0.out.below hW).cell 0 (v := .slice Ao hl c) rfl).1)
    have lHX0 := HX0.out.lt
    have h5g : w.heap.size ≤ h5 := by omega
    rw [← hw1, hh5]
    clear hw1 hh5
    have p0 := HK0.out w1 (Below.refl _ _)
    go_wp2_with (go_at_call 34; (with_reducible refine (HAT.out w1 HB1.out).mono ?_); rintro e w2 ⟨rfl, hb2⟩; have HB2 := hide (HB1.out.trans (hb2.mono HB1.out.size)); have p2 := HK0.out w2 hb2; have l2 := hb2.size; have HC2 := hide hb2; clear hb2 p0)
    go_ret2
    exact ⟨rfl, HB2.out⟩
  have hv : refR h obj n = fldR (objO h obj).refs n := by unfold refR; rw [if_pos ha]
  rw [hv]
  clear hv
  rw [ha] at HAT
  obtain ⟨hr, h1, h2⟩ := atN_zero.1 ha
  obtain ⟨k, rfl⟩ : ∃ k : Nat, obj = (k : Int) + 1 := ⟨(obj - 1).toNat, by omega⟩
  have hget := objO_get h1 h2
  rw [show ((k : Int) + 1 - 1).toNat = k by omega] at hget
  have HGT := hide hget
  generalize objO h ((k : Int) + 1) = o at *
  obtain ⟨V, hV⟩ : ∃ V, fldR o.refs n = V := ⟨_, rfl⟩
  rw [hV]
  have HV := hide hV
  clear hV
  obtain ⟨hl, hhl⟩ : ∃ hl, h.length = hl := ⟨_, rfl⟩
  have hkl0 : k < hl := by omega
  rw [hhl] at HAT HHK ⊢
  have hlm : hl ≤ 1000000 := by omega
  obtain ⟨fl, hfl⟩ : ∃ fl, o.refs.length = fl := ⟨_, rfl⟩
  have HFL := hide hfl
  clear hh ha hr h1 h2 hget hhl hfl hmx
  go_enter Try.func23, Try.ntmps23
  go_upto_region 1 with (fail)
  obtain ⟨w1, hw1⟩ : ∃ w1, w1 = w.alloc (.cells #[.slice Ao hl c] 24) := ⟨_, rfl⟩
  obtain ⟨h5, hh5⟩ : ∃ h5, w.heap.size = h5 := ⟨_, rfl⟩
  have HX0 := hide (show Box w1 (h5) #[.slice Ao hl c] 24 by rw [hw1, ← hh5]; have t := Box.new w #[.slice Ao hl c] 24; (try simp only [World.size_alloc] at t); exact t)
  have HB1 := hide (show Below w.heap.size w w1 by rw [hw1]; exact ((Below.refl _ _).alloc (Nat.le_refl _) _))
  have w1s := HB1.out.size
  have w1z := hide (show w1.heap.size = h5 + 1 by rw [hw1, ← hh5]; simp only [World.size_alloc])
  have HK0 := hide (fun (W : World) (hW : Below w1.heap.size w1 W) => ((HX0.out.below hW).cell 0 (v := .slice Ao hl c) rfl).1)
  have lHX0 := HX0.out.lt
  have h5g : w.heap.size ≤ h5 := by omega
  rw [← hw1, hh5]
  clear hw1 hh5
  have p0 := HK0.out w1 (Below.refl _ _)
  go_upto_region 2 with (go_at_call 34; (with_reducible refine (HAT.out w1 HB1.out).mono ?_); rintro e w2 ⟨rfl, hb2⟩; have HB2 := hide (HB1.out.trans (hb2.mono HB1.out.size)); have p2 := HK0.out w2 hb2; have l2 := hb2.size; have HC2 := hide hb2; clear hb2 p0)
  obtain ⟨bg, og, Ar, cr, Ai, ci, hAo, hbgb, ⟨e0, e1⟩, hi⟩ := (HHK.out w2 HB2.out).get HGT.out
  subst hAo
  have hbs : bg < w2.heap.size := by have := HB2.out.size; omega
  have hki : (0 : Int) ≤ (k : Int) := by omega
  have hkl : (k : Int) < (hl : Int) := by omega
  have ez : IntKind.i64.wrap ((k : Int) + 1 - 1) = (k : Int) := by rw [show (k : Int) + 1 - 1 = (k : Int) by omega]; exact IntWalk.i64_in _ ⟨by omega, by omega⟩
  have HI2 := hide hi.1
  clear hi
  rw [HFL.out] at e0
  by_cases n0 : n < 0
  · have hv : fldR o.refs n = (0, 15) := by unfold fldR; rw [if_neg (by omega)]
    replace HV := hide (HV.out.symm.trans hv)
    clear hv
    have hd1 : decide (n < 0) = true := decide_eq_true n0
    go_wp2
    go_ret2
    exact ⟨by rw [HV.out]; rfl, HB2.out⟩
  have hd1 : decide (n < 0) = false := decide_eq_false n0
  obtain ⟨j, rfl⟩ : ∃ j : Nat, n = (j : Int) := ⟨n.toNat, by omega⟩
  by_cases n1 : fl ≤ j
  · have hv : fldR o.refs (j : Int) = (0, 15) := by unfold fldR; rw [HFL.out, if_neg (by omega)]
    replace HV := hide (HV.out.symm.trans hv)
    clear hv
    have hd2 : decide ((j : Int) ≥ (fl : Int)) = true := by simp; omega
    go_wp2
    go_ret2
    exact ⟨by rw [HV.out]; rfl, HB2.out⟩
  have hd2 : decide ((j : Int) ≥ (fl : Int)) = false := by simp; omega
  obtain ⟨y, hy⟩ : ∃ y, o.refs[j]? = some y := ⟨_, List.getElem?_eq_getElem (by have := HFL.out; omega)⟩
  have hv : fldR o.refs (j : Int) = (y, 0) := by
    rw [fldR_val ⟨by omega, by rw [HFL.out]; omega⟩, Int.toNat_natCast, List.getD_eq_getElem?_getD, hy]
    rfl
  replace HV := hide (HV.out.symm.trans hv)
  obtain ⟨bf, of, hAf, hbf, z0, -⟩ := HI2.out.get hy
  subst hAf
  have hbf2 : bf < w2.heap.size := by have := HB2.out.size; omega
  have hji : (0 : Int) ≤ (j : Int) := by omega
  have hjl : (j : Int) < (fl : Int) := by omega
  clear hy hv
  go_wp2
  go_ret2
  exact ⟨by rw [HV.out]; rfl, HB2.out⟩
end Go.Proofs.Ytjlndibeaklcdaa
