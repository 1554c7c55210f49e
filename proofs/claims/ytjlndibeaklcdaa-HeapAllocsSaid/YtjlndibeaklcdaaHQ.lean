/- Layer 9, the reference: Reach. Condition: the heap has at most 900 objects. -/
import Derived.Test.YtjlndibeaklcdaaHAt
import Derived.Test.YtjlndibeaklcdaaHK
set_option linter.unusedSimpArgs false
set_option linter.unusedVariables false
namespace Go.Proofs.Ytjlndibeaklcdaa
open Go.RowKit

theorem MB.setB {w : World} {bm : Nat} {m : List Bool} (h : MB w bm m) (y : Nat) (v : Bool) : MB (w.setCell ⟨bm, y, none⟩ (.bool v)) bm (m.set y v) := by
  have := Box.set h y (.bool v)
  unfold MB
  rw [List.map_set]
  simpa using this
def QA (w6 : World) (bm no : Nat) (roots : List Int) (i : Nat) (wr : World) : Prop := MB wr bm (rootM no roots i) ∧ Below bm w6 wr
def QT (w6 : World) (bm : Nat) (h : List ObjV) (roots : List Int) (t : Nat) (wr : World) : Prop := ∃ m, MB wr bm m ∧ Below bm w6 wr ∧ TI h roots t m
def QJ (w6 : World) (bm : Nat) (h : List ObjV) (roots : List Int) (m0 : List Bool) (i : Nat) (wr : World) : Prop := ∃ m, MB wr bm m ∧ Below bm w6 wr ∧ TJ h roots m0 i m
def QK (w6 : World) (bm : Nat) (h : List ObjV) (roots : List Int) (m0 : List Bool) (i k : Nat) (wr : World) : Prop := ∃ m, MB wr bm m ∧ Below bm w6 wr ∧ TK h roots m0 i k m
set_option maxHeartbeats 4000000 in
set_option maxRecDepth 100000 in
theorem rreachH_any (vh vr : Value) (h : List ObjV) (roots : List Int) (w : World) (B : Nat) (hB : B ≤ w.heap.size) (hh : ObjsV w (· < B) vh h) (hx : IntsV w (· < B) vr roots) (hmx : h.length ≤ 900) :
    Calls Try.prog 15 #[.agg #[vh], vr] w fun e w' => ∃ v l, e = .returned v ∧ IsR h roots l ∧ Ow w' w.heap.size 3 .i64 v l ∧ Below w.heap.size w w' := by
  have HRT := hide (fun (W : World) (hW : Below w.heap.size w W) => rright_any vh h W B (by have := hW.size; omega) (hh.keep (up hW hB) (fun _ h => h)))
  have HHK := hide (fun (W : World) (hW : Below w.heap.size w W) => hh.keep (up hW hB) (fun _ h => h))
  have HXK := hide (fun (W : World) (hW : Below w.heap.size w W) => hx.keep (S' := (· < w.heap.size)) (up hW hB) (fun b hb => by omega))
  obtain ⟨i0, hi0, iz0, iz1, iz2⟩ := info_parts info_i64
  have HI := hide hi0
  obtain ⟨Ao, c, rfl, hc, hm⟩ := hh.open'
  obtain ⟨Ar, cr, rfl, hcr, hmr⟩ := hx.open'
  obtain ⟨no, hno⟩ : ∃ no, h.length = no := ⟨_, rfl⟩
  obtain ⟨nr, hnr⟩ : ∃ nr, roots.length = nr := ⟨_, rfl⟩
  have HNO := hide hno
  have HNR := hide hnr
  have hmake : ∀ W : World, (Instr.makeSlice 48 (.int .i64 ((no : Int) + 1)) (.int .i64 ((no : Int) + 1))).run Try.prog W = .ok (.slice (some ⟨W.heap.size, 0, none⟩) (no + 1) (no + 1)) (W.alloc (.cells (madeCells (Value.bool false).cells ((no + 1) * 1)) 4)) := fun W => by
    have t := mk_run 48 4 Try.underlying48 info_bool (by omega) (no + 1) (by omega) W
    rwa [show ((no + 1 : Nat) : Int) = (no : Int) + 1 by omega] at t
  obtain ⟨mc, hmc⟩ : ∃ mc, madeCells (Value.bool false).cells ((no + 1) * 1) = mc := ⟨_, rfl⟩
  rw [hmc] at hmake
  have HMC := hide (show mc = ((rootM no roots 0).map Value.bool).toArray by rw [← hmc, rootM_zero]; exact madeCells_bool _)
  rw [hno] at HRT HHK hc hmx
  rw [hnr] at HXK hcr
  rw [hno, hnr]
  have HOUT := hide (fun (hr : rightB h = true) (m : List Bool) (hm : TI h roots no m) => (show IsR h roots (outM m (no + 1)) by
    have t := outM_is hr (ti_end hr hm (by rw [hno]; exact Nat.le_refl _))
    rwa [hno] at t))
  have HNI := hide (fun hr : rightB h = false => IsR.no (roots := roots) hr)
  have HRGT := hide (fun (hr : rightB h = true) (o : ObjV) (ho : o ∈ h) => And.intro (rightB_iff.1 hr o ho).1 (rightB_iff.1 hr o ho).2.2)
  generalize rightB h = rb at *
  clear hh hx hno hnr hmc hi0
  cases rb
  · have HN := hide (HNI.out rfl)
    clear HOUT HNI hmake HRGT
    go_enter Try.func15, Try.ntmps15
    go_upto_region 1 with (fail)
    obtain ⟨w1, hw1⟩ : ∃ w1, w1 = w.alloc (.cells #[.slice Ao no c] 24) := ⟨_, rfl⟩
    obtain ⟨h5, hh5⟩ : ∃ h5, w.heap.size = h5 := ⟨_, rfl⟩
    have HX0 := hide (show Box w1 (h5) #[.slice Ao no c] 24 by rw [hw1, ← hh5]; have t := Box.new w #[.slice Ao no c] 24; (try simp only [World.size_alloc] at t); exact t)
    have HB1 := hide (show Below w.heap.size w w1 by rw [hw1]; exact ((Below.refl _ _).alloc (Nat.le_refl _) _))
    have w1s := HB1.out.size
    have w1z := hide (show w1.heap.size = h5 + 1 by rw [hw1, ← hh5]; simp only [World.size_alloc])
    have HK0 := hide (fun (W : World) (hW : Below w1.heap.size w1 W) => ((HX0.out.below hW).cell 0 (v := .slice Ao no c) rfl).1)
    have lHX0 := HX0.out.lt
    have h5g : w.heap.size ≤ h5 := by omega
    rw [← hw1, hh5]
    clear hw1 hh5
    have p0 := HK0.out w1 (Below.refl _ _)
    go_wp2_with (go_at_call 12; (with_reducible refine (HRT.out w1 HB1.out).mono ?_); rintro e w2 ⟨rfl, hb2⟩; have HB2 := hide (HB1.out.trans (hb2.mono HB1.out.size)); clear hb2)
    go_ret
    exact ⟨_, [], rfl, HN.out, Ow.nil _ _ _ _, HB2.out⟩
  have HOUT2 := hide (fun m hm => HOUT.out (by first | rfl | trivial) m hm)
  have HRG2 := hide (fun o ho => HRGT.out (by first | rfl | trivial) o ho)
  clear HNI HOUT HRGT
  go_enter Try.func15, Try.ntmps15
  go_upto_region 1 with (fail)
  obtain ⟨w1, hw1⟩ : ∃ w1, w1 = w.alloc (.cells #[.slice Ao no c] 24) := ⟨_, rfl⟩
  obtain ⟨h5, hh5⟩ : ∃ h5, w.heap.size = h5 := ⟨_, rfl⟩
  have HX0 := hide (show Box w1 (h5) #[.slice Ao no c] 24 by rw [hw1, ← hh5]; have t := Box.new w #[.slice Ao no c] 24; (try simp only [World.size_alloc] at t); exact t)
  have HB1 := hide (show Below w.heap.size w w1 by rw [hw1]; exact ((Below.refl _ _).alloc (Nat.le_refl _) _))
  have w1s := HB1.out.size
  have w1z := hide (show w1.heap.size = h5 + 1 by rw [hw1, ← hh5]; simp only [World.size_alloc])
  have HK0 := hide (fun (W : World) (hW : Below w1.heap.size w1 W) => ((HX0.out.below hW).cell 0 (v := .slice Ao no c) rfl).1)
  have lHX0 := HX0.out.lt
  have h5g : w.heap.size ≤ h5 := by omega
  rw [← hw1, hh5]
  clear hw1 hh5
  have p0 := HK0.out w1 (Below.refl _ _)
  have hadd : IntKind.i64.wrap ((no : Int) + 1) = (no : Int) + 1 := IntWalk.i64_in _ ⟨by omega, by omega⟩
  go_upto_region 3 with (go_at_call 12; (with_reducible refine (HRT.out w1 HB1.out).mono ?_); rintro e w2 ⟨rfl, hb2⟩; have HB2 := hide (HB1.out.trans (hb2.mono HB1.out.size)); have HC2 := hide hb2; have p2 := HK0.out w2 hb2; have l2 := hb2.size; clear hb2 p0)
  go_upto_region 4 with (fail)
  obtain ⟨bm, hbm⟩ : ∃ bm, w2.heap.size = bm := ⟨_, rfl⟩
  obtain ⟨w6, hw6⟩ : ∃ w6, w6 = w2.alloc (.cells mc 4) := ⟨_, rfl⟩
  have HM6 := hide (show MB w6 bm (rootM no roots 0) by unfold MB; rw [hw6, ← hbm, ← HMC.out]; exact Box.new w2 mc 4)
  have HB6 := hide (show Below w.heap.size w w6 by rw [hw6]; exact HB2.out.alloc HB2.out.size _)
  have HX6 := hide (show Box w6 h5 #[.slice Ao no c] 24 by rw [hw6]; exact (HX0.out.below HC2.out).alloc _)
  have hs6 : w6.heap.size = bm + 1 := by rw [hw6, World.size_alloc, hbm]
  have hwbm : w.heap.size ≤ bm := by rw [← hbm]; exact HB2.out.size
  have h5bm : h5 < bm := by omega
  rw [← hw6, hbm]
  clear hw6 hbm p2 hmake HMC hadd
  have HUP := hide (fun (W : World) (hW : Below bm w6 W) => HB6.out.trans (hW.mono hwbm))
  have HCH := hide (fun (W : World) (hW : Below bm w6 W) => ((HX6.out.belowB hW h5bm).cell 0 (v := .slice Ao no c) rfl).1)
  have HLW := hide (fun (W : World) (hW : Below bm w6 W) => (show bm < W.heap.size by have := hW.size; omega))
  go_wp2
  go_loopw [6] (fun i wr => ∃ k : Nat, k ≤ nr ∧ i = .int .i64 k ∧ Hid (QA w6 bm no roots k wr)) (fun i _ => nr - (intOf i).toNat)
  case atStart => exact ⟨0, Nat.zero_le _, rfl, hide ⟨HM6.out, Below.refl _ _⟩⟩
  case round =>
    obtain ⟨k, hk, rfl, hq⟩ := hrel
    obtain ⟨hma, hba⟩ := hq.out
    obtain ⟨wa, rfl⟩ : ∃ wa, wa = wr := ⟨_, rfl⟩
    have lba := HLW.out wa hba
    have hra := rootM_len no roots k
    by_cases hlt : k < nr
    case pos =>
      obtain ⟨y, hy⟩ : ∃ y, roots[k]? = some y := ⟨_, List.getElem?_eq_getElem (by have := HNR.out; omega)⟩
      obtain ⟨br, or, hAr, hbr, cy, -⟩ := (HXK.out wa (HUP.out wa hba)).get hy
      subst hAr
      have hbr2 : br < wa.heap.size := by omega
      have hki : (0 : Int) ≤ (k : Int) := by omega
      have hkl : (k : Int) < (nr : Int) := by omega
      by_cases y0 : 0 ≤ y
      case neg =>
        have hd1 : decide (y ≥ 0) = false := decide_eq_false y0
        have HNX := hide (show QA w6 bm no roots (k + 1) wa from ⟨by rw [rootM_no hy (.inl (by omega))]; exact hma, hba⟩)
        clear hq hma hba hy hra
        go_wp2
        go_roundw
        case rel => exact ⟨k + 1, by omega, by go_num, HNX⟩
        case measure => simp [intOf]; omega
      have hd1 : decide (y ≥ 0) = true := decide_eq_true y0
      by_cases y1 : y < (no : Int) + 1
      case neg =>
        have hd2 : decide (y < (no : Int) + 1) = false := decide_eq_false y1
        have HNX := hide (show QA w6 bm no roots (k + 1) wa from ⟨by rw [rootM_no hy (.inr (by omega))]; exact hma, hba⟩)
        clear hq hma hba hy hra
        go_wp2
        go_roundw
        case rel => exact ⟨k + 1, by omega, by go_num, HNX⟩
        case measure => simp [intOf]; omega
      have hd2 : decide (y < (no : Int) + 1) = true := decide_eq_true y1
      obtain ⟨yn, rfl⟩ : ∃ yn : Nat, y = yn := ⟨y.toNat, by omega⟩
      have hyn : yn < no + 1 := by omega
      obtain ⟨my, fy⟩ := hma.cell (b := yn) (by rw [hra]; exact hyn)
      have HNX := hide (show QA w6 bm no roots (k + 1) (wa.setCell ⟨bm, yn, none⟩ (.bool true)) from ⟨by rw [rootM_yes hy hyn]; exact hma.set yn, hba.setCell (Nat.le_refl _) _⟩)
      have j3 : (yn : Int) < ((no + 1 : Nat) : Int) := by omega
      clear hq hma hba hy hra
      go_wp2
      go_roundw
      case rel => exact ⟨k + 1, by omega, by go_num, HNX⟩
      case measure => simp [intOf]; omega
    have HRM := hide (rootM_rm (h := h) (roots := roots) (i := k) (by have := HNR.out; omega))
    rw [HNO.out] at HRM
    obtain ⟨m0z, f0z⟩ := hma.cell (b := 0) (by rw [hra]; omega)
    have HT0 := hide (show QT w6 bm h roots 0 (wa.setCell ⟨bm, 0, none⟩ (.bool false)) from ⟨_, hma.setB 0 false, hba.setCell (Nat.le_refl _) _, ti_start HRM.out⟩)
    clear hq hma hba hra
    go_wp2
    go_loopw [7] (fun i wr => ∃ t : Nat, t ≤ no ∧ i = .int .i64 t ∧ Hid (QT w6 bm h roots t wr)) (fun i _ => no - (intOf i).toNat)
    case atStart => exact ⟨0, Nat.zero_le _, rfl, HT0⟩
    case round =>
      obtain ⟨t, ht, rfl, hq⟩ := hrel
      obtain ⟨m0, hm0, hb0, hI⟩ := hq.out
      obtain ⟨wo, rfl⟩ : ∃ wo, wo = wr := ⟨_, rfl⟩
      have ch := HCH.out wo hb0
      have lwo := HLW.out wo hb0
      by_cases hlt : t < no
      case neg =>
        obtain rfl : t = no := by omega
        have HIS := hide (HOUT2.out m0 hI)
        have HML := hide (show m0.length = t + 1 by have := hI.1.len; have := HNO.out; omega)
        have HME := hide hm0
        have HB0 := hide hb0
        clear hq hm0 hb0 hI
        go_wp2
        go_loopw [10, 11] (fun l i wr => ∃ (v : Value) (k : Nat), v = l ∧ 1 ≤ k ∧ k ≤ t + 1 ∧ i = .int .i64 (k : Int) ∧ Below wo.heap.size wo wr ∧ Hid (Ow wr wo.heap.size 3 .i64 v (outM m0 k))) (fun _ i _ => t + 1 - (intOf i).toNat)
        case atStart => exact ⟨_, 1, rfl, Nat.le_refl _, by omega, rfl, Below.refl _ _, hide (by rw [outM_one]; exact Ow.nil _ _ _ _)⟩
        case round =>
          obtain ⟨v, k, rfl, hk1, hk, rfl, hb, how⟩ := hrel
          obtain ⟨we, rfl⟩ : ∃ we, we = wr := ⟨_, rfl⟩
          have hsz := hb.size
          have HBW := hide hb
          clear hb
          by_cases hlk : k < t + 1
          case neg =>
            obtain rfl : k = t + 1 := by omega
            have hd1 : decide (((t + 1 : Nat) : Int) < (t : Int) + 1) = false := by simp
            have HO := hide (show Ow we w.heap.size 3 .i64 v (outM m0 (t + 1)) from how.out.lower (by have := (HUP.out wo HB0.out).size; omega))
            have HBE := hide ((HUP.out wo HB0.out).trans (HBW.out.mono (HUP.out wo HB0.out).size))
            go_wp2
            go_ret
            exact ⟨_, _, rfl, HIS.out, HO.out, HBE.out⟩
          have hd1 : decide ((k : Int) < (t : Int) + 1) = true := by simp; omega
          have hki : (0 : Int) ≤ (k : Int) := by omega
          have hkl : (k : Int) < ((t + 1 : Nat) : Int) := by omega
          have hmo : MB we bm m0 := Box.below HME.out HBW.out
          obtain ⟨mcc, -⟩ := hmo.cell (b := k) (by have := HML.out; omega)
          have lbm : bm < we.heap.size := Box.lt hmo
          have HRO := hide (show (outM m0 k).length < 1099511627776 by have := outM_len m0 k; omega)
          clear hmo
          cases hq : metB m0 (k : Int) with
          | true =>
            have HST := hide (outM_yes hk1 hq)
            rw [hq] at mcc
            clear hq
            go_wp2_with (at_builtin; refine wpList_append_one we rfl (.tmp 111) (.tmp 113) _ rfl wo.heap.size 3 .i64 i0 _ 8 Try.underlying26 HI.out iz0 iz1 iz2 rfl (by omega) v (outM m0 k) (by rfl) how.out (k : Int) (by rfl) HRO.out hsz ?_; intro v5 w5 ho5 hb5)
            go_roundw
            case rel => exact ⟨v5, k + 1, rfl, by omega, by omega, by go_num, HBW.out.trans hb5, hide (by rw [HST.out]; exact ho5)⟩
            case measure => simp [intOf]; omega
          | false =>
            have HST := hide (outM_no hq)
            rw [hq] at mcc
            clear hq
            go_wp2
            go_roundw
            case rel => exact ⟨v, k + 1, rfl, by omega, by omega, by go_num, HBW.out, hide (by rw [HST.out]; exact how.out)⟩
            case measure => simp [intOf]; omega
      have HI0 := hide hI
      have HJ0 := hide (show QJ w6 bm h roots m0 0 wo from ⟨m0, hm0, hb0, tj_start hI.1⟩)
      clear hq hI hb0 hm0
      go_wp2
      go_loopw [8] (fun i wr => ∃ i' : Nat, i' ≤ no ∧ i = .int .i64 i' ∧ Hid (QJ w6 bm h roots m0 i' wr)) (fun i _ => no - (intOf i).toNat)
      case atStart => exact ⟨0, Nat.zero_le _, rfl, HJ0⟩
      case round =>
        obtain ⟨i, hi, rfl, hq⟩ := hrel
        obtain ⟨m, hm1, hb, hJ⟩ := hq.out
        obtain ⟨wi, rfl⟩ : ∃ wi, wi = wr := ⟨_, rfl⟩
        clear ch lwo
        have ch := HCH.out wi hb
        have lwi := HLW.out wi hb
        by_cases hli : i < no
        case neg =>
          have HT := hide (show QT w6 bm h roots (t + 1) wi from ⟨m, hm1, hb, tj_end HI0.out hJ (by have := HNO.out; omega)⟩)
          clear hq hJ hb hm1
          go_wp2
          go_roundw
          case rel => exact ⟨t + 1, by omega, by go_num, HT⟩
          case measure => simp [intOf]; omega
        have HK0 := hide (show QK w6 bm h roots m0 i 0 wi from ⟨m, hm1, hb, tk_start hJ⟩)
        obtain ⟨o, ho⟩ : ∃ o, h[i]? = some o := ⟨_, List.getElem?_eq_getElem (by have := HNO.out; omega)⟩
        have HOO := hide ho
        have HNXT := hide (nxH_some ho)
        have hr8 := (HRG2.out o (List.mem_of_getElem? ho)).1
        have HRNG := hide (HRG2.out o (List.mem_of_getElem? ho)).2
        rw [HNO.out] at HRNG
        have HGET := hide (fun (W : World) (hW : Below bm w6 W) => (HHK.out W (HUP.out W hW)).get HOO.out)
        obtain ⟨ln, hln⟩ : ∃ ln, o.refs.length = ln := ⟨_, rfl⟩
        have HLN := hide hln
        rw [hln] at HGET hr8
        clear hq hJ hb hm1 ho hln
        go_wp2
        go_loopw [9] (fun i' wr => ∃ k : Nat, k ≤ ln ∧ i' = .int .i64 k ∧ Hid (QK w6 bm h roots m0 i k wr)) (fun i' _ => ln - (intOf i').toNat)
        case atStart => exact ⟨0, Nat.zero_le _, rfl, HK0⟩
        case round =>
          obtain ⟨k, hk, rfl, hq⟩ := hrel
          obtain ⟨mk, hmk, hbk, hK⟩ := hq.out
          obtain ⟨wz, rfl⟩ : ∃ wz, wz = wr := ⟨_, rfl⟩
          clear ch lwi
          have ch := HCH.out wz hbk
          have lwz := HLW.out wz hbk
          have hml : mk.length = no + 1 := by have := hK.1.1.len; have := HNO.out; omega
          have HML := hide hml
          have mci := (hmk.cell (b := i + 1) (by omega)).1
          rw [show ((i + 1 : Nat) : Int) = (i : Int) + 1 by omega] at mci
          obtain ⟨bg, og, Arr, crr, Aii, cii, hAo, hbgb, ⟨e0, e1⟩, hii⟩ := HGET.out wz hbk
          subst hAo
          have hbs : bg < wz.heap.size := by have := (HUP.out wz hbk).size; omega
          have hi0 : (0 : Int) ≤ (i : Int) := by omega
          have hil : (i : Int) < (no : Int) := by omega
          have ez : IntKind.i64.wrap ((i : Int) + 1) = (i : Int) + 1 := IntWalk.i64_in _ ⟨by omega, by omega⟩
          have ez1 : (0 : Int) ≤ (i : Int) + 1 := by omega
          have ez2 : (i : Int) + 1 < ((no + 1 : Nat) : Int) := by omega
          have ez3 : ((i : Int) + 1).toNat = i + 1 := by omega
          have HII := hide hii.1
          clear hml hii e1
          by_cases hlk : k < ln
          case neg =>
            have hd1 : decide ((k : Int) < (ln : Int)) = false := by simp; omega
            have HEN := hide (show QJ w6 bm h roots m0 (i + 1) wz from ⟨mk, hmk, hbk, tk_end hK (.inl (by rw [HNXT.out]; have := HLN.out; omega))⟩)
            clear hq hmk hbk hK
            go_wp2
            go_roundw
            case rel => exact ⟨i + 1, by omega, by go_num, HEN⟩
            case measure => simp [intOf]; omega
          have hd1 : decide ((k : Int) < (ln : Int)) = true := by simp; omega
          by_cases hmi : metB mk ((i : Int) + 1) = true
          case neg =>
            have hmf := Bool.eq_false_iff.2 hmi
            rw [hmf] at mci
            have HEN := hide (show QJ w6 bm h roots m0 (i + 1) wz from ⟨mk, hmk, hbk, tk_end hK (.inr hmf)⟩)
            clear hq hmk hbk hK hmi hmf
            go_wp2
            go_roundw
            case rel => exact ⟨i + 1, by omega, by go_num, HEN⟩
            case measure => simp [intOf]; omega
          rw [hmi] at mci
          obtain ⟨y, hy⟩ : ∃ y, o.refs[k]? = some y := ⟨_, List.getElem?_eq_getElem (by have := HLN.out; omega)⟩
          obtain ⟨hy0, hyl⟩ := HRNG.out y (List.mem_of_getElem? hy)
          obtain ⟨bf, of, hAf, hbf, cy, -⟩ := HII.out.get hy
          subst hAf
          have hbf2 : bf < wz.heap.size := by have := (HUP.out wz hbk).size; omega
          have hk0 : (0 : Int) ≤ (k : Int) := by omega
          have hkl : (k : Int) < (ln : Int) := by omega
          by_cases yz : 0 < y
          case neg =>
            have hd2 : decide (y > 0) = false := decide_eq_false yz
            have HNX := hide (show QK w6 bm h roots m0 i (k + 1) wz from ⟨mk, hmk, hbk, tk_skip hK (by rw [HNXT.out]; exact hy) yz⟩)
            clear hq hmk hbk hK hy hmi
            go_wp2
            go_roundw
            case rel => exact ⟨k + 1, by omega, by go_num, HNX⟩
            case measure => simp [intOf]; omega
          have hd2 : decide (y > 0) = true := decide_eq_true yz
          obtain ⟨yn, rfl⟩ : ∃ yn : Nat, y = yn := ⟨y.toNat, by omega⟩
          obtain ⟨my, fy⟩ := hmk.cell (b := yn) (by have := HML.out; omega)
          have HNX := hide (show QK w6 bm h roots m0 i (k + 1) (wz.setCell ⟨bm, yn, none⟩ (.bool true)) from ⟨_, hmk.set yn, hbk.setCell (Nat.le_refl _) _, tk_step hK hmi (by rw [HNXT.out]; exact hy) (by omega) (by have := HNO.out; omega)⟩)
          have j3 : (yn : Int) < ((no + 1 : Nat) : Int) := by omega
          have j4 : (yn : Int) < (no : Int) + 1 := by omega
          clear hq hmk hbk hK hy hmi
          go_wp2
          go_roundw
          case rel => exact ⟨k + 1, by omega, by go_num, HNX⟩
          case measure => simp [intOf]; omega
end Go.Proofs.Ytjlndibeaklcdaa
