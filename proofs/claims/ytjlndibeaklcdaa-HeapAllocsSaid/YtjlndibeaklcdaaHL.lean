/- Layer 9, the reference: contracts of Great, Same, Right. Condition of Great: no slice is longer than any machine's memory. -/
import Derived.Test.YtjlndibeaklcdaaHK
import Derived.Test.YtjlndibeaklcdaaMR
set_option linter.unusedSimpArgs false
set_option linter.unusedVariables false
namespace Go.Proofs.Ytjlndibeaklcdaa
open Go.RowKit

/-- A heap that is looked at; what lies in memory at all. -/
def small9 (h : List ObjV) : Prop := h.length ≤ 300 ∧ ∀ o ∈ h, o.refs.length ≤ 300 ∧ o.ints.length ≤ 300
def size9 (h : List ObjV) : Prop := h.length ≤ 1152921504606846976 ∧ ∀ o ∈ h, o.refs.length ≤ 1152921504606846976 ∧ o.ints.length ≤ 1152921504606846976
def tot9 (h : List ObjV) (k : Nat) : Nat := h.length + ((h.take k).map (fun o => o.refs.length + o.ints.length)).sum
theorem tot9_zero (h : List ObjV) : tot9 h 0 = h.length := by simp [tot9]
theorem tot9_step {h : List ObjV} {k : Nat} {o : ObjV} (ho : h[k]? = some o) : tot9 h (k + 1) = tot9 h k + o.refs.length + o.ints.length := by
  unfold tot9
  rw [List.take_add_one, ho, List.map_append, List.sum_append]
  simp
  omega
theorem sum_mem9 : ∀ (l : List ObjV) (o : ObjV), o ∈ l → o.refs.length + o.ints.length ≤ (l.map (fun o => o.refs.length + o.ints.length)).sum
  | a :: l, o, h => by
    rw [List.map_cons, List.sum_cons]
    rcases List.mem_cons.1 h with rfl | h
    · omega
    · have := sum_mem9 l o h; omega
theorem small_of {h : List ObjV} {k : Nat} (hk : h.length ≤ k) (ht : tot9 h k ≤ 300) : small9 h := by
  unfold tot9 at ht
  rw [List.take_of_length_le hk] at ht
  refine ⟨by omega, fun o ho => ?_⟩
  have := sum_mem9 h o ho
  exact ⟨by omega, by omega⟩
set_option maxHeartbeats 2000000 in
set_option maxRecDepth 100000 in
theorem great9_any (vh : Value) (h : List ObjV) (w : World) (B : Nat) (hB : B ≤ w.heap.size) (hh : ObjsV w (· < B) vh h) (hsz : size9 h) :
    Calls Try.prog 6 #[.agg #[vh]] w fun e w' => ∃ b : Bool, e = .returned (.bool b) ∧ (b = false → small9 h) ∧ Below w.heap.size w w' := by
  have HK := hide (fun (W : World) (hW : Below w.heap.size w W) => hh.keep (up hW hB) (fun _ h => h))
  have HSZ := hide hsz
  have HT0 := hide (tot9_zero h)
  have HTS := hide (fun k o (ho : h[k]? = some o) => tot9_step ho)
  have HSM := hide (fun k (hk : h.length ≤ k) (ht : tot9 h k ≤ 300) => small_of hk ht)
  obtain ⟨Ao, c, rfl, hc, hm⟩ := hh.open'
  obtain ⟨n, hn⟩ : ∃ n, h.length = n := ⟨_, rfl⟩
  have HN := hide hn
  rw [hn] at HK hc HT0 HSM
  rw [hn]
  have hn2 : n ≤ 1152921504606846976 := by have := hsz.1; omega
  obtain ⟨tt, htt⟩ : ∃ tt : Nat → Nat, (fun k => tot9 h k) = tt := ⟨_, rfl⟩
  have htt' : ∀ k, tot9 h k = tt k := fun k => by rw [← htt]
  simp only [htt'] at HT0 HTS HSM
  clear hh hn hsz htt htt'
  go_enter Try.func6, Try.ntmps6
  go_upto_region 1 with (fail)
  obtain ⟨w1, hw1⟩ : ∃ w1, w1 = w.alloc (.cells #[.slice Ao n c] 24) := ⟨_, rfl⟩
  obtain ⟨h5, hh5⟩ : ∃ h5, w.heap.size = h5 := ⟨_, rfl⟩
  have HX0 := hide (show Box w1 (h5) #[.slice Ao n c] 24 by rw [hw1, ← hh5]; have t := Box.new w #[.slice Ao n c] 24; (try simp only [World.size_alloc] at t); exact t)
  have HB1 := hide (show Below w.heap.size w w1 by rw [hw1]; exact ((Below.refl _ _).alloc (Nat.le_refl _) _))
  have w1s := HB1.out.size
  have w1z := hide (show w1.heap.size = h5 + 1 by rw [hw1, ← hh5]; simp only [World.size_alloc])
  have HK0 := hide (fun (W : World) (hW : Below w1.heap.size w1 W) => ((HX0.out.below hW).cell 0 (v := .slice Ao n c) rfl).1)
  have lHX0 := HX0.out.lt
  have h5g : w.heap.size ≤ h5 := by omega
  rw [← hw1, hh5]
  clear hw1 hh5
  have p0 := HK0.out w1 (Below.refl _ _)
  go_wp2
  go_loopw [3, 4] (fun t i wr => ∃ k t' : Nat, k ≤ n ∧ i = .int .i64 k ∧ t = .int .i64 (t' : Int) ∧ Hid (t' = tt k) ∧ t' ≤ 2305843009213693952 + 300 ∧ Below w1.heap.size w1 wr) (fun _ i _ => n - (intOf i).toNat)
  case atStart => exact ⟨0, n, Nat.zero_le _, rfl, rfl, hide HT0.out.symm, by omega, Below.refl _ _⟩
  case round =>
    obtain ⟨k, t', hk, rfl, rfl, HTT, htl, hb⟩ := hrel
    obtain ⟨wo, rfl⟩ : ∃ wo, wo = wr := ⟨_, rfl⟩
    have hszo := hb.size
    have HBEL := hide (HB1.out.trans (hb.mono HB1.out.size))
    have HBW := hide hb
    have xp := HK0.out wo hb
    have lxp : h5 < wo.heap.size := by omega
    clear hb p0
    by_cases hlt : k < n
    case neg =>
      have HE := hide (fun ht : t' ≤ 300 => HSM.out k (by omega) (by rw [← HTT.out]; exact ht))
      have hd1 : decide ((k : Int) < (n : Int)) = false := by simp; omega
      by_cases h3 : 300 < t'
      · have hd2 : decide ((t' : Int) > 300) = true := by simp; omega
        go_wp2
        go_ret
        exact ⟨true, by first | rfl | (simp; done) | (simp; omega), (fun h => by cases h), HBEL.out⟩
      · have hd2 : decide ((t' : Int) > 300) = false := by simp; omega
        go_wp2
        go_ret
        exact ⟨false, by first | rfl | (simp; done) | (simp; omega), (fun _ => HE.out (by omega)), HBEL.out⟩
    have hd1 : decide ((k : Int) < (n : Int)) = true := by simp; omega
    by_cases h3 : 300 < t'
    · have hd2 : decide ((t' : Int) ≤ 300) = false := by simp; omega
      have hd3 : decide ((t' : Int) > 300) = true := by simp; omega
      go_wp2
      go_ret
      exact ⟨true, by first | rfl | (simp; done) | (simp; omega), (fun h => by cases h), HBEL.out⟩
    · have hd2 : decide ((t' : Int) ≤ 300) = true := by simp; omega
      obtain ⟨o, ho⟩ : ∃ o, h[k]? = some o := ⟨_, List.getElem?_eq_getElem (by have := HN.out; omega)⟩
      obtain ⟨bg, og, Ar, cr, Ai, ci, hAo, hbgb, ⟨e0, e1⟩, hi⟩ := (HK.out wo HBEL.out).get ho
      subst hAo
      have hbs : bg < wo.heap.size := by omega
      have hos := HSZ.out.2 o (List.mem_of_getElem? ho)
      have HST := hide (HTS.out k o ho)
      clear hi ho
      generalize o.refs.length = rl, o.ints.length = il at *
      have hki : (0 : Int) ≤ (k : Int) := by omega
      have hkl : (k : Int) < (n : Int) := by omega
      have ez1 : IntKind.i64.wrap ((t' : Int) + (rl : Int)) = (t' : Int) + (rl : Int) := IntWalk.i64_in _ ⟨by omega, by omega⟩
      have ez2 : IntKind.i64.wrap ((t' : Int) + (rl : Int) + (il : Int)) = (t' : Int) + (rl : Int) + (il : Int) := IntWalk.i64_in _ ⟨by omega, by omega⟩
      go_wp2_with fail
      go_quiet (fail)
      go_wp2
      go_roundw
      case rel => exact ⟨k + 1, t' + rl + il, by omega, by go_num, by simp, hide (by rw [HST.out, HTT.out]), by omega, below_drewN HBW.out _⟩
      case measure => simp [intOf]; omega
set_option maxHeartbeats 2000000 in
set_option maxRecDepth 100000 in
theorem same9_any (va vb : Value) (a b : List ObjV) (w : World) (B : Nat) (hB : B ≤ w.heap.size) (ha : ObjsV w (· < B) va a) (hb : ObjsV w (· < B) vb b) :
    Calls Try.prog 10 #[.agg #[va], .agg #[vb]] w fun e w' => e = .returned (.bool (decide (a = b))) ∧ Below w.heap.size w w' := by
  have HKA := hide (fun (W : World) (hW : Below w.heap.size w W) => ha.keep (up hW hB) (fun _ h => h))
  have HKB := hide (fun (W : World) (hW : Below w.heap.size w W) => hb.keep (up hW hB) (fun _ h => h))
  obtain ⟨Aa, ca, rfl, hca, hma⟩ := ha.open'
  obtain ⟨Ab, cb, rfl, hcb, hmb⟩ := hb.open'
  obtain ⟨n, hn⟩ : ∃ n, a.length = n := ⟨_, rfl⟩
  obtain ⟨m, hm⟩ : ∃ m, b.length = m := ⟨_, rfl⟩
  have HN := hide hn
  have HM := hide hm
  rw [hn] at HKA hca
  rw [hm] at HKB hcb
  rw [hn, hm]
  by_cases hnm : n = m
  case neg =>
    have hv := hide (show decide (a = b) = false by
      rw [decide_eq_false_iff_not]
      intro e
      rw [e] at hn
      omega)
    have hne : ((n : Int) != (m : Int)) = true := by simp; omega
    clear ha hb hn hm
    go_enter Try.func10, Try.ntmps10
    go_wp2
    go_ret
    exact ⟨ret_bool hv.out.symm, alloc2 w _ _⟩
  subst hnm
  clear ha hb hn hm
  go_enter Try.func10, Try.ntmps10
  go_upto_region 1 with (fail)
  obtain ⟨w1, hw1⟩ : ∃ w1, w1 = (w.alloc (.cells #[.slice Aa n ca] 24)).alloc (.cells #[.slice Ab n cb] 24) := ⟨_, rfl⟩
  obtain ⟨h5, hh5⟩ : ∃ h5, w.heap.size = h5 := ⟨_, rfl⟩
  have HX0 := hide (show Box w1 (h5) #[.slice Aa n ca] 24 by rw [hw1, ← hh5]; have t := Box.new w #[.slice Aa n ca] 24; (try simp only [World.size_alloc] at t); exact (t.alloc _))
  have HX1 := hide (show Box w1 (h5 + 1) #[.slice Ab n cb] 24 by rw [hw1, ← hh5]; have t := Box.new (w.alloc (.cells #[.slice Aa n ca] 24)) #[.slice Ab n cb] 24; (try simp only [World.size_alloc] at t); exact t)
  have HB1 := hide (show Below w.heap.size w w1 by rw [hw1]; exact (((Below.refl _ _).alloc (Nat.le_refl _) _).alloc (by simp only [World.size_alloc]; omega) _))
  have w1s := HB1.out.size
  have w1z := hide (show w1.heap.size = h5 + 1 + 1 by rw [hw1, ← hh5]; simp only [World.size_alloc])
  have HK0 := hide (fun (W : World) (hW : Below w1.heap.size w1 W) => ((HX0.out.below hW).cell 0 (v := .slice Aa n ca) rfl).1)
  have lHX0 := HX0.out.lt
  have HK1 := hide (fun (W : World) (hW : Below w1.heap.size w1 W) => ((HX1.out.below hW).cell 0 (v := .slice Ab n cb) rfl).1)
  have lHX1 := HX1.out.lt
  have h5g : w.heap.size ≤ h5 := by omega
  rw [← hw1, hh5]
  clear hw1 hh5
  have p0 := HK0.out w1 (Below.refl _ _)
  have p1 := HK1.out w1 (Below.refl _ _)
  go_wp2
  go_loopw [5] (fun i wr => ∃ k : Nat, k ≤ n ∧ i = .int .i64 k ∧ Hid (a.take k = b.take k) ∧ Below w1.heap.size w1 wr) (fun i _ => n - (intOf i).toNat)
  case atStart => exact ⟨0, Nat.zero_le _, rfl, hide (by simp), Below.refl _ _⟩
  case round =>
    obtain ⟨k, hk, rfl, HE, hb⟩ := hrel
    obtain ⟨wo, rfl⟩ : ∃ wo, wo = wr := ⟨_, rfl⟩
    have hszo := hb.size
    have HBEL := hide (HB1.out.trans (hb.mono HB1.out.size))
    have HBW := hide hb
    have xp0 := HK0.out wo hb
    have xp1 := HK1.out wo hb
    have lxp0 : h5 < wo.heap.size := by omega
    have lxp1 : h5 + 1 < wo.heap.size := by omega
    clear hb p0 p1
    by_cases hlt : k < n
    case neg =>
      have hv := hide (show decide (a = b) = true by
        rw [decide_eq_true_iff]
        have h := HE.out
        rwa [List.take_of_length_le (by have := HN.out; omega), List.take_of_length_le (by have := HM.out; omega)] at h)
      go_wp2
      go_ret
      exact ⟨ret_bool hv.out.symm, HBEL.out⟩
    obtain ⟨x, hx⟩ : ∃ x, a[k]? = some x := ⟨_, List.getElem?_eq_getElem (by have := HN.out; omega)⟩
    obtain ⟨y, hy⟩ : ∃ y, b[k]? = some y := ⟨_, List.getElem?_eq_getElem (by have := HM.out; omega)⟩
    obtain ⟨b1, o1, A1, c1, A2, c2, hA1, hb1, ⟨e0, e1⟩, hi1⟩ := (HKA.out wo HBEL.out).get hx
    obtain ⟨b2, o2, A3, c3, A4, c4, hA2, hb2, ⟨f0, f1⟩, hi2⟩ := (HKB.out wo HBEL.out).get hy
    subst hA1
    subst hA2
    have hbs1 : b1 < wo.heap.size := by omega
    have hbs2 : b2 < wo.heap.size := by omega
    have HST := hide (fun e : x = y => (show a.take (k + 1) = b.take (k + 1) by rw [List.take_add_one, List.take_add_one, HE.out, hx, hy, e]))
    have HNO := hide (fun hne : x ≠ y => (show decide (a = b) = false by
      rw [decide_eq_false_iff_not]
      intro e
      rw [e, hy] at hx
      exact hne (Option.some.inj hx).symm))
    have HXY := hide (show x = y ↔ x.refs = y.refs ∧ x.ints = y.ints by cases x; cases y; simp)
    have HI1 := hide (fun (q : Nat) => (show Calls Try.prog 13 #[.slice A1 x.refs.length c1, .slice A3 y.refs.length c3] (wo.drewN q) fun e w' => e = .returned (.bool (decide (x.refs = y.refs))) ∧ ∃ q, w' = (wo.drewN q) by
      refine (rints_any _ _ x.refs y.refs (wo.drewN q) B (hi1.1.keep (Same'.of_below (below_drewN (Below.refl _ _) q)) (fun _ h => h)) (hi2.1.keep (Same'.of_below (below_drewN (Below.refl _ _) q)) (fun _ h => h))).mono ?_
      rintro e w' ⟨h1, q', rfl⟩
      exact ⟨h1, q + q', by rw [World.drewN_drewN]⟩))
    have HI2 := hide (fun (q : Nat) => (show Calls Try.prog 13 #[.slice A2 x.ints.length c2, .slice A4 y.ints.length c4] (wo.drewN q) fun e w' => e = .returned (.bool (decide (x.ints = y.ints))) ∧ ∃ q, w' = (wo.drewN q) by
      refine (rints_any _ _ x.ints y.ints (wo.drewN q) B (hi1.2.keep (Same'.of_below (below_drewN (Below.refl _ _) q)) (fun _ h => h)) (hi2.2.keep (Same'.of_below (below_drewN (Below.refl _ _) q)) (fun _ h => h))).mono ?_
      rintro e w' ⟨h1, q', rfl⟩
      exact ⟨h1, q + q', by rw [World.drewN_drewN]⟩))
    clear hx hy hi1 hi2
    generalize x.refs.length = rx, x.ints.length = ix, y.refs.length = ry, y.ints.length = iy at *
    have hki : (0 : Int) ≤ (k : Int) := by omega
    have hkl : (k : Int) < (n : Int) := by omega
    by_cases h1 : x.refs = y.refs
    · rw [decide_eq_true h1] at HI1
      by_cases h2 : x.ints = y.ints
      · rw [decide_eq_true h2] at HI2
        have hv := hide (HST.out (HXY.out.2 ⟨h1, h2⟩))
        clear h1 h2
        go_wp2_with fail
        go_quiet ((first | (go_at_call_of 13 A1; exact (HI1.out _)) | (go_at_call_of 13 A2; exact (HI2.out _))))
        go_wp2
        go_roundw
        case rel => exact ⟨k + 1, by omega, by go_num, hv, below_drewN HBW.out _⟩
        case measure => simp [intOf]; omega
      · rw [decide_eq_false h2] at HI2
        have hv := hide (HNO.out (fun e => h2 (HXY.out.1 e).2))
        clear h1 h2
        go_wp2_with fail
        go_quiet ((first | (go_at_call_of 13 A1; exact (HI1.out _)) | (go_at_call_of 13 A2; exact (HI2.out _))))
        go_wp2
        go_ret
        exact ⟨ret_bool hv.out.symm, below_drewN HBEL.out _⟩
    · rw [decide_eq_false h1] at HI1
      have hv := hide (HNO.out (fun e => h1 (HXY.out.1 e).1))
      clear h1
      go_wp2_with fail
      go_quiet ((first | (go_at_call_of 13 A1; exact (HI1.out _)) | (go_at_call_of 13 A2; exact (HI2.out _))))
      go_wp2
      go_ret
      exact ⟨ret_bool hv.out.symm, below_drewN HBEL.out _⟩
end Go.Proofs.Ytjlndibeaklcdaa
