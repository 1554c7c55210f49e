/- Layer 9, the reference: Right. No condition. -/
import Derived.Test.YtjmighlchflnjaaHO
set_option linter.unusedSimpArgs false
set_option linter.unusedVariables false
namespace Go.Proofs.Ytjmighlchflnjaa
open Go.RowKit

set_option maxHeartbeats 2000000 in
set_option maxRecDepth 100000 in
theorem rright_any (vh : Value) (h : List ObjV) (w : World) (B : Nat) (hB : B ≤ w.heap.size) (hh : ObjsV w (· < B) vh h) :
    Calls Try.prog 15 #[.agg #[vh]] w fun e w' => e = .returned (.bool (rightB h)) ∧ Below w.heap.size w w' := by
  have HK := hide (fun (W : World) (hW : Below w.heap.size w W) => hh.keep (up hW hB) (fun _ h => h))
  obtain ⟨Ao, c, rfl, hc, hm⟩ := hh.open'
  obtain ⟨n, hn⟩ : ∃ n, h.length = n := ⟨_, rfl⟩
  have HN := hide hn
  rw [hn] at HK hc ⊢
  clear hh hn
  go_enter Try.func15, Try.ntmps15
  go_upto_region 1 with (fail)
  obtain ⟨w1, hw1⟩ : ∃ w1, w1 = w.alloc (.cells #[.slice Ao n c] 24) := ⟨_, rfl⟩
  obtain ⟨h5, hh5⟩ : ∃ h5, w.heap.size = h5 := ⟨_, rfl⟩
  have HX0 := hide (show Box w1 (h5) #[.slice Ao n c] 24 by rw [hw1, ← hh5]; have t := Box.new w #[.slice Ao n c] 24; (try simp only [World.size_alloc] at t); exact t)
  have HB1 := hide (show Below w.heap.size w w1 by rw [hw1]; exact ((Below.refl _ _).alloc (Nat.le_refl _) _))
  have w1s := HB1.out.size
  have w1z := hide (show w1.heap.size = h5 + 1 by rw [hw1, ← hh5]; simp only [World.size_alloc])
  have HK0 := hide (fun (W : World) (hW : Below w1.heap.size w1 W) => ((HX0.out.below hW).cell 0 (v := .slice Ao n c) rfl).1)
  have lHX0 := HX0.out.lt
  have h5g : w.heap.size ≤ h5 := by omega
  rw [← hw1, hh5]
  clear hw1 hh5
  have p0 := HK0.out w1 (Below.refl _ _)
  go_wp2
  go_loopw [3] (fun i wr => ∃ k : Nat, k ≤ n ∧ i = .int .i64 k ∧ Below w1.heap.size w1 wr ∧ Hid ((h.take k).all (objB n) = true)) (fun i _ => n - (intOf i).toNat)
  case atStart => exact ⟨0, Nat.zero_le _, rfl, Below.refl _ _, hide (by simp)⟩
  case round =>
    obtain ⟨k, hk, rfl, hb', hno⟩ := hrel
    obtain ⟨wo, rfl⟩ : ∃ wo, wo = wr := ⟨_, rfl⟩
    have hszo := hb'.size
    have HBEL := hide (HB1.out.trans (hb'.mono HB1.out.size))
    have HBW := hide hb'
    have xp := HK0.out wo hb'
    clear hb' p0
    by_cases hlt : k < n
    case neg =>
      have hv := hide (show rightB h = true by unfold rightB; rw [HN.out]; exact allB_end hno.out HN.out (by omega))
      go_wp2
      go_ret
      exact ⟨ret_bool hv.out.symm, HBEL.out⟩
    obtain ⟨o, ho⟩ : ∃ o, h[k]? = some o := ⟨_, List.getElem?_eq_getElem (by have := HN.out; omega)⟩
    obtain ⟨bg, og, Ar, cr, Ai, ci, hAo, hbgb, ⟨e0, e1⟩, hi⟩ := (HK.out wo HBEL.out).get ho
    subst hAo
    have hbs : bg < wo.heap.size := by omega
    have HFA := hide (fun hf : objB n o = false => (show rightB h = false by unfold rightB; rw [HN.out]; exact allB_not ho hf))
    have HTR := hide (fun hf : objB n o = true => (show (h.take (k + 1)).all (objB n) = true from allB_take hno.out ho hf))
    have HIR := hide (fun (W : World) (hW : Below wo.heap.size wo W) => (hi.1.keep (up hW (by omega : B ≤ wo.heap.size)) (fun _ h => h)))
    have hob : objB n o = (decide (o.refs.length ≤ 8) && (decide (o.ints.length ≤ 8) && o.refs.all (rfB n))) := rfl
    have HOB := hide hob
    obtain ⟨rl, hrl⟩ : ∃ rl, o.refs.length = rl := ⟨_, rfl⟩
    obtain ⟨il, hil⟩ : ∃ il, o.ints.length = il := ⟨_, rfl⟩
    have HRL := hide hrl
    rw [hrl] at HOB e0 HIR
    rw [hil] at HOB e1
    have hmr : rl ≤ 9223372036854775807 := by obtain ⟨A, c, -, h1, h2⟩ := hi.1.open'; omega
    have hmi : il ≤ 9223372036854775807 := by obtain ⟨A, c, -, h1, h2⟩ := hi.2.open'; omega
    clear hi ho hrl hil hob
    have hki : (0 : Int) ≤ (k : Int) := by omega
    have hkl : (k : Int) < (n : Int) := by omega
    go_upto_region 5 with (fail)
    obtain ⟨w4, hw4⟩ : ∃ w4, w4 = wo.alloc (.cells #[.slice Ar rl cr, .slice Ai il ci] 48) := ⟨_, rfl⟩
    obtain ⟨h6, hh6⟩ : ∃ h6, wo.heap.size = h6 := ⟨_, rfl⟩
    have HFX0 := hide (show Box w4 (h6) #[.slice Ar rl cr, .slice Ai il ci] 48 by rw [hw4, ← hh6]; have t := Box.new wo #[.slice Ar rl cr, .slice Ai il ci] 48; (try simp only [World.size_alloc] at t); exact t)
    have HB4 := hide (show Below wo.heap.size wo w4 by rw [hw4]; exact ((Below.refl _ _).alloc (Nat.le_refl _) _))
    have w4s := HB4.out.size
    have w4z := hide (show w4.heap.size = h6 + 1 by rw [hw4, ← hh6]; simp only [World.size_alloc])
    have HFK0 := hide (fun (W : World) (hW : Below w4.heap.size w4 W) => (And.intro ((HFX0.out.below hW).cell 0 (v := .slice Ar rl cr) rfl).1 ((HFX0.out.below hW).cell 1 (v := .slice Ai il ci) rfl).1))
    have lHFX0 := HFX0.out.lt
    have h6g : wo.heap.size ≤ h6 := by omega
    rw [← hw4, hh6]
    clear hw4 hh6

    obtain ⟨c0, c1⟩ := HFK0.out w4 (Below.refl _ _)
    clear e0 e1
    have HQ := hide (fun (W : World) (hW : Below w4.heap.size w4 W) => And.intro (HFK0.out W hW) (HK0.out W (HBW.out.trans ((HB4.out.trans (hW.mono HB4.out.size)).mono hszo))))
    obtain ⟨-, xp⟩ := HQ.out w4 (Below.refl _ _)
    by_cases h8 : 8 < rl
    · have hv := hide (HFA.out (by rw [HOB.out]; have : decide (rl ≤ 8) = false := by simpa using h8
                                   rw [this]; rfl))
      go_wp2
      go_ret
      exact ⟨ret_bool hv.out.symm, HBEL.out.trans (HB4.out.mono HBEL.out.size)⟩
    have d8 : decide (rl ≤ 8) = true := by simpa using h8
    by_cases h9 : 8 < il
    · have hv := hide (HFA.out (by rw [HOB.out]; have : decide (il ≤ 8) = false := by simpa using h9
                                   rw [this, d8]; rfl))
      clear d8
      go_wp2
      go_ret
      exact ⟨ret_bool hv.out.symm, HBEL.out.trans (HB4.out.mono HBEL.out.size)⟩
    have d9 : decide (il ≤ 8) = true := by simpa using h9
    rw [d8, d9] at HOB
    clear d8 d9
    have HCC := hide (fun (W : World) (hW : Below w4.heap.size w4 W) => HIR.out W (HB4.out.trans (hW.mono HB4.out.size)))
    go_wp2
    go_loopw [5] (fun i wr => ∃ k2 : Nat, k2 ≤ rl ∧ i = .int .i64 k2 ∧ Below w4.heap.size w4 wr ∧ Hid ((o.refs.take k2).all (rfB n) = true)) (fun i _ => rl - (intOf i).toNat)
    case atStart => exact ⟨0, Nat.zero_le _, rfl, Below.refl _ _, hide (by simp)⟩
    case round =>
      obtain ⟨k2, hk2, rfl, hb', hno2⟩ := hrel
      obtain ⟨wi, rfl⟩ : ∃ wi, wi = wr := ⟨_, rfl⟩
      have hszi := hb'.size
      have HBI := hide hb'
      clear c0 c1 xp
      obtain ⟨⟨c0, c1⟩, xp⟩ := HQ.out wi hb'
      clear hb'
      by_cases hlt2 : k2 < rl
      case neg =>
        have hv := hide (HTR.out (by rw [HOB.out, allB_end hno2.out HRL.out (by omega)]; rfl))
        go_wp2
        go_roundw
        case rel => exact ⟨k + 1, by omega, by go_num, HBW.out.trans ((HB4.out.trans (HBI.out.mono HB4.out.size)).mono hszo), hv⟩
        case measure => simp [intOf]; omega
      obtain ⟨y, hy⟩ : ∃ y, o.refs[k2]? = some y := ⟨_, List.getElem?_eq_getElem (by have := HRL.out; omega)⟩
      have HY := hide hy
      obtain ⟨br, or, hAr, hbr, z0, -⟩ := (HCC.out wi HBI.out).get hy
      subst hAr
      have hbs2 : br < wi.heap.size := by omega
      clear hy
      have hki2 : (0 : Int) ≤ (k2 : Int) := by omega
      have hkl2 : (k2 : Int) < (rl : Int) := by omega
      have hrf : rfB n y = (decide (0 ≤ y) && decide (y ≤ n)) := rfl
      by_cases y0 : y < 0
      · have hd1 : decide (y < 0) = true := decide_eq_true y0
        have hv := hide (HFA.out (by rw [HOB.out, allB_not HY.out (show rfB n y = false by rw [hrf]; simp; omega)]; rfl))
        clear hrf
        go_wp2_with fail
        go_quiet (fail)
        go_wp2
        go_ret
        exact ⟨ret_bool hv.out.symm, HBEL.out.trans (below_drewN (HB4.out.trans (HBI.out.mono HB4.out.size)) _ |>.mono HBEL.out.size)⟩
      have hd1 : decide (y < 0) = false := decide_eq_false y0
      by_cases y1 : y > n
      · have hd2 : decide (y > (n : Int)) = true := decide_eq_true y1
        have hv := hide (HFA.out (by rw [HOB.out, allB_not HY.out (show rfB n y = false by rw [hrf]; simp; omega)]; rfl))
        clear hrf
        go_wp2_with fail
        go_quiet (fail)
        go_wp2
        go_ret
        exact ⟨ret_bool hv.out.symm, HBEL.out.trans (below_drewN (HB4.out.trans (HBI.out.mono HB4.out.size)) _ |>.mono HBEL.out.size)⟩
      have hd2 : decide (y > (n : Int)) = false := decide_eq_false y1
      have hv := hide (allB_take hno2.out HY.out (show rfB n y = true by rw [hrf]; simp; omega))
      clear hrf
      go_wp2_with fail
      go_quiet (fail)
      go_wp2
      go_roundw
      case rel => exact ⟨k2 + 1, by omega, by go_num, below_drewN HBI.out _, hv⟩
      case measure => simp [intOf]; omega
end Go.Proofs.Ytjmighlchflnjaa
