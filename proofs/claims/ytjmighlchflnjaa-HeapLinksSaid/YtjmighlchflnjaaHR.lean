/- The statement HeapLinks, walked: it answers true. Condition: no slice of the heap is longer than any machine's memory. -/
import Derived.Test.YtjmighlchflnjaaHO
set_option linter.unusedSimpArgs false
set_option linter.unusedVariables false
namespace Go.Proofs.Ytjmighlchflnjaa
open Go.RowKit

/-- Whether the new reference has been seen so far. -/
def seen9 (a2 : Int) (l : List Int) (k : Nat) : Bool := (a2 == 0) || (l.take k).any (· == a2)
theorem seen9_step {a2 : Int} {l : List Int} {k : Nat} {y : Int} (hy : l[k]? = some y) : seen9 a2 l (k + 1) = (seen9 a2 l k || (y == a2)) := by
  unfold seen9
  rw [List.take_add_one, hy, List.any_append]
  simp [Bool.or_assoc]
theorem seen9_end {a2 : Int} {l : List Int} {k : Nat} (hk : l.length ≤ k) (h : a2 = 0 ∨ a2 ∈ l) : seen9 a2 l k = true := by
  unfold seen9
  rw [List.take_of_length_le hk]
  rcases h with rfl | h
  · simp
  · have : l.any (· == a2) = true := List.any_eq_true.2 ⟨a2, h, by simp⟩
    simp [this]
set_option maxHeartbeats 4000000 in
set_option maxRecDepth 100000 in
theorem links_law (vh : Value) (h : List ObjV) (a0 a1 a2 : Int) (ha0 : i64R a0) (ha2 : i64R a2) (w : World) (hh : ObjsV w (· < w.heap.size) vh h) (hsz : size9 h) :
    Calls Try.prog 6 #[.agg #[vh], .agg #[.int .i64 a0, .int .i64 a1, .int .i64 a2]] w fun e w' => e = .returned (.bool true) ∧ Below w.heap.size w w' := by
  have HAL := hide (fun (W : World) => alive9_any W)
  have HGR := hide (fun (W : World) (hW : Below w.heap.size w W) => great9_any vh h W w.heap.size hW.size (hh.keep (up hW (Nat.le_refl _)) (fun _ h => h)) hsz)
  have HHK := hide (fun (W : World) (hW : Below w.heap.size w W) => hh.keep (S' := (· < w.heap.size)) (up hW (Nat.le_refl _)) (fun _ h => h))
  have HST := hide (fun (hs : small9 h) (W : World) (hW : Below w.heap.size w W) => (hlink_any vh h a0 a1 a2 ha2 W w.heap.size hW.size (hh.keep (up hW (Nat.le_refl _)) (fun _ h => h)) (by have := hs.1; omega)).mono (R' := fun e w' => ∃ A c, e = .returned (.tuple #[.agg #[.slice A (linkR h a0 a1 a2).1.length c], .int .i64 (((linkR h a0 a1 a2).2 : Nat) : Int)]) ∧ ObjsV w' (· < w'.heap.size) (.slice A (linkR h a0 a1 a2).1.length c) (linkR h a0 a1 a2).1 ∧ Below W.heap.size W w') (fun e w' ⟨v, h1, h2, h3⟩ => by
    obtain ⟨A, c, e1, -, -⟩ := h2.open'
    subst e1
    exact ⟨A, c, h1, h2, h3⟩))
  have HMA := hide (fun he => @links_math h a0 a1 a2 he)
  have HNO := hide (fun he => @link_no h a0 a1 a2 he)
  obtain ⟨Ao, c, rfl, hc, hm⟩ := hh.open'
  obtain ⟨n, hn⟩ : ∃ n, h.length = n := ⟨_, rfl⟩
  have HN := hide hn
  rw [hn] at HGR HHK HST ⊢
  clear hh hn hsz
  go_enter Try.func6, Try.ntmps6
  go_upto_region 1 with (fail)
  obtain ⟨w1, hw1⟩ : ∃ w1, w1 = (w.alloc (.cells #[.slice Ao n c] 24)).alloc (.cells #[.int .i64 a0, .int .i64 a1, .int .i64 a2] 42) := ⟨_, rfl⟩
  obtain ⟨h5, hh5⟩ : ∃ h5, w.heap.size = h5 := ⟨_, rfl⟩
  have HX0 := hide (show Box w1 (h5) #[.slice Ao n c] 24 by rw [hw1, ← hh5]; have t := Box.new w #[.slice Ao n c] 24; (try simp only [World.size_alloc] at t); exact (t.alloc _))
  have HX1 := hide (show Box w1 (h5 + 1) #[.int .i64 a0, .int .i64 a1, .int .i64 a2] 42 by rw [hw1, ← hh5]; have t := Box.new (w.alloc (.cells #[.slice Ao n c] 24)) #[.int .i64 a0, .int .i64 a1, .int .i64 a2] 42; (try simp only [World.size_alloc] at t); exact t)
  have HB1 := hide (show Below w.heap.size w w1 by rw [hw1]; exact (((Below.refl _ _).alloc (Nat.le_refl _) _).alloc (by simp only [World.size_alloc]; omega) _))
  have w1s := HB1.out.size
  have w1z := hide (show w1.heap.size = h5 + 1 + 1 by rw [hw1, ← hh5]; simp only [World.size_alloc])
  have HK0 := hide (fun (W : World) (hW : Below w1.heap.size w1 W) => ((HX0.out.below hW).cell 0 (v := .slice Ao n c) rfl).1)
  have lHX0 := HX0.out.lt
  have HK1 := hide (fun (W : World) (hW : Below w1.heap.size w1 W) => (And.intro ((HX1.out.below hW).cell 0 (v := .int .i64 a0) rfl).1 (And.intro ((HX1.out.below hW).cell 1 (v := .int .i64 a1) rfl).1 ((HX1.out.below hW).cell 2 (v := .int .i64 a2) rfl).1)))
  have lHX1 := HX1.out.lt
  have h5g : w.heap.size ≤ h5 := by omega
  rw [← hw1, hh5]
  clear hw1 hh5
  have HQ := hide (fun (W : World) (hW : Below w1.heap.size w1 W) => And.intro (HK0.out W hW) (HK1.out W hW))
  obtain ⟨p0, pa0, pa1, pa2⟩ := HQ.out w1 (Below.refl _ _)
  go_upto_region 5 with (first
    | (go_at_call 9; (with_reducible refine (HGR.out w2 HB2.out).mono ?_); rintro e w3 ⟨bG, rfl, hs3, hb3⟩; have HS3 := hide hs3; have HC3 := hide (HC2.out.trans (hb3.mono HC2.out.size)); have HB3 := hide (HB2.out.trans (hb3.mono HB2.out.size)); clear hb3 hs3)
    | (go_at_call 8; (with_reducible refine (HAL.out w1).mono ?_); rintro e w2 ⟨rfl, hb2⟩; have HC2 := hide hb2; have HB2 := hide (HB1.out.trans (hb2.mono HB1.out.size)); have q0 := HK0.out w2 hb2; clear hb2))
  all_goals try (go_ret; exact ⟨rfl, HB3.out⟩)
  have hbG : bG = false := by assumption
  subst hbG
  have HSM := hide (HS3.out (by simp))
  have HST := hide (HST.out HSM.out)
  have hn300 : n ≤ 300 := by have := HSM.out.1; have := HN.out; omega
  obtain ⟨H, hH⟩ : ∃ H, (linkR h a0 a1 a2).1 = H := ⟨_, rfl⟩
  obtain ⟨E, hE⟩ : ∃ E, (linkR h a0 a1 a2).2 = E := ⟨_, rfl⟩
  rw [hH, hE] at HST HMA HNO
  clear hH hE HS3 p0 pa0 pa1 pa2 q0
  obtain ⟨p0, pa0, pa1, pa2⟩ := HQ.out w3 HC3.out
  have l3 := HC3.out.size
  obtain ⟨m, hm⟩ : ∃ m, H.length = m := ⟨_, rfl⟩
  have HM := hide hm
  rw [hm] at HST
  clear hm
  by_cases hE0 : E = 0
  case neg =>
    have hEz : ((E : Int) != 0) = true := by simp; omega
    have HHE := hide (HNO.out hE0)
    go_upto_region 6 with (go_at_call 21; (with_reducible refine (HST.out w3 HB3.out).mono ?_); rintro e w4 ⟨Ax, cx, rfl, hx4, hb4⟩; have HX4 := hide hx4; have HC4 := hide (HC3.out.trans (hb4.mono HC3.out.size)); clear hb4 hx4)
    obtain ⟨w5, hw5⟩ : ∃ w5, w5 = w4.alloc (.cells #[.slice Ax m cx] 24) := ⟨_, rfl⟩
    obtain ⟨h6, hh6⟩ : ∃ h6, w4.heap.size = h6 := ⟨_, rfl⟩
    have HFX0 := hide (show Box w5 (h6) #[.slice Ax m cx] 24 by rw [hw5, ← hh6]; have t := Box.new w4 #[.slice Ax m cx] 24; (try simp only [World.size_alloc] at t); exact t)
    have HB5 := hide (show Below w4.heap.size w4 w5 by rw [hw5]; exact ((Below.refl _ _).alloc (Nat.le_refl _) _))
    have w5s := HB5.out.size
    have w5z := hide (show w5.heap.size = h6 + 1 by rw [hw5, ← hh6]; simp only [World.size_alloc])
    have HFK0 := hide (fun (W : World) (hW : Below w5.heap.size w5 W) => ((HFX0.out.below hW).cell 0 (v := .slice Ax m cx) rfl).1)
    have lHFX0 := HFX0.out.lt
    have h6g : w4.heap.size ≤ h6 := by omega
    rw [← hw5, hh6]
    clear hw5 hh6
    have HC5 := hide (HC4.out.trans (HB5.out.mono HC4.out.size))
    have HW5 := hide (HB1.out.trans (HC5.out.mono HB1.out.size))
    clear p0 pa0 pa1 pa2
    have p0 := HK0.out w5 HC5.out
    have x0 := HFK0.out w5 (Below.refl _ _)
    have l5 := HC5.out.size
    have HSA := hide (same9_any _ _ H h w5 w5.heap.size (Nat.le_refl _) (HX4.out.below HB5.out) ((HHK.out w5 HW5.out).keep (Same'.of_below (Below.refl _ _)) (fun b hb => by have := HW5.out.size; omega)))
    rw [HHE.out, decide_eq_true rfl] at HSA
    go_wp2_with (go_at_call 13; (with_reducible refine (HSA.out).mono ?_); rintro e w6 ⟨rfl, hb6⟩; have HB6 := hide hb6; clear hb6)
    go_ret
    exact ⟨rfl, HW5.out.trans (HB6.out.mono HW5.out.size)⟩
  subst hE0
  obtain ⟨m1, m2, m3, m4⟩ := HMA.out rfl
  have HM4 := hide m4
  have hmn : m = n := by have := HM.out; have := HN.out; omega
  subst hmn
  have HRX := hide (fun (vx : Value) (W : World) (hx : ObjsV W (· < W.heap.size) vx H) => href_any vx H a0 a1 W W.heap.size (Nat.le_refl _) hx (by have := HM.out; omega))
  have HRI := hide (fun (vx : Value) (W : World) (hx : ObjsV W (· < W.heap.size) vx H) => hright_any vx H W W.heap.size (Nat.le_refl _) hx)
  have HRC := hide (fun (vx vr : Value) (W : World) (hx : ObjsV W (· < W.heap.size) vx H) (hr : IntsV W (· < W.heap.size) vr [a0]) => (hreach_any vx vr H [a0] W W.heap.size (Nat.le_refl _) hx hr (by have := HM.out; omega)).mono (R' := fun e w' => ∃ A l c, e = .returned (.slice A l.length c) ∧ Hid (∀ k y, l[k]? = some y → seen9 a2 l (k + 1) = (seen9 a2 l k || (y == a2))) ∧ Hid (∀ k, l.length ≤ k → seen9 a2 l k = true) ∧ IntsV w' (· < w'.heap.size) (.slice A l.length c) l ∧ l.length ≤ 1000000 ∧ Below W.heap.size W w') (fun e w' ⟨v, l, h1, h2, h3, h4⟩ => by
    have hlen : l.length ≤ 300 := by
      have := nodup_le (h2.1.imp (fun h => Int.ne_of_lt h)) (n := H.length) (fun z hz => ((h2.2 z).1 hz).2.rng)
      have := HM.out
      omega
    have hv : IntsV w' (· < w'.heap.size) v l := h3.ints (fun z hz => by have := ((h2.2 z).1 hz).2.rng; have := HM.out; unfold i64R; omega)
    obtain ⟨A, cc, e1, -, -⟩ := hv.open'
    subst e1
    exact ⟨A, l, cc, h1, hide (fun k y hy => seen9_step hy), hide (fun k hk => seen9_end hk (HM4.out l h2)), hv, by omega, h4⟩))
  rw [m1] at HRX
  rw [m2] at HRI
  have HRX := hide (fun (vx : Value) (W : World) (hx : ObjsV W (· < W.heap.size) vx H) => (show Calls Try.prog 25 #[.agg #[vx], .int .i64 a0, .int .i64 a1] W fun e w' => e = .returned (.tuple #[.int .i64 a2, .int .i64 0]) ∧ Below W.heap.size W w' from HRX.out vx W hx))
  clear m1 m2 m3 m4 HMA HNO HM4
  go_upto_region 6 with (go_at_call 21; (with_reducible refine (HST.out w3 HB3.out).mono ?_); rintro e w4 ⟨Ax, cx, rfl, hx4, hb4⟩; have HX4 := hide hx4; have HC4 := hide (HC3.out.trans (hb4.mono HC3.out.size)); clear hb4 hx4)
  obtain ⟨w5, hw5⟩ : ∃ w5, w5 = w4.alloc (.cells #[.slice Ax m cx] 24) := ⟨_, rfl⟩
  obtain ⟨h6, hh6⟩ : ∃ h6, w4.heap.size = h6 := ⟨_, rfl⟩
  have HFX0 := hide (show Box w5 (h6) #[.slice Ax m cx] 24 by rw [hw5, ← hh6]; have t := Box.new w4 #[.slice Ax m cx] 24; (try simp only [World.size_alloc] at t); exact t)
  have HB5 := hide (show Below w4.heap.size w4 w5 by rw [hw5]; exact ((Below.refl _ _).alloc (Nat.le_refl _) _))
  have w5s := HB5.out.size
  have w5z := hide (show w5.heap.size = h6 + 1 by rw [hw5, ← hh6]; simp only [World.size_alloc])
  have HFK0 := hide (fun (W : World) (hW : Below w5.heap.size w5 W) => ((HFX0.out.below hW).cell 0 (v := .slice Ax m cx) rfl).1)
  have lHFX0 := HFX0.out.lt
  have h6g : w4.heap.size ≤ h6 := by omega
  rw [← hw5, hh6]
  clear hw5 hh6
  have HC5 := hide (HC4.out.trans (HB5.out.mono HC4.out.size))
  have HW5 := hide (HB1.out.trans (HC5.out.mono HB1.out.size))
  clear p0 pa0 pa1 pa2
  have HQQ := hide (fun (W : World) (hW : Below w5.heap.size w5 W) => And.intro (HFK0.out W hW) (HQ.out W (HC5.out.trans (hW.mono HC5.out.size))))
  have HXX := hide (fun (W : World) (hW : Below w5.heap.size w5 W) => (HX4.out.below HB5.out).below hW)
  have HWW := hide (fun (W : World) (hW : Below w5.heap.size w5 W) => HW5.out.trans (hW.mono HW5.out.size))
  have l5 := HC5.out.size
  obtain ⟨x0, p0, pa0, pa1, pa2⟩ := HQQ.out w5 (Below.refl _ _)
  go_upto_region 9 with (go_at_call 25; (with_reducible refine (HRX.out _ w5 (HXX.out w5 (Below.refl _ _))).mono ?_); rintro e w6 ⟨rfl, hb⟩; have HD6 := hide hb; clear x0 p0 pa0 pa1 pa2; obtain ⟨x0, p0, pa0, pa1, pa2⟩ := HQQ.out w6 HD6.out; have l6 := HD6.out.size; clear hb)
  have HLI := hide (lit_ints w6 #[.int .i64 a0] 1 [a0] rfl rfl (by omega) (by intro z hz; simp at hz; subst hz; exact ha0))
  have HB7 := hide (below1 w6 (.cells #[.int .i64 a0] 3))
  have HRR := hide (HRC.out _ _ _ (HXX.out _ (HD6.out.trans (HB7.out.mono HD6.out.size))) HLI.out)
  go_upto_region 11 with (go_at_call 17; (with_reducible refine (HRR.out).mono ?_); rintro e w8 ⟨Ar, l, cr, rfl, HSS, HSE, hv, hln, hb⟩; have HD8 := hide (HD6.out.trans ((HB7.out.trans (hb.mono HB7.out.size)).mono HD6.out.size)); have HV8 := hide hv; clear x0 p0 pa0 pa1 pa2; obtain ⟨x0, p0, pa0, pa1, pa2⟩ := HQQ.out w8 HD8.out; have l8 := HD8.out.size; clear hb hv)
  have hs0 : (a2 == 0) = seen9 a2 l 0 := by simp [seen9]
  rw [hs0]
  generalize seen9 a2 l = sn at *
  clear hs0
  obtain ⟨nl, hnl⟩ : ∃ nl, l.length = nl := ⟨_, rfl⟩
  have HNL := hide hnl
  rw [hnl] at HSE HV8 hln
  rw [hnl]
  clear hnl
  go_wp2
  go_loopw [10, 11] (fun f i wr => ∃ k : Nat, k ≤ nl ∧ i = .int .i64 k ∧ f = .bool (sn k) ∧ Below w8.heap.size w8 wr) (fun _ i _ => nl - (intOf i).toNat)
  case atStart => exact ⟨0, Nat.zero_le _, rfl, rfl, Below.refl _ _⟩
  case round =>
    obtain ⟨k, hk, rfl, rfl, hb⟩ := hrel
    obtain ⟨wo, rfl⟩ : ∃ wo, wo = wr := ⟨_, rfl⟩
    have hszo := hb.size
    have HBW := hide hb
    have HDo := hide (HD8.out.trans (hb.mono HD8.out.size))
    clear x0 p0 pa0 pa1 pa2
    obtain ⟨x0, p0, pa0, pa1, pa2⟩ := HQQ.out wo HDo.out
    clear hb
    by_cases hlt : k < nl
    case neg =>
      have hd1 : decide ((k : Int) < (nl : Int)) = false := by simp; omega
      have hse := HSE.out k (by omega)
      rw [hse]
      clear hse
      go_wp2_with (go_at_call 14; (with_reducible refine (HRI.out _ _ (HXX.out _ (by first | exact HDo.out | exact below_drewN HDo.out _))).mono ?_); rintro e wz ⟨rfl, hb⟩; have HDz := hide (HDo.out.trans (hb.mono HDo.out.size)); clear hb)
      go_ret
      exact ⟨by first | rfl | (simp; done), HWW.out wz HDz.out⟩
    have hd1 : decide ((k : Int) < (nl : Int)) = true := by simp; omega
    have hki : (0 : Int) ≤ (k : Int) := by omega
    have hkl : (k : Int) < (nl : Int) := by omega
    obtain ⟨y, hy⟩ : ∃ y, l[k]? = some y := ⟨_, List.getElem?_eq_getElem (by have := HNL.out; omega)⟩
    have hst := HSS.out k y hy
    obtain ⟨bl, ol, hAl, hbl, c0, -⟩ := (HV8.out.keep (S' := (· < w8.heap.size)) (up HBW.out (Nat.le_refl _)) (fun _ h => h)).get hy
    subst hAl
    have hbl2 : bl < wo.heap.size := by omega
    clear hy
    cases hsn : sn k with
    | true =>
      rw [hsn, Bool.true_or] at hst
      go_wp2_with fail
      go_quiet (fail)
      go_wp2
      go_roundw
      case rel => exact ⟨k + 1, by omega, by go_num, by rw [hst], below_drewN HBW.out _⟩
      case measure => simp [intOf]; omega
    | false =>
      rw [hsn, Bool.false_or] at hst
      go_wp2_with fail
      go_quiet (fail)
      go_wp2
      go_roundw
      case rel => exact ⟨k + 1, by omega, by go_num, by rw [hst], below_drewN HBW.out _⟩
      case measure => simp [intOf]; omega
end Go.Proofs.Ytjmighlchflnjaa
