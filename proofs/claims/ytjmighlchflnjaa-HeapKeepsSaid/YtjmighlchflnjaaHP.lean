/- The statement HeapKeeps, walked: it answers true. Condition: no slice of the heap is longer than any machine's memory. -/
import Derived.Test.YtjmighlchflnjaaHO
set_option linter.unusedSimpArgs false
set_option linter.unusedVariables false
namespace Go.Proofs.Ytjmighlchflnjaa
open Go.RowKit

set_option maxHeartbeats 4000000 in
set_option maxRecDepth 100000 in
theorem keeps_law (vh : Value) (h : List ObjV) (a0 a1 a2 b0 b1 b2 : Int) (ha2 : i64R a2) (w : World) (hh : ObjsV w (· < w.heap.size) vh h) (hsz : size9 h) :
    Calls Try.prog 5 #[.agg #[vh], .agg #[.int .i64 a0, .int .i64 a1, .int .i64 a2], .agg #[.int .i64 b0, .int .i64 b1, .int .i64 b2]] w fun e w' => e = .returned (.bool true) ∧ Below w.heap.size w w' := by
  have HAL := hide (fun (W : World) => alive9_any W)
  have HGR := hide (fun (W : World) (hW : Below w.heap.size w W) => great9_any vh h W w.heap.size hW.size (hh.keep (up hW (Nat.le_refl _)) (fun _ h => h)) hsz)
  have HHK := hide (fun (W : World) (hW : Below w.heap.size w W) => hh.keep (S' := (· < w.heap.size)) (up hW (Nat.le_refl _)) (fun _ h => h))
  have HST := hide (fun (hs : small9 h) (W : World) (hW : Below w.heap.size w W) => (hstore_any vh h a0 a1 a2 ha2 W w.heap.size hW.size (hh.keep (up hW (Nat.le_refl _)) (fun _ h => h)) (by have := hs.1; omega)).mono (R' := fun e w' => ∃ A c, e = .returned (.tuple #[.agg #[.slice A (storeR h a0 a1 a2).1.length c], .int .i64 (((storeR h a0 a1 a2).2 : Nat) : Int)]) ∧ ObjsV w' (· < w'.heap.size) (.slice A (storeR h a0 a1 a2).1.length c) (storeR h a0 a1 a2).1 ∧ Below W.heap.size W w') (fun e w' ⟨v, h1, h2, h3⟩ => by
    obtain ⟨A, c, e1, -, -⟩ := h2.open'
    subst e1
    exact ⟨A, c, h1, h2, h3⟩))
  have HLH := hide (fun (hs : small9 h) (p q : Int) (W : World) (hW : Below w.heap.size w W) => hload_any vh h p q W w.heap.size hW.size (hh.keep (up hW (Nat.le_refl _)) (fun _ h => h)) (by have := hs.1; omega))
  have HRH := hide (fun (hs : small9 h) (p q : Int) (W : World) (hW : Below w.heap.size w W) => href_any vh h p q W w.heap.size hW.size (hh.keep (up hW (Nat.le_refl _)) (fun _ h => h)) (by have := hs.1; omega))
  have HMA := hide (fun he => @keeps_math h a0 a1 a2 he b0 b1)
  have HNO := hide (fun he => @store_no h a0 a1 a2 he)
  obtain ⟨Ao, c, rfl, hc, hm⟩ := hh.open'
  obtain ⟨n, hn⟩ : ∃ n, h.length = n := ⟨_, rfl⟩
  have HN := hide hn
  rw [hn] at HGR HHK HST HLH HRH ⊢
  clear hh hn hsz
  go_enter Try.func5, Try.ntmps5
  go_upto_region 1 with (fail)
  obtain ⟨w1, hw1⟩ : ∃ w1, w1 = ((w.alloc (.cells #[.slice Ao n c] 24)).alloc (.cells #[.int .i64 a0, .int .i64 a1, .int .i64 a2] 42)).alloc (.cells #[.int .i64 b0, .int .i64 b1, .int .i64 b2] 42) := ⟨_, rfl⟩
  obtain ⟨h5, hh5⟩ : ∃ h5, w.heap.size = h5 := ⟨_, rfl⟩
  have HX0 := hide (show Box w1 (h5) #[.slice Ao n c] 24 by rw [hw1, ← hh5]; have t := Box.new w #[.slice Ao n c] 24; (try simp only [World.size_alloc] at t); exact ((t.alloc _).alloc _))
  have HX1 := hide (show Box w1 (h5 + 1) #[.int .i64 a0, .int .i64 a1, .int .i64 a2] 42 by rw [hw1, ← hh5]; have t := Box.new (w.alloc (.cells #[.slice Ao n c] 24)) #[.int .i64 a0, .int .i64 a1, .int .i64 a2] 42; (try simp only [World.size_alloc] at t); exact (t.alloc _))
  have HX2 := hide (show Box w1 (h5 + 1 + 1) #[.int .i64 b0, .int .i64 b1, .int .i64 b2] 42 by rw [hw1, ← hh5]; have t := Box.new ((w.alloc (.cells #[.slice Ao n c] 24)).alloc (.cells #[.int .i64 a0, .int .i64 a1, .int .i64 a2] 42)) #[.int .i64 b0, .int .i64 b1, .int .i64 b2] 42; (try simp only [World.size_alloc] at t); exact t)
  have HB1 := hide (show Below w.heap.size w w1 by rw [hw1]; exact ((((Below.refl _ _).alloc (Nat.le_refl _) _).alloc (by simp only [World.size_alloc]; omega) _).alloc (by simp only [World.size_alloc]; omega) _))
  have w1s := HB1.out.size
  have w1z := hide (show w1.heap.size = h5 + 1 + 1 + 1 by rw [hw1, ← hh5]; simp only [World.size_alloc])
  have HK0 := hide (fun (W : World) (hW : Below w1.heap.size w1 W) => ((HX0.out.below hW).cell 0 (v := .slice Ao n c) rfl).1)
  have lHX0 := HX0.out.lt
  have HK1 := hide (fun (W : World) (hW : Below w1.heap.size w1 W) => (And.intro ((HX1.out.below hW).cell 0 (v := .int .i64 a0) rfl).1 (And.intro ((HX1.out.below hW).cell 1 (v := .int .i64 a1) rfl).1 ((HX1.out.below hW).cell 2 (v := .int .i64 a2) rfl).1)))
  have lHX1 := HX1.out.lt
  have HK2 := hide (fun (W : World) (hW : Below w1.heap.size w1 W) => (And.intro ((HX2.out.below hW).cell 0 (v := .int .i64 b0) rfl).1 (And.intro ((HX2.out.below hW).cell 1 (v := .int .i64 b1) rfl).1 ((HX2.out.below hW).cell 2 (v := .int .i64 b2) rfl).1)))
  have lHX2 := HX2.out.lt
  have h5g : w.heap.size ≤ h5 := by omega
  rw [← hw1, hh5]
  clear hw1 hh5
  have HQ := hide (fun (W : World) (hW : Below w1.heap.size w1 W) => And.intro (HK0.out W hW) (And.intro (HK1.out W hW) (HK2.out W hW)))
  obtain ⟨p0, ⟨pa0, pa1, pa2⟩, pb0, pb1, pb2⟩ := HQ.out w1 (Below.refl _ _)
  go_upto_region 5 with (first
    | (go_at_call 9; (with_reducible refine (HGR.out w2 HB2.out).mono ?_); rintro e w3 ⟨bG, rfl, hs3, hb3⟩; have HS3 := hide hs3; have HC3 := hide (HC2.out.trans (hb3.mono HC2.out.size)); have HB3 := hide (HB2.out.trans (hb3.mono HB2.out.size)); clear hb3 hs3)
    | (go_at_call 8; (with_reducible refine (HAL.out w1).mono ?_); rintro e w2 ⟨rfl, hb2⟩; have HC2 := hide hb2; have HB2 := hide (HB1.out.trans (hb2.mono HB1.out.size)); have q0 := HK0.out w2 hb2; clear hb2))
  all_goals try (go_ret; exact ⟨rfl, HB3.out⟩)
  have hbG : bG = false := by assumption
  subst hbG
  have HSM := hide (HS3.out (by simp))
  have HST := hide (HST.out HSM.out)
  have HLH := hide (HLH.out HSM.out)
  have HRH := hide (HRH.out HSM.out)
  have hn300 : n ≤ 300 := by have := HSM.out.1; have := HN.out; omega
  obtain ⟨H, hH⟩ : ∃ H, (storeR h a0 a1 a2).1 = H := ⟨_, rfl⟩
  obtain ⟨E, hE⟩ : ∃ E, (storeR h a0 a1 a2).2 = E := ⟨_, rfl⟩
  rw [hH, hE] at HST HMA HNO
  clear hH hE HS3 p0 pa0 pa1 pa2 pb0 pb1 pb2 q0
  obtain ⟨p0, ⟨pa0, pa1, pa2⟩, pb0, pb1, pb2⟩ := HQ.out w3 HC3.out
  have l3 := HC3.out.size
  obtain ⟨m, hm⟩ : ∃ m, H.length = m := ⟨_, rfl⟩
  have HM := hide hm
  rw [hm] at HST
  clear hm
  by_cases hE0 : E = 0
  case neg =>
    have hEz : ((E : Int) != 0) = true := by simp; omega
    have HHE := hide (HNO.out hE0)
    go_upto_region 6 with (go_at_call 19; (with_reducible refine (HST.out w3 HB3.out).mono ?_); rintro e w4 ⟨Ax, cx, rfl, hx4, hb4⟩; have HX4 := hide hx4; have HC4 := hide (HC3.out.trans (hb4.mono HC3.out.size)); clear hb4 hx4)
    obtain ⟨w5, hw5⟩ : ∃ w5, w5 = w4.alloc (.cells #[.slice Ax m cx] 24) := ⟨_, rfl⟩
    obtain ⟨h6, hh6⟩ : ∃ h6, w4.heap.size = h6 := ⟨_, rfl⟩
    have HFX0 := hide (show Box w5 (h6) #[.slice Ax m cx] 24 by rw [hw5, ← hh6]; have t := Box.new w4 #[.slice Ax m cx] 24; (try simp only [World.size_alloc] at t); exact t)
    have HB5 := hide (show Below w4.heap.size w4 w5 by rw [hw5]; exact ((Below.refl _ _).alloc (Nat.le_refl _) _))
    have w5s := HB5.out.size
    have w5z := hide (show w5.heap.size = h6 + 1 by rw [hw5, ← hh6]; simp only [World.size_alloc])
    have HFK0 := hide (fun (W : World) (hW : Below w5.heap.size w5 W) => ((HFX0.out.below hW).cell 0 (v := .slice Ax m cx) rfl).1)
    have lHFX0 := HFX0.out.lt
    have h6g : w4.heap.size ≤ h6 := by omega
    rw [← hw5, hh6]
    clear hw5 hh6
    have HC5 := hide (HC4.out.trans (HB5.out.mono HC4.out.size))
    have HW5 := hide (HB1.out.trans (HC5.out.mono HB1.out.size))
    clear p0 pa0 pa1 pa2 pb0 pb1 pb2
    have p0 := HK0.out w5 HC5.out
    have x0 := HFK0.out w5 (Below.refl _ _)
    have l5 := HC5.out.size
    have HSA := hide (same9_any _ _ H h w5 w5.heap.size (Nat.le_refl _) (HX4.out.below HB5.out) ((HHK.out w5 HW5.out).keep (Same'.of_below (Below.refl _ _)) (fun b hb => by have := HW5.out.size; omega)))
    rw [HHE.out, decide_eq_true rfl] at HSA
    go_wp2_with (go_at_call 13; (with_reducible refine (HSA.out).mono ?_); rintro e w6 ⟨rfl, hb6⟩; have HB6 := hide hb6; clear hb6)
    go_ret
    exact ⟨rfl, HW5.out.trans (HB6.out.mono HW5.out.size)⟩
  subst hE0
  obtain ⟨m1, m2, m3, m4, m5, m6⟩ := HMA.out rfl
  have hmn : m = n := by have := HM.out; have := HN.out; omega
  subst hmn
  have HLX := hide (fun (vx : Value) (p q : Int) (W : World) (hx : ObjsV W (· < W.heap.size) vx H) => hload_any vx H p q W W.heap.size (Nat.le_refl _) hx (by have := HM.out; omega))
  have HRX := hide (fun (vx : Value) (p q : Int) (W : World) (hx : ObjsV W (· < W.heap.size) vx H) => href_any vx H p q W W.heap.size (Nat.le_refl _) hx (by have := HM.out; omega))
  have HRI := hide (fun (vx : Value) (W : World) (hx : ObjsV W (· < W.heap.size) vx H) => hright_any vx H W W.heap.size (Nat.le_refl _) hx)
  have HLX1 := hide (fun vx W hx => HLX.out vx a0 a1 W hx)
  have HLX2 := hide (fun vx W hx => HLX.out vx b0 b1 W hx)
  have HRX2 := hide (fun vx W hx => HRX.out vx b0 b1 W hx)
  have HLH2 := hide (fun W hW => HLH.out b0 b1 W hW)
  have HRH2 := hide (fun W hW => HRH.out b0 b1 W hW)
  rw [m1] at HLX1
  rw [m2] at HRI
  rw [m3] at HLX2
  rw [m4] at HRX2
  obtain ⟨X, hX⟩ : ∃ X, (loadR H b0 b1).1 = X := ⟨_, rfl⟩
  obtain ⟨Y, hY⟩ : ∃ Y, (loadR h b0 b1).1 = Y := ⟨_, rfl⟩
  rw [hX] at HLX2 m5
  rw [hY] at HLH2 m5
  generalize (((loadR h b0 b1).2 : Nat) : Int) = G at *
  generalize (((refR h b0 b1).2 : Nat) : Int) = G2 at *
  generalize (refR h b0 b1).1 = Z at *
  have HM5 := hide m5
  clear hX hY m1 m2 m3 m4 m5 m6 HLX HRX HLH HRH HMA HNO
  go_upto_region 6 with (go_at_call 19; (with_reducible refine (HST.out w3 HB3.out).mono ?_); rintro e w4 ⟨Ax, cx, rfl, hx4, hb4⟩; have HX4 := hide hx4; have HC4 := hide (HC3.out.trans (hb4.mono HC3.out.size)); clear hb4 hx4)
  obtain ⟨w5, hw5⟩ : ∃ w5, w5 = w4.alloc (.cells #[.slice Ax m cx] 24) := ⟨_, rfl⟩
  obtain ⟨h6, hh6⟩ : ∃ h6, w4.heap.size = h6 := ⟨_, rfl⟩
  have HFX0 := hide (show Box w5 (h6) #[.slice Ax m cx] 24 by rw [hw5, ← hh6]; have t := Box.new w4 #[.slice Ax m cx] 24; (try simp only [World.size_alloc] at t); exact t)
  have HB5 := hide (show Below w4.heap.size w4 w5 by rw [hw5]; exact ((Below.refl _ _).alloc (Nat.le_refl _) _))
  have w5s := HB5.out.size
  have w5z := hide (show w5.heap.size = h6 + 1 by rw [hw5, ← hh6]; simp only [World.size_alloc])
  have HFK0 := hide (fun (W : World) (hW : Below w5.heap.size w5 W) => ((HFX0.out.below hW).cell 0 (v := .slice Ax m cx) rfl).1)
  have lHFX0 := HFX0.out.lt
  have h6g : w4.heap.size ≤ h6 := by omega
  rw [← hw5, hh6]
  clear hw5 hh6
  have HC5 := hide (HC4.out.trans (HB5.out.mono HC4.out.size))
  have HW5 := hide (HB1.out.trans (HC5.out.mono HB1.out.size))
  clear p0 pa0 pa1 pa2 pb0 pb1 pb2
  have HQQ := hide (fun (W : World) (hW : Below w5.heap.size w5 W) => And.intro (HFK0.out W hW) (HQ.out W (HC5.out.trans (hW.mono HC5.out.size))))
  have HXX := hide (fun (W : World) (hW : Below w5.heap.size w5 W) => (HX4.out.below HB5.out).below hW)
  have HWW := hide (fun (W : World) (hW : Below w5.heap.size w5 W) => HW5.out.trans (hW.mono HW5.out.size))
  have l5 := HC5.out.size
  obtain ⟨x0, p0, ⟨pa0, pa1, pa2⟩, pb0, pb1, pb2⟩ := HQQ.out w5 (Below.refl _ _)
  have key : (X = Y) ∨ (X ≠ Y ∧ a0 = b0 ∧ a1 = b1) := by
    rcases HM5.out with e | e
    · exact .inl e
    · by_cases e2 : X = Y
      · exact .inl e2
      · exact .inr ⟨e2, e⟩
  rcases key with rfl | ⟨hne, rfl, rfl⟩
  case' inr => have hXY : (X == Y) = false := by simpa using hne
  case' inr => clear hne
  all_goals
    go_wp2_with (first
      | (go_at_call 14; (with_reducible refine (HRI.out _ wb (HXX.out wb HDwb.out)).mono ?_); rintro e wc ⟨rfl, hb⟩; have HDwc := hide (HDwb.out.trans (hb.mono HDwb.out.size)); obtain ⟨x0, p0, ⟨pa0, pa1, pa2⟩, pb0, pb1, pb2⟩ := HQQ.out wc HDwc.out; have lzwc := HDwc.out.size; clear hb)
      | (go_at_call 25; (with_reducible refine (HRH2.out wa (HWW.out wa HDwa.out)).mono ?_); rintro e wb ⟨rfl, hb⟩; have HDwb := hide (HDwa.out.trans (hb.mono HDwa.out.size)); obtain ⟨x0, p0, ⟨pa0, pa1, pa2⟩, pb0, pb1, pb2⟩ := HQQ.out wb HDwb.out; have lzwb := HDwb.out.size; clear hb)
      | (go_at_call 25; (with_reducible refine (HRX2.out _ w9 (HXX.out w9 HDw9.out)).mono ?_); rintro e wa ⟨rfl, hb⟩; have HDwa := hide (HDw9.out.trans (hb.mono HDw9.out.size)); obtain ⟨x0, p0, ⟨pa0, pa1, pa2⟩, pb0, pb1, pb2⟩ := HQQ.out wa HDwa.out; have lzwa := HDwa.out.size; clear hb)
      | (go_at_call 23; (with_reducible refine (HLH2.out w8 (HWW.out w8 HDw8.out)).mono ?_); rintro e w9 ⟨rfl, hb⟩; have HDw9 := hide (HDw8.out.trans (hb.mono HDw8.out.size)); obtain ⟨x0, p0, ⟨pa0, pa1, pa2⟩, pb0, pb1, pb2⟩ := HQQ.out w9 HDw9.out; have lzw9 := HDw9.out.size; clear hb)
      | (go_at_call 23; (with_reducible refine (HLX2.out _ w7 (HXX.out w7 HDw7.out)).mono ?_); rintro e w8 ⟨rfl, hb⟩; have HDw8 := hide (HDw7.out.trans (hb.mono HDw7.out.size)); obtain ⟨x0, p0, ⟨pa0, pa1, pa2⟩, pb0, pb1, pb2⟩ := HQQ.out w8 HDw8.out; have lzw8 := HDw8.out.size; clear hb)
      | (go_at_call 23; (with_reducible refine (HLX1.out _ w5 (HXX.out w5 (Below.refl _ _))).mono ?_); rintro e w7 ⟨rfl, hb⟩; have HDw7 := hide ((Below.refl w5.heap.size w5).trans (hb.mono (Below.refl w5.heap.size w5).size)); obtain ⟨x0, p0, ⟨pa0, pa1, pa2⟩, pb0, pb1, pb2⟩ := HQQ.out w7 HDw7.out; have lzw7 := HDw7.out.size; clear hb))
    go_ret
    exact ⟨by first | rfl | (simp; done), HWW.out wc HDwc.out⟩
end Go.Proofs.Ytjmighlchflnjaa
