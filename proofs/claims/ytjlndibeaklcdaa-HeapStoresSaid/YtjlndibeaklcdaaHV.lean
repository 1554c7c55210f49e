/- The statement HeapStores, walked: it answers true. Condition: no slice of the heap is longer than any machine's memory. -/
import Derived.Test.YtjlndibeaklcdaaHSt
set_option linter.unusedSimpArgs false
set_option linter.unusedVariables false
namespace Go.Proofs.Ytjlndibeaklcdaa
open Go.RowKit

set_option maxHeartbeats 4000000 in
set_option maxRecDepth 100000 in
theorem stores_law (vh : Value) (h : List ObjV) (obj n y : Int) (hy : i64R y) (w : World) (hh : ObjsV w (· < w.heap.size) vh h) (hsz : size9 h) :
    Calls Try.prog 4 #[.agg #[vh], .int .i64 obj, .agg #[.int .i64 n, .int .i64 y]] w fun e w' => e = .returned (.bool true) ∧ Below w.heap.size w w' := by
  have HAL := hide (fun (W : World) => alive9_any W)
  have HGR := hide (fun (W : World) (hW : Below w.heap.size w W) => great9_any vh h W w.heap.size hW.size (hh.keep (up hW (Nat.le_refl _)) (fun _ h => h)) hsz)
  have HORG := hide (fun (W : World) (hW : Below w.heap.size w W) => hh.keep (S' := (· < W.heap.size)) (up hW (Nat.le_refl _)) (fun b hb => by have := hW.size; omega))
  have HCP := hide (fun (hs : small9 h) (W : World) (v : Value) (hx : ObjsV W (· < W.heap.size) v h) => rcopyV_any v h W hx hs)
  obtain ⟨Ao, c, rfl, hc, hm⟩ := hh.open'
  obtain ⟨hl, hhl⟩ : ∃ hl, h.length = hl := ⟨_, rfl⟩
  have HN := hide hhl
  rw [hhl] at HGR HORG HCP ⊢
  clear hh hhl hsz
  go_enter Try.func4, Try.ntmps4
  go_upto_region 1 with (fail)
  obtain ⟨w1, hw1⟩ : ∃ w1, w1 = (w.alloc (.cells #[.slice Ao hl c] 24)).alloc (.cells #[.int .i64 n, .int .i64 y] 25) := ⟨_, rfl⟩
  obtain ⟨h5, hh5⟩ : ∃ h5, w.heap.size = h5 := ⟨_, rfl⟩
  have HX0 := hide (show Box w1 (h5) #[.slice Ao hl c] 24 by rw [hw1, ← hh5]; have t := Box.new w #[.slice Ao hl c] 24; (try simp only [World.size_alloc] at t); exact (t.alloc _))
  have HX1 := hide (show Box w1 (h5 + 1) #[.int .i64 n, .int .i64 y] 25 by rw [hw1, ← hh5]; have t := Box.new (w.alloc (.cells #[.slice Ao hl c] 24)) #[.int .i64 n, .int .i64 y] 25; (try simp only [World.size_alloc] at t); exact t)
  have HB1 := hide (show Below w.heap.size w w1 by rw [hw1]; exact (((Below.refl _ _).alloc (Nat.le_refl _) _).alloc (by simp only [World.size_alloc]; omega) _))
  have w1s := HB1.out.size
  have w1z := hide (show w1.heap.size = h5 + 1 + 1 by rw [hw1, ← hh5]; simp only [World.size_alloc])
  have HK0 := hide (fun (W : World) (hW : Below w1.heap.size w1 W) => ((HX0.out.below hW).cell 0 (v := .slice Ao hl c) rfl).1)
  have lHX0 := HX0.out.lt
  have HK1 := hide (fun (W : World) (hW : Below w1.heap.size w1 W) => (And.intro ((HX1.out.below hW).cell 0 (v := .int .i64 n) rfl).1 ((HX1.out.below hW).cell 1 (v := .int .i64 y) rfl).1))
  have lHX1 := HX1.out.lt
  have h5g : w.heap.size ≤ h5 := by omega
  rw [← hw1, hh5]
  clear hw1 hh5
  have p0 := HK0.out w1 (Below.refl _ _)
  go_upto_region 5 with (first
    | (go_at_call 6; (with_reducible refine (HGR.out w2 HB2.out).mono ?_); rintro e w3 ⟨bG, rfl, hs3, hb3⟩; have HS3 := hide hs3; have HC3 := hide (HC2.out.trans (hb3.mono HC2.out.size)); have HB3 := hide (HB2.out.trans (hb3.mono HB2.out.size)); clear hb3 hs3)
    | (go_at_call 5; (with_reducible refine (HAL.out w1).mono ?_); rintro e w2 ⟨rfl, hb2⟩; have HC2 := hide hb2; have HB2 := hide (HB1.out.trans (hb2.mono HB1.out.size)); have q0 := HK0.out w2 hb2; clear hb2))
  all_goals try (go_ret; exact ⟨rfl, HB3.out⟩)
  have hbG : bG = false := by assumption
  subst hbG
  have HSM := hide (HS3.out (by simp))
  have hn300 : h.length ≤ 300 := HSM.out.1
  have HCP := hide (HCP.out HSM.out)
  have HS1 := hide (fun (v : Value) (W : World) (hx : ObjsV W (· < W.heap.size) v h) => (hstore_any v h obj n y hy W W.heap.size (Nat.le_refl _) hx (by omega)).mono (R' := fun e w' => ∃ A c, e = .returned (.tuple #[.agg #[.slice A (storeR h obj n y).1.length c], .int .i64 (((storeR h obj n y).2 : Nat) : Int)]) ∧ ObjsV w' (· < w'.heap.size) (.slice A (storeR h obj n y).1.length c) (storeR h obj n y).1 ∧ Below W.heap.size W w') (fun e w' ⟨v, h1, h2, h3⟩ => by
    obtain ⟨A, c, e1, -, -⟩ := h2.open'
    subst e1
    exact ⟨A, c, h1, h2, h3⟩))
  have HS2 := hide (fun (v : Value) (W : World) (hx : ObjsV W (· < W.heap.size) v h) => (rstore_any v h obj n y hy W W.heap.size (Nat.le_refl _) hx HSM.out).mono (R' := fun e w' => ∃ A c, e = .returned (.tuple #[.agg #[.slice A (storeR h obj n y).1.length c], .int .i64 (((storeR h obj n y).2 : Nat) : Int)]) ∧ ObjsV w' (· < w'.heap.size) (.slice A (storeR h obj n y).1.length c) (storeR h obj n y).1 ∧ Below W.heap.size W w') (fun e w' ⟨v, h1, h2, h3⟩ => by
    obtain ⟨A, c, e1, -, -⟩ := h2.open'
    subst e1
    exact ⟨A, c, h1, h2, h3⟩))
  have HL1 := hide (fun (v : Value) (W : World) (hx : ObjsV W (· < W.heap.size) v h) => (hlink_any v h obj n y hy W W.heap.size (Nat.le_refl _) hx (by omega)).mono (R' := fun e w' => ∃ A c, e = .returned (.tuple #[.agg #[.slice A (linkR h obj n y).1.length c], .int .i64 (((linkR h obj n y).2 : Nat) : Int)]) ∧ ObjsV w' (· < w'.heap.size) (.slice A (linkR h obj n y).1.length c) (linkR h obj n y).1 ∧ Below W.heap.size W w') (fun e w' ⟨v, h1, h2, h3⟩ => by
    obtain ⟨A, c, e1, -, -⟩ := h2.open'
    subst e1
    exact ⟨A, c, h1, h2, h3⟩))
  have HL2 := hide (fun (v : Value) (W : World) (hx : ObjsV W (· < W.heap.size) v h) => (rlink_any v h obj n y hy W W.heap.size (Nat.le_refl _) hx HSM.out).mono (R' := fun e w' => ∃ A c, e = .returned (.tuple #[.agg #[.slice A (linkR h obj n y).1.length c], .int .i64 (((linkR h obj n y).2 : Nat) : Int)]) ∧ ObjsV w' (· < w'.heap.size) (.slice A (linkR h obj n y).1.length c) (linkR h obj n y).1 ∧ Below W.heap.size W w') (fun e w' ⟨v, h1, h2, h3⟩ => by
    obtain ⟨A, c, e1, -, -⟩ := h2.open'
    subst e1
    exact ⟨A, c, h1, h2, h3⟩))
  have HD1 := hide (fun (v : Value) (W : World) (hx : ObjsV W (· < W.heap.size) v h) => hload_any v h obj n W W.heap.size (Nat.le_refl _) hx (by omega))
  have HD2 := hide (fun (v : Value) (W : World) (hx : ObjsV W (· < W.heap.size) v h) => rload_any v h obj n W W.heap.size (Nat.le_refl _) hx (by omega))
  have HF1 := hide (fun (v : Value) (W : World) (hx : ObjsV W (· < W.heap.size) v h) => href_any v h obj n W W.heap.size (Nat.le_refl _) hx (by omega))
  have HF2 := hide (fun (v : Value) (W : World) (hx : ObjsV W (· < W.heap.size) v h) => rref_any v h obj n W W.heap.size (Nat.le_refl _) hx (by omega))
  have HSA := hide (fun (va vb : Value) (l : List ObjV) (W : World) (ha : ObjsV W (· < W.heap.size) va l) (hb : ObjsV W (· < W.heap.size) vb l) => (show Calls Try.prog 10 #[.agg #[va], .agg #[vb]] W fun e w' => e = .returned (.bool true) ∧ Below W.heap.size W w' from by have t := same9_any va vb l l W W.heap.size (Nat.le_refl _) ha hb; rw [decide_eq_true rfl] at t; exact t))
  generalize (storeR h obj n y).1 = SH, (((storeR h obj n y).2 : Nat) : Int) = SE, (linkR h obj n y).1 = LH, (((linkR h obj n y).2 : Nat) : Int) = LE at *
  generalize (loadR h obj n).1 = DV, (((loadR h obj n).2 : Nat) : Int) = DE, (refR h obj n).1 = FV, (((refR h obj n).2 : Nat) : Int) = FE at *
  generalize SH.length = sl, LH.length = ll at *
  clear HS3 hn300 HSM p0 q0 hy
  have Dw1_w1 := hide (Below.refl w1.heap.size w1)
  have Dw1_w3 := HC3
  have HO3 := hide (HORG.out w3 HB3.out)
  have p0 := HK0.out w3 Dw1_w3.out
  obtain ⟨pa0, pa1⟩ := HK1.out w3 Dw1_w3.out
  go_upto_region 6 with (go_at_call 7; (with_reducible refine (HCP.out w3 _ HO3.out).mono ?_); rintro e w4 ⟨A4, c4, rfl, hx4, hb4⟩; have HX4 := hide hx4; have E4 := hide hb4; clear hx4 hb4)
  have Dw1_w4 := hide (Dw1_w3.out.trans (E4.out.mono Dw1_w3.out.size))
  obtain ⟨w5, hw5⟩ : ∃ w5, w5 = w4.alloc (.cells #[.slice A4 hl c4] 24) := ⟨_, rfl⟩
  obtain ⟨h6, hh6⟩ : ∃ h6, w4.heap.size = h6 := ⟨_, rfl⟩
  have HFX0 := hide (show Box w5 (h6) #[.slice A4 hl c4] 24 by rw [hw5, ← hh6]; have t := Box.new w4 #[.slice A4 hl c4] 24; (try simp only [World.size_alloc] at t); exact t)
  have E5 := hide (show Below w4.heap.size w4 w5 by rw [hw5]; exact ((Below.refl _ _).alloc (Nat.le_refl _) _))
  have w5s := E5.out.size
  have w5z := hide (show w5.heap.size = h6 + 1 by rw [hw5, ← hh6]; simp only [World.size_alloc])
  have HFK0 := hide (fun (W : World) (hW : Below w5.heap.size w5 W) => ((HFX0.out.below hW).cell 0 (v := .slice A4 hl c4) rfl).1)
  have lHFX0 := HFX0.out.lt
  have h6g : w4.heap.size ≤ h6 := by omega
  rw [← hw5, hh6]
  clear hw5 hh6
  have Dw1_w5 := hide (Dw1_w4.out.trans (E5.out.mono Dw1_w4.out.size))
  have Dw5_w5 := hide (Below.refl w5.heap.size w5)
  have HOWN := hide (fun (W : World) (hW : Below w5.heap.size w5 W) => ((HX4.out.below E5.out).below hW))
  have HUP := hide (fun (W : World) (hW : Below w1.heap.size w1 W) => HORG.out W (HB1.out.trans (hW.mono HB1.out.size)))
  clear p0 pa0 pa1
  have p0 := HK0.out w5 Dw1_w5.out
  obtain ⟨pa0, pa1⟩ := HK1.out w5 Dw1_w5.out
  have x0 := HFK0.out w5 Dw5_w5.out
  go_quiet (fail)
  obtain ⟨wd, hwd⟩ : ∃ W, W = w5.drewN nq := ⟨_, rfl⟩
  have Ed := hide (show Below w5.heap.size w5 wd by rw [hwd]; exact below_drewN (Below.refl _ _) nq)
  rw [← hwd]
  clear hwd
  have Dw1_wd := hide (Dw1_w5.out.trans (Ed.out.mono Dw1_w5.out.size))
  have Dw5_wd := hide (Dw5_w5.out.trans (Ed.out.mono Dw5_w5.out.size))
  clear p0 pa0 pa1 x0
  have p0 := HK0.out wd Dw1_wd.out
  obtain ⟨pa0, pa1⟩ := HK1.out wd Dw1_wd.out
  have x0 := HFK0.out wd Dw5_wd.out
  go_upto_region 8 with (go_at_call 16; (with_reducible refine (HS1.out _ wd (HOWN.out wd Dw5_wd.out)).mono ?_); rintro e w6 ⟨Aw6, cw6, rfl, hxw6, hbw6⟩; have HXw6 := hide hxw6; have Ew6 := hide hbw6; clear hxw6 hbw6)
  have Dw1_w6 := hide (Dw1_wd.out.trans (Ew6.out.mono Dw1_wd.out.size))
  have Dw5_w6 := hide (Dw5_wd.out.trans (Ew6.out.mono Dw5_wd.out.size))
  obtain ⟨w7, hw7⟩ : ∃ w7, w7 = w6.alloc (.cells #[.slice Aw6 sl cw6] 24) := ⟨_, rfl⟩
  obtain ⟨h7, hh7⟩ : ∃ h7, w6.heap.size = h7 := ⟨_, rfl⟩
  have HBw7x0 := hide (show Box w7 (h7) #[.slice Aw6 sl cw6] 24 by rw [hw7, ← hh7]; have t := Box.new w6 #[.slice Aw6 sl cw6] 24; (try simp only [World.size_alloc] at t); exact t)
  have Ew7 := hide (show Below w6.heap.size w6 w7 by rw [hw7]; exact ((Below.refl _ _).alloc (Nat.le_refl _) _))
  have w7s := Ew7.out.size
  have w7z := hide (show w7.heap.size = h7 + 1 by rw [hw7, ← hh7]; simp only [World.size_alloc])
  have HBw7k0 := hide (fun (W : World) (hW : Below w7.heap.size w7 W) => ((HBw7x0.out.below hW).cell 0 (v := .slice Aw6 sl cw6) rfl).1)
  have lHBw7x0 := HBw7x0.out.lt
  have h7g : w6.heap.size ≤ h7 := by omega
  rw [← hw7, hh7]
  clear hw7 hh7
  have Dw1_w7 := hide (Dw1_w6.out.trans (Ew7.out.mono Dw1_w6.out.size))
  have Dw5_w7 := hide (Dw5_w6.out.trans (Ew7.out.mono Dw5_w6.out.size))
  have Dw7_w7 := hide (Below.refl w7.heap.size w7)
  have HRw7 := hide (fun (W : World) (hW : Below w7.heap.size w7 W) => ((HXw6.out.below Ew7.out).below hW))
  clear p0 pa0 pa1 x0
  have p0 := HK0.out w7 Dw1_w7.out
  obtain ⟨pa0, pa1⟩ := HK1.out w7 Dw1_w7.out
  have x0 := HFK0.out w7 Dw5_w7.out
  have yw7 := HBw7k0.out w7 Dw7_w7.out
  go_upto_region 9 with (go_at_call 17; (with_reducible refine (HS2.out _ w7 (HUP.out w7 Dw1_w7.out)).mono ?_); rintro e w8 ⟨Aw8, cw8, rfl, hxw8, hbw8⟩; have HXw8 := hide hxw8; have Ew8 := hide hbw8; clear hxw8 hbw8)
  have Dw1_w8 := hide (Dw1_w7.out.trans (Ew8.out.mono Dw1_w7.out.size))
  have Dw5_w8 := hide (Dw5_w7.out.trans (Ew8.out.mono Dw5_w7.out.size))
  have Dw7_w8 := hide (Dw7_w7.out.trans (Ew8.out.mono Dw7_w7.out.size))
  obtain ⟨w9, hw9⟩ : ∃ w9, w9 = w8.alloc (.cells #[.slice Aw8 sl cw8] 24) := ⟨_, rfl⟩
  obtain ⟨h9, hh9⟩ : ∃ h9, w8.heap.size = h9 := ⟨_, rfl⟩
  have HBw9x0 := hide (show Box w9 (h9) #[.slice Aw8 sl cw8] 24 by rw [hw9, ← hh9]; have t := Box.new w8 #[.slice Aw8 sl cw8] 24; (try simp only [World.size_alloc] at t); exact t)
  have Ew9 := hide (show Below w8.heap.size w8 w9 by rw [hw9]; exact ((Below.refl _ _).alloc (Nat.le_refl _) _))
  have w9s := Ew9.out.size
  have w9z := hide (show w9.heap.size = h9 + 1 by rw [hw9, ← hh9]; simp only [World.size_alloc])
  have HBw9k0 := hide (fun (W : World) (hW : Below w9.heap.size w9 W) => ((HBw9x0.out.below hW).cell 0 (v := .slice Aw8 sl cw8) rfl).1)
  have lHBw9x0 := HBw9x0.out.lt
  have h9g : w8.heap.size ≤ h9 := by omega
  rw [← hw9, hh9]
  clear hw9 hh9
  have Dw1_w9 := hide (Dw1_w8.out.trans (Ew9.out.mono Dw1_w8.out.size))
  have Dw5_w9 := hide (Dw5_w8.out.trans (Ew9.out.mono Dw5_w8.out.size))
  have Dw7_w9 := hide (Dw7_w8.out.trans (Ew9.out.mono Dw7_w8.out.size))
  have Dw9_w9 := hide (Below.refl w9.heap.size w9)
  have HRw9 := hide (fun (W : World) (hW : Below w9.heap.size w9 W) => ((HXw8.out.below Ew9.out).below hW))
  clear p0 pa0 pa1 x0 yw7
  have p0 := HK0.out w9 Dw1_w9.out
  obtain ⟨pa0, pa1⟩ := HK1.out w9 Dw1_w9.out
  have x0 := HFK0.out w9 Dw5_w9.out
  have yw7 := HBw7k0.out w9 Dw7_w9.out
  have yw9 := HBw9k0.out w9 Dw9_w9.out
  go_upto_region 10 with (go_at_call 18; (with_reducible refine (HL1.out _ w9 (HOWN.out w9 Dw5_w9.out)).mono ?_); rintro e wa ⟨Awa, cwa, rfl, hxwa, hbwa⟩; have HXwa := hide hxwa; have Ewa := hide hbwa; clear hxwa hbwa)
  have Dw1_wa := hide (Dw1_w9.out.trans (Ewa.out.mono Dw1_w9.out.size))
  have Dw5_wa := hide (Dw5_w9.out.trans (Ewa.out.mono Dw5_w9.out.size))
  have Dw7_wa := hide (Dw7_w9.out.trans (Ewa.out.mono Dw7_w9.out.size))
  have Dw9_wa := hide (Dw9_w9.out.trans (Ewa.out.mono Dw9_w9.out.size))
  obtain ⟨wb, hwb⟩ : ∃ wb, wb = wa.alloc (.cells #[.slice Awa ll cwa] 24) := ⟨_, rfl⟩
  obtain ⟨ha, hha⟩ : ∃ ha, wa.heap.size = ha := ⟨_, rfl⟩
  have HBwbx0 := hide (show Box wb (ha) #[.slice Awa ll cwa] 24 by rw [hwb, ← hha]; have t := Box.new wa #[.slice Awa ll cwa] 24; (try simp only [World.size_alloc] at t); exact t)
  have Ewb := hide (show Below wa.heap.size wa wb by rw [hwb]; exact ((Below.refl _ _).alloc (Nat.le_refl _) _))
  have wbs := Ewb.out.size
  have wbz := hide (show wb.heap.size = ha + 1 by rw [hwb, ← hha]; simp only [World.size_alloc])
  have HBwbk0 := hide (fun (W : World) (hW : Below wb.heap.size wb W) => ((HBwbx0.out.below hW).cell 0 (v := .slice Awa ll cwa) rfl).1)
  have lHBwbx0 := HBwbx0.out.lt
  have hag : wa.heap.size ≤ ha := by omega
  rw [← hwb, hha]
  clear hwb hha
  have Dw1_wb := hide (Dw1_wa.out.trans (Ewb.out.mono Dw1_wa.out.size))
  have Dw5_wb := hide (Dw5_wa.out.trans (Ewb.out.mono Dw5_wa.out.size))
  have Dw7_wb := hide (Dw7_wa.out.trans (Ewb.out.mono Dw7_wa.out.size))
  have Dw9_wb := hide (Dw9_wa.out.trans (Ewb.out.mono Dw9_wa.out.size))
  have Dwb_wb := hide (Below.refl wb.heap.size wb)
  have HRwb := hide (fun (W : World) (hW : Below wb.heap.size wb W) => ((HXwa.out.below Ewb.out).below hW))
  clear p0 pa0 pa1 x0 yw7 yw9
  have p0 := HK0.out wb Dw1_wb.out
  obtain ⟨pa0, pa1⟩ := HK1.out wb Dw1_wb.out
  have x0 := HFK0.out wb Dw5_wb.out
  have yw7 := HBw7k0.out wb Dw7_wb.out
  have yw9 := HBw9k0.out wb Dw9_wb.out
  have ywb := HBwbk0.out wb Dwb_wb.out
  go_upto_region 11 with (go_at_call 19; (with_reducible refine (HL2.out _ wb (HUP.out wb Dw1_wb.out)).mono ?_); rintro e wc ⟨Awc, cwc, rfl, hxwc, hbwc⟩; have HXwc := hide hxwc; have Ewc := hide hbwc; clear hxwc hbwc)
  have Dw1_wc := hide (Dw1_wb.out.trans (Ewc.out.mono Dw1_wb.out.size))
  have Dw5_wc := hide (Dw5_wb.out.trans (Ewc.out.mono Dw5_wb.out.size))
  have Dw7_wc := hide (Dw7_wb.out.trans (Ewc.out.mono Dw7_wb.out.size))
  have Dw9_wc := hide (Dw9_wb.out.trans (Ewc.out.mono Dw9_wb.out.size))
  have Dwb_wc := hide (Dwb_wb.out.trans (Ewc.out.mono Dwb_wb.out.size))
  obtain ⟨we, hwe⟩ : ∃ we, we = wc.alloc (.cells #[.slice Awc ll cwc] 24) := ⟨_, rfl⟩
  obtain ⟨hc9, hhc9⟩ : ∃ hc9, wc.heap.size = hc9 := ⟨_, rfl⟩
  have HBwex0 := hide (show Box we (hc9) #[.slice Awc ll cwc] 24 by rw [hwe, ← hhc9]; have t := Box.new wc #[.slice Awc ll cwc] 24; (try simp only [World.size_alloc] at t); exact t)
  have Ewe := hide (show Below wc.heap.size wc we by rw [hwe]; exact ((Below.refl _ _).alloc (Nat.le_refl _) _))
  have wes := Ewe.out.size
  have wez := hide (show we.heap.size = hc9 + 1 by rw [hwe, ← hhc9]; simp only [World.size_alloc])
  have HBwek0 := hide (fun (W : World) (hW : Below we.heap.size we W) => ((HBwex0.out.below hW).cell 0 (v := .slice Awc ll cwc) rfl).1)
  have lHBwex0 := HBwex0.out.lt
  have hc9g : wc.heap.size ≤ hc9 := by omega
  rw [← hwe, hhc9]
  clear hwe hhc9
  have Dw1_we := hide (Dw1_wc.out.trans (Ewe.out.mono Dw1_wc.out.size))
  have Dw5_we := hide (Dw5_wc.out.trans (Ewe.out.mono Dw5_wc.out.size))
  have Dw7_we := hide (Dw7_wc.out.trans (Ewe.out.mono Dw7_wc.out.size))
  have Dw9_we := hide (Dw9_wc.out.trans (Ewe.out.mono Dw9_wc.out.size))
  have Dwb_we := hide (Dwb_wc.out.trans (Ewe.out.mono Dwb_wc.out.size))
  have Dwe_we := hide (Below.refl we.heap.size we)
  have HRwe := hide (fun (W : World) (hW : Below we.heap.size we W) => ((HXwc.out.below Ewe.out).below hW))
  clear p0 pa0 pa1 x0 yw7 yw9 ywb
  have p0 := HK0.out we Dw1_we.out
  obtain ⟨pa0, pa1⟩ := HK1.out we Dw1_we.out
  have x0 := HFK0.out we Dw5_we.out
  have yw7 := HBw7k0.out we Dw7_we.out
  have yw9 := HBw9k0.out we Dw9_we.out
  have ywb := HBwbk0.out we Dwb_we.out
  have ywe := HBwek0.out we Dwe_we.out
  go_upto_region 12 with (go_at_call 20; (with_reducible refine (HD1.out _ we (HOWN.out we Dw5_we.out)).mono ?_); rintro e wf ⟨rfl, hbwf⟩; have Ewf := hide hbwf; clear hbwf)
  have Dw1_wf := hide (Dw1_we.out.trans (Ewf.out.mono Dw1_we.out.size))
  have Dw5_wf := hide (Dw5_we.out.trans (Ewf.out.mono Dw5_we.out.size))
  have Dw7_wf := hide (Dw7_we.out.trans (Ewf.out.mono Dw7_we.out.size))
  have Dw9_wf := hide (Dw9_we.out.trans (Ewf.out.mono Dw9_we.out.size))
  have Dwb_wf := hide (Dwb_we.out.trans (Ewf.out.mono Dwb_we.out.size))
  have Dwe_wf := hide (Dwe_we.out.trans (Ewf.out.mono Dwe_we.out.size))
  clear p0 pa0 pa1 x0 yw7 yw9 ywb ywe
  have p0 := HK0.out wf Dw1_wf.out
  obtain ⟨pa0, pa1⟩ := HK1.out wf Dw1_wf.out
  have x0 := HFK0.out wf Dw5_wf.out
  have yw7 := HBw7k0.out wf Dw7_wf.out
  have yw9 := HBw9k0.out wf Dw9_wf.out
  have ywb := HBwbk0.out wf Dwb_wf.out
  have ywe := HBwek0.out wf Dwe_wf.out
  go_upto_region 13 with (go_at_call 21; (with_reducible refine (HD2.out _ wf (HUP.out wf Dw1_wf.out)).mono ?_); rintro e wg ⟨rfl, hbwg⟩; have Ewg := hide hbwg; clear hbwg)
  have Dw1_wg := hide (Dw1_wf.out.trans (Ewg.out.mono Dw1_wf.out.size))
  have Dw5_wg := hide (Dw5_wf.out.trans (Ewg.out.mono Dw5_wf.out.size))
  have Dw7_wg := hide (Dw7_wf.out.trans (Ewg.out.mono Dw7_wf.out.size))
  have Dw9_wg := hide (Dw9_wf.out.trans (Ewg.out.mono Dw9_wf.out.size))
  have Dwb_wg := hide (Dwb_wf.out.trans (Ewg.out.mono Dwb_wf.out.size))
  have Dwe_wg := hide (Dwe_wf.out.trans (Ewg.out.mono Dwe_wf.out.size))
  clear p0 pa0 pa1 x0 yw7 yw9 ywb ywe
  have p0 := HK0.out wg Dw1_wg.out
  obtain ⟨pa0, pa1⟩ := HK1.out wg Dw1_wg.out
  have x0 := HFK0.out wg Dw5_wg.out
  have yw7 := HBw7k0.out wg Dw7_wg.out
  have yw9 := HBw9k0.out wg Dw9_wg.out
  have ywb := HBwbk0.out wg Dwb_wg.out
  have ywe := HBwek0.out wg Dwe_wg.out
  go_upto_region 14 with (go_at_call 22; (with_reducible refine (HF1.out _ wg (HOWN.out wg Dw5_wg.out)).mono ?_); rintro e wh ⟨rfl, hbwh⟩; have Ewh := hide hbwh; clear hbwh)
  have Dw1_wh := hide (Dw1_wg.out.trans (Ewh.out.mono Dw1_wg.out.size))
  have Dw5_wh := hide (Dw5_wg.out.trans (Ewh.out.mono Dw5_wg.out.size))
  have Dw7_wh := hide (Dw7_wg.out.trans (Ewh.out.mono Dw7_wg.out.size))
  have Dw9_wh := hide (Dw9_wg.out.trans (Ewh.out.mono Dw9_wg.out.size))
  have Dwb_wh := hide (Dwb_wg.out.trans (Ewh.out.mono Dwb_wg.out.size))
  have Dwe_wh := hide (Dwe_wg.out.trans (Ewh.out.mono Dwe_wg.out.size))
  clear p0 pa0 pa1 x0 yw7 yw9 ywb ywe
  have p0 := HK0.out wh Dw1_wh.out
  obtain ⟨pa0, pa1⟩ := HK1.out wh Dw1_wh.out
  have x0 := HFK0.out wh Dw5_wh.out
  have yw7 := HBw7k0.out wh Dw7_wh.out
  have yw9 := HBw9k0.out wh Dw9_wh.out
  have ywb := HBwbk0.out wh Dwb_wh.out
  have ywe := HBwek0.out wh Dwe_wh.out
  go_upto_region 15 with (go_at_call 23; (with_reducible refine (HF2.out _ wh (HUP.out wh Dw1_wh.out)).mono ?_); rintro e wi ⟨rfl, hbwi⟩; have Ewi := hide hbwi; clear hbwi)
  have Dw1_wi := hide (Dw1_wh.out.trans (Ewi.out.mono Dw1_wh.out.size))
  have Dw5_wi := hide (Dw5_wh.out.trans (Ewi.out.mono Dw5_wh.out.size))
  have Dw7_wi := hide (Dw7_wh.out.trans (Ewi.out.mono Dw7_wh.out.size))
  have Dw9_wi := hide (Dw9_wh.out.trans (Ewi.out.mono Dw9_wh.out.size))
  have Dwb_wi := hide (Dwb_wh.out.trans (Ewi.out.mono Dwb_wh.out.size))
  have Dwe_wi := hide (Dwe_wh.out.trans (Ewi.out.mono Dwe_wh.out.size))
  clear p0 pa0 pa1 x0 yw7 yw9 ywb ywe
  have p0 := HK0.out wi Dw1_wi.out
  obtain ⟨pa0, pa1⟩ := HK1.out wi Dw1_wi.out
  have x0 := HFK0.out wi Dw5_wi.out
  have yw7 := HBw7k0.out wi Dw7_wi.out
  have yw9 := HBw9k0.out wi Dw9_wi.out
  have ywb := HBwbk0.out wi Dwb_wi.out
  have ywe := HBwek0.out wi Dwe_wi.out
  go_wp2_with (first
    | (go_at_call 10; (with_reducible refine (HSA.out _ _ _ wk (HOWN.out wk Dw5_wk.out) (HUP.out wk Dw1_wk.out)).mono ?_); rintro e wl ⟨rfl, hbwl⟩; have Dw1_wl := hide (Dw1_wk.out.trans (hbwl.mono Dw1_wk.out.size)); have Dw5_wl := hide (Dw5_wk.out.trans (hbwl.mono Dw5_wk.out.size)); have Dw7_wl := hide (Dw7_wk.out.trans (hbwl.mono Dw7_wk.out.size)); have Dw9_wl := hide (Dw9_wk.out.trans (hbwl.mono Dw9_wk.out.size)); have Dwb_wl := hide (Dwb_wk.out.trans (hbwl.mono Dwb_wk.out.size)); have Dwe_wl := hide (Dwe_wk.out.trans (hbwl.mono Dwe_wk.out.size)); have p0wl := HK0.out wl Dw1_wl.out; have x0wl := HFK0.out wl Dw5_wl.out; have yw7wl := HBw7k0.out wl Dw7_wl.out; have yw9wl := HBw9k0.out wl Dw9_wl.out; have ywbwl := HBwbk0.out wl Dwb_wl.out; have ywewl := HBwek0.out wl Dwe_wl.out; clear hbwl)
    | (go_at_call 10; (with_reducible refine (HSA.out _ _ _ wj (HRwb.out wj Dwb_wj.out) (HRwe.out wj Dwe_wj.out)).mono ?_); rintro e wk ⟨rfl, hbwk⟩; have Dw1_wk := hide (Dw1_wj.out.trans (hbwk.mono Dw1_wj.out.size)); have Dw5_wk := hide (Dw5_wj.out.trans (hbwk.mono Dw5_wj.out.size)); have Dw7_wk := hide (Dw7_wj.out.trans (hbwk.mono Dw7_wj.out.size)); have Dw9_wk := hide (Dw9_wj.out.trans (hbwk.mono Dw9_wj.out.size)); have Dwb_wk := hide (Dwb_wj.out.trans (hbwk.mono Dwb_wj.out.size)); have Dwe_wk := hide (Dwe_wj.out.trans (hbwk.mono Dwe_wj.out.size)); have p0wk := HK0.out wk Dw1_wk.out; have x0wk := HFK0.out wk Dw5_wk.out; have yw7wk := HBw7k0.out wk Dw7_wk.out; have yw9wk := HBw9k0.out wk Dw9_wk.out; have ywbwk := HBwbk0.out wk Dwb_wk.out; have ywewk := HBwek0.out wk Dwe_wk.out; clear hbwk)
    | (go_at_call 10; (with_reducible refine (HSA.out _ _ _ wi (HRw7.out wi Dw7_wi.out) (HRw9.out wi Dw9_wi.out)).mono ?_); rintro e wj ⟨rfl, hbwj⟩; have Dw1_wj := hide (Dw1_wi.out.trans (hbwj.mono Dw1_wi.out.size)); have Dw5_wj := hide (Dw5_wi.out.trans (hbwj.mono Dw5_wi.out.size)); have Dw7_wj := hide (Dw7_wi.out.trans (hbwj.mono Dw7_wi.out.size)); have Dw9_wj := hide (Dw9_wi.out.trans (hbwj.mono Dw9_wi.out.size)); have Dwb_wj := hide (Dwb_wi.out.trans (hbwj.mono Dwb_wi.out.size)); have Dwe_wj := hide (Dwe_wi.out.trans (hbwj.mono Dwe_wi.out.size)); have p0wj := HK0.out wj Dw1_wj.out; have x0wj := HFK0.out wj Dw5_wj.out; have yw7wj := HBw7k0.out wj Dw7_wj.out; have yw9wj := HBw9k0.out wj Dw9_wj.out; have ywbwj := HBwbk0.out wj Dwb_wj.out; have ywewj := HBwek0.out wj Dwe_wj.out; clear hbwj))
  go_ret
  exact ⟨by first | rfl | simp, HB1.out.trans (Dw1_wl.out.mono HB1.out.size)⟩
end Go.Proofs.Ytjlndibeaklcdaa
