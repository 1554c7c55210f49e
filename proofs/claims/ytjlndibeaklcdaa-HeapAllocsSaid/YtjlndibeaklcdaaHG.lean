/- Layer 9, the program: contracts of Store and Link. No condition but on lengths. -/
import Derived.Test.YtjlndibeaklcdaaHF
set_option linter.unusedSimpArgs false
set_option linter.unusedVariables false
namespace Go.Proofs.Ytjlndibeaklcdaa
open Go.RowKit

set_option maxHeartbeats 2000000 in
set_option maxRecDepth 100000 in
theorem hstore_any (vh : Value) (h : List ObjV) (obj n y : Int) (hy : i64R y) (w : World) (B : Nat) (hB : B ≤ w.heap.size) (hh : ObjsV w (· < B) vh h) (hmx : h.length ≤ 100000) :
    Calls Try.prog 16 #[.agg #[vh], .int .i64 obj, .int .i64 n, .int .i64 y] w fun e w' => ∃ vh', e = .returned (.tuple #[.agg #[vh'], .int .i64 (((storeR h obj n y).2 : Nat) : Int)]) ∧ ObjsV w' (· < w'.heap.size) vh' (storeR h obj n y).1 ∧ Below w.heap.size w w' := by
  have HSELF := hide (fun (W : World) (hW : Below w.heap.size w W) => hh.keep (S' := (· < W.heap.size)) (up hW hB) (fun b hb => by have := hW.size; omega))
  by_cases ha : atN h obj = 0
  case neg =>
    have hv : storeR h obj n y = (h, atN h obj) := by unfold storeR; rw [if_neg (fun e => ha (loadR_ok.1 e).1)]; unfold loadR; rw [if_neg ha]
    rw [hv]
    have HOB := hide (fun (W : World) (hW : Below w.heap.size w W) => hobj_no vh h obj W B (by have := hW.size; omega) (hh.keep (up hW hB) (fun _ h => h)) ha)
    obtain ⟨Ao, c, rfl, hc, hm⟩ := hh.open'
    have hE : (((atN h obj : Nat) : Int) != 0) = true := by simpa using ha
    have hE2 : (((atN h obj : Nat) : Int) == 0) = false := by simpa using ha
    generalize h.length = hl at *
    generalize ((atN h obj : Nat) : Int) = E at *
    clear hh ha hv
    go_enter Try.func16, Try.ntmps16
    go_upto_region 1 with (fail)
    obtain ⟨w1, hw1⟩ : ∃ w1, w1 = (w.alloc (.cells #[.slice Ao hl c] 24)).alloc (.cells #[.slice none 0 0] 24) := ⟨_, rfl⟩
    obtain ⟨h5, hh5⟩ : ∃ h5, w.heap.size = h5 := ⟨_, rfl⟩
    have HX0 := hide (show Box w1 (h5) #[.slice Ao hl c] 24 by rw [hw1, ← hh5]; have t := Box.new w #[.slice Ao hl c] 24; (try simp only [World.size_alloc] at t); exact (t.alloc _))
    have HX1 := hide (show Box w1 (h5 + 1) #[.slice none 0 0] 24 by rw [hw1, ← hh5]; have t := Box.new (w.alloc (.cells #[.slice Ao hl c] 24)) #[.slice none 0 0] 24; (try simp only [World.size_alloc] at t); exact t)
    have HB1 := hide (show Below w.heap.size w w1 by rw [hw1]; exact (((Below.refl _ _).alloc (Nat.le_refl _) _).alloc (by simp only [World.size_alloc]; omega) _))
    have w1s := HB1.out.size
    have w1z := hide (show w1.heap.size = h5 + 1 + 1 by rw [hw1, ← hh5]; simp only [World.size_alloc])
    have HK0 := hide (fun (W : World) (hW : Below w1.heap.size w1 W) => ((HX0.out.below hW).cell 0 (v := .slice Ao hl c) rfl).1)
    have lHX0 := HX0.out.lt
    have HK1 := hide (fun (W : World) (hW : Below w1.heap.size w1 W) => ((HX1.out.below hW).cell 0 (v := .slice none 0 0) rfl).1)
    have lHX1 := HX1.out.lt
    have h5g : w.heap.size ≤ h5 := by omega
    rw [← hw1, hh5]
    clear hw1 hh5
    have p0 := HK0.out w1 (Below.refl _ _)
    go_upto_region 2 with (go_at_call 31; (with_reducible refine (HOB.out w1 HB1.out).mono ?_); rintro e w2 ⟨rfl, hb2⟩; have HB2 := hide (HB1.out.trans (hb2.mono HB1.out.size)); have HC2 := hide hb2; have l2 := hb2.size; have p2 := HK0.out w2 hb2; clear hb2)
    obtain ⟨w3, hw3⟩ : ∃ w3, w3 = w2.alloc (.cells #[.slice none 0 0, .slice none 0 0] 43) := ⟨_, rfl⟩
    obtain ⟨h6, hh6⟩ : ∃ h6, w2.heap.size = h6 := ⟨_, rfl⟩
    have HFX0 := hide (show Box w3 (h6) #[.slice none 0 0, .slice none 0 0] 43 by rw [hw3, ← hh6]; have t := Box.new w2 #[.slice none 0 0, .slice none 0 0] 43; (try simp only [World.size_alloc] at t); exact t)
    have HB3 := hide (show Below w2.heap.size w2 w3 by rw [hw3]; exact ((Below.refl _ _).alloc (Nat.le_refl _) _))
    have w3s := HB3.out.size
    have w3z := hide (show w3.heap.size = h6 + 1 by rw [hw3, ← hh6]; simp only [World.size_alloc])
    have HFK0 := hide (fun (W : World) (hW : Below w3.heap.size w3 W) => (And.intro ((HFX0.out.below hW).cell 0 (v := .slice none 0 0) rfl).1 ((HFX0.out.below hW).cell 1 (v := .slice none 0 0) rfl).1))
    have lHFX0 := HFX0.out.lt
    have h6g : w2.heap.size ≤ h6 := by omega
    rw [← hw3, hh6]
    clear hw3 hh6
    have HC3 := hide (HC2.out.trans (HB3.out.mono HC2.out.size))
    have p3 := HK0.out w3 HC3.out
    obtain ⟨z0, f0⟩ := (HX1.out.below HC3.out).cell 0 (v := .slice none 0 0) rfl
    go_wp2
    have HZ := hide ((HX1.out.below HC3.out).set 0 (.slice Ao hl c))
    have q0 := (HZ.out.cell 0 (v := .slice Ao hl c) rfl).1
    have hbz : Below w.heap.size w (w3.setCell ⟨h5 + 1, 0, none⟩ (.slice Ao hl c)) := (HB1.out.trans (HC3.out.mono HB1.out.size)).setCell (p := ⟨h5 + 1, 0, none⟩) (by show w.heap.size ≤ h5 + 1; omega) _
    refine bodyPost_ret (v := .tuple #[.agg #[.slice Ao hl c], .int .i64 E]) (by simp [results, Try.results16, go_sem, q0]) rfl ⟨_, rfl, HSELF.out _ hbz, hbz⟩
  obtain ⟨hr, h1, h2⟩ := atN_zero.1 ha
  obtain ⟨k, rfl⟩ : ∃ k : Nat, obj = (k : Int) + 1 := ⟨(obj - 1).toNat, by omega⟩
  have hkl : k < h.length := by omega
  have HOB := hide (fun (W : World) (hW : Below w.heap.size w W) => hobj_yes vh h k W B (by have := hW.size; omega) (hh.keep (up hW hB) (fun _ h => h)) hr hkl (by omega))
  have HPU := hide (fun (o : ObjV) (vr vi : Value) (W : World) (S : Nat → Prop) (hW : Below w.heap.size w W) (hS : ∀ b, S b → b < W.heap.size) (hSB : ∀ b, b < B → S b) (ho : ObjI W S vr vi o) => hput_any vh h k o vr vi W S hS (hh.keep (up hW hB) hSB) hkl ho hmx)
  by_cases hn : 0 ≤ n ∧ n < (objO h ((k : Int) + 1)).ints.length
  case neg =>
    have hv : storeR h ((k : Int) + 1) n y = (h, 15) := by
      have hl : loadR h ((k : Int) + 1) n = (0, 15) := by unfold loadR; rw [if_pos ha]; unfold fldR; rw [if_neg hn]
      unfold storeR
      rw [hl, if_neg (by simp)]
    rw [hv]
    generalize objO h ((k : Int) + 1) = o at *
    have HWN := hide (fun (v : Value) (W : World) (hx : IntsV W (· < B) v o.ints) => hwith_no v o.ints n y W B hx hn)
    obtain ⟨Ao, c, rfl, hc, hm⟩ := hh.open'
    generalize h.length = hl at *
    clear hh hv hr h1 h2 ha HPU hn
    generalize o.refs.length = rl, o.ints.length = il at *
    go_enter Try.func16, Try.ntmps16
    go_upto_region 1 with (fail)
    obtain ⟨w1, hw1⟩ : ∃ w1, w1 = (w.alloc (.cells #[.slice Ao hl c] 24)).alloc (.cells #[.slice none 0 0] 24) := ⟨_, rfl⟩
    obtain ⟨h5, hh5⟩ : ∃ h5, w.heap.size = h5 := ⟨_, rfl⟩
    have HX0 := hide (show Box w1 (h5) #[.slice Ao hl c] 24 by rw [hw1, ← hh5]; have t := Box.new w #[.slice Ao hl c] 24; (try simp only [World.size_alloc] at t); exact (t.alloc _))
    have HX1 := hide (show Box w1 (h5 + 1) #[.slice none 0 0] 24 by rw [hw1, ← hh5]; have t := Box.new (w.alloc (.cells #[.slice Ao hl c] 24)) #[.slice none 0 0] 24; (try simp only [World.size_alloc] at t); exact t)
    have HB1 := hide (show Below w.heap.size w w1 by rw [hw1]; exact (((Below.refl _ _).alloc (Nat.le_refl _) _).alloc (by simp only [World.size_alloc]; omega) _))
    have w1s := HB1.out.size
    have w1z := hide (show w1.heap.size = h5 + 1 + 1 by rw [hw1, ← hh5]; simp only [World.size_alloc])
    have HK0 := hide (fun (W : World) (hW : Below w1.heap.size w1 W) => ((HX0.out.below hW).cell 0 (v := .slice Ao hl c) rfl).1)
    have lHX0 := HX0.out.lt
    have HK1 := hide (fun (W : World) (hW : Below w1.heap.size w1 W) => ((HX1.out.below hW).cell 0 (v := .slice none 0 0) rfl).1)
    have lHX1 := HX1.out.lt
    have h5g : w.heap.size ≤ h5 := by omega
    rw [← hw1, hh5]
    clear hw1 hh5
    have p0 := HK0.out w1 (Below.refl _ _)
    go_upto_region 2 with (go_at_call 31; (with_reducible refine (HOB.out w1 HB1.out).mono ?_); rintro e w2 ⟨Ar, cr, Ai, ci, rfl, hi2, hb2⟩; have HB2 := hide (HB1.out.trans (hb2.mono HB1.out.size)); have HC2 := hide hb2; have HI2 := hide hi2; have l2 := hb2.size; clear hb2 hi2)
    obtain ⟨w3, hw3⟩ : ∃ w3, w3 = w2.alloc (.cells #[.slice Ar rl cr, .slice Ai il ci] 43) := ⟨_, rfl⟩
    obtain ⟨h6, hh6⟩ : ∃ h6, w2.heap.size = h6 := ⟨_, rfl⟩
    have HFX0 := hide (show Box w3 (h6) #[.slice Ar rl cr, .slice Ai il ci] 43 by rw [hw3, ← hh6]; have t := Box.new w2 #[.slice Ar rl cr, .slice Ai il ci] 43; (try simp only [World.size_alloc] at t); exact t)
    have HB3 := hide (show Below w2.heap.size w2 w3 by rw [hw3]; exact ((Below.refl _ _).alloc (Nat.le_refl _) _))
    have w3s := HB3.out.size
    have w3z := hide (show w3.heap.size = h6 + 1 by rw [hw3, ← hh6]; simp only [World.size_alloc])
    have HFK0 := hide (fun (W : World) (hW : Below w3.heap.size w3 W) => (And.intro ((HFX0.out.below hW).cell 0 (v := .slice Ar rl cr) rfl).1 ((HFX0.out.below hW).cell 1 (v := .slice Ai il ci) rfl).1))
    have lHFX0 := HFX0.out.lt
    have h6g : w2.heap.size ≤ h6 := by omega
    rw [← hw3, hh6]
    clear hw3 hh6
    obtain ⟨c0, c1⟩ := HFK0.out w3 (Below.refl _ _)
    have HC3 := hide (HC2.out.trans (HB3.out.mono HC2.out.size))
    have p3 := HK0.out w3 HC3.out
    have HI3 := hide (ObjI.keep (w' := w3) HI2.out (Same'.of_below (HB3.out.mono (show B ≤ w2.heap.size by have := HB2.out.size; omega))) (fun _ h => h))
    have HI3s := hide HI3.out.2
    obtain ⟨d0, d1⟩ := HFX0.out.cell 1 (v := .slice Ai il ci) rfl
    go_wp2_with (go_at_call 32; (with_reducible refine (HWN.out _ w3 HI3s.out).mono ?_); rintro e w' ⟨rfl, rfl⟩; obtain ⟨z0, f0⟩ := ((HX1.out.below HC3.out).other (g := h6) (j := 1) (v := .slice none 0 0) (by omega)).cell 0 (v := .slice none 0 0) rfl; have pz := (((HX0.out.below HC3.out).other (g := h6) (j := 1) (v := .slice none 0 0) (by omega)).cell 0 (v := .slice Ao hl c) rfl).1)
    have HZ := hide (((HX1.out.below HC3.out).other (g := h6) (j := 1) (v := .slice none 0 0) (by omega)).set 0 (.slice Ao hl c))
    have q0 := (HZ.out.cell 0 (v := .slice Ao hl c) rfl).1
    have hbz : Below w.heap.size w ((w3.setCell ⟨h6, 1, none⟩ (.slice none 0 0)).setCell ⟨h5 + 1, 0, none⟩ (.slice Ao hl c)) := ((HB1.out.trans (HC3.out.mono HB1.out.size)).setCell (p := ⟨h6, 1, none⟩) (by show w.heap.size ≤ h6; omega) _).setCell (p := ⟨h5 + 1, 0, none⟩) (by show w.heap.size ≤ h5 + 1; omega) _
    refine bodyPost_ret (v := .tuple #[.agg #[.slice Ao hl c], .int .i64 15]) (by simp [results, Try.results16, go_sem, q0]) rfl ⟨_, rfl, HSELF.out _ hbz, hbz⟩
  obtain ⟨m, rfl⟩ : ∃ m : Nat, n = m := ⟨n.toNat, by omega⟩
  have hv : storeR h ((k : Int) + 1) (m : Int) y = (putN h ((k : Int) + 1) (m : Int) y, 0) := by
    have hl : (loadR h ((k : Int) + 1) (m : Int)).2 = 0 := loadR_ok.2 ⟨ha, hn⟩
    unfold storeR
    rw [if_pos hl]
  rw [hv]
  have hob8 := (rightB_iff.1 hr) _ (List.mem_of_getElem? (objO_get h1 h2))
  have hpt : putN h ((k : Int) + 1) (m : Int) y = h.set k ⟨(objO h ((k : Int) + 1)).refs, (objO h ((k : Int) + 1)).ints.set m y⟩ := by unfold putN; rw [show ((k : Int) + 1 - 1).toNat = k by omega, Int.toNat_natCast]
  rw [hpt]
  generalize objO h ((k : Int) + 1) = o at *
  have HWY := hide (fun (v : Value) (W : World) (hB : B ≤ W.heap.size) (hx : IntsV W (· < B) v o.ints) => hwith_yes v o.ints m y W B hB hx (by omega) hy (by omega))
  have HPU := hide (HPU.out ⟨o.refs, o.ints.set m y⟩)
  have hlen : (⟨o.refs, o.ints.set m y⟩ : ObjV).ints.length = o.ints.length := List.length_set
  obtain ⟨Ao, c, rfl, hc, hm⟩ := hh.open'
  generalize h.set k ⟨o.refs, o.ints.set m y⟩ = hnew at *
  generalize h.length = hl at *
  clear hh hv hr h1 h2 ha hn hpt hob8 hlen
  generalize o.refs.length = rl, o.ints.length = il at *
  go_enter Try.func16, Try.ntmps16
  go_upto_region 1 with (fail)
  obtain ⟨w1, hw1⟩ : ∃ w1, w1 = (w.alloc (.cells #[.slice Ao hl c] 24)).alloc (.cells #[.slice none 0 0] 24) := ⟨_, rfl⟩
  obtain ⟨h5, hh5⟩ : ∃ h5, w.heap.size = h5 := ⟨_, rfl⟩
  have HX0 := hide (show Box w1 (h5) #[.slice Ao hl c] 24 by rw [hw1, ← hh5]; have t := Box.new w #[.slice Ao hl c] 24; (try simp only [World.size_alloc] at t); exact (t.alloc _))
  have HX1 := hide (show Box w1 (h5 + 1) #[.slice none 0 0] 24 by rw [hw1, ← hh5]; have t := Box.new (w.alloc (.cells #[.slice Ao hl c] 24)) #[.slice none 0 0] 24; (try simp only [World.size_alloc] at t); exact t)
  have HB1 := hide (show Below w.heap.size w w1 by rw [hw1]; exact (((Below.refl _ _).alloc (Nat.le_refl _) _).alloc (by simp only [World.size_alloc]; omega) _))
  have w1s := HB1.out.size
  have w1z := hide (show w1.heap.size = h5 + 1 + 1 by rw [hw1, ← hh5]; simp only [World.size_alloc])
  have HK0 := hide (fun (W : World) (hW : Below w1.heap.size w1 W) => ((HX0.out.below hW).cell 0 (v := .slice Ao hl c) rfl).1)
  have lHX0 := HX0.out.lt
  have HK1 := hide (fun (W : World) (hW : Below w1.heap.size w1 W) => ((HX1.out.below hW).cell 0 (v := .slice none 0 0) rfl).1)
  have lHX1 := HX1.out.lt
  have h5g : w.heap.size ≤ h5 := by omega
  rw [← hw1, hh5]
  clear hw1 hh5
  have p0 := HK0.out w1 (Below.refl _ _)
  go_upto_region 2 with (go_at_call 31; (with_reducible refine (HOB.out w1 HB1.out).mono ?_); rintro e w2 ⟨Ar, cr, Ai, ci, rfl, hi2, hb2⟩; have HB2 := hide (HB1.out.trans (hb2.mono HB1.out.size)); have HC2 := hide hb2; have HI2 := hide hi2; have l2 := hb2.size; clear hb2 hi2)
  obtain ⟨w3, hw3⟩ : ∃ w3, w3 = w2.alloc (.cells #[.slice Ar rl cr, .slice Ai il ci] 43) := ⟨_, rfl⟩
  obtain ⟨h6, hh6⟩ : ∃ h6, w2.heap.size = h6 := ⟨_, rfl⟩
  have HFX0 := hide (show Box w3 (h6) #[.slice Ar rl cr, .slice Ai il ci] 43 by rw [hw3, ← hh6]; have t := Box.new w2 #[.slice Ar rl cr, .slice Ai il ci] 43; (try simp only [World.size_alloc] at t); exact t)
  have HB3 := hide (show Below w2.heap.size w2 w3 by rw [hw3]; exact ((Below.refl _ _).alloc (Nat.le_refl _) _))
  have w3s := HB3.out.size
  have w3z := hide (show w3.heap.size = h6 + 1 by rw [hw3, ← hh6]; simp only [World.size_alloc])
  have HFK0 := hide (fun (W : World) (hW : Below w3.heap.size w3 W) => (And.intro ((HFX0.out.below hW).cell 0 (v := .slice Ar rl cr) rfl).1 ((HFX0.out.below hW).cell 1 (v := .slice Ai il ci) rfl).1))
  have lHFX0 := HFX0.out.lt
  have h6g : w2.heap.size ≤ h6 := by omega
  rw [← hw3, hh6]
  clear hw3 hh6
  obtain ⟨c0, c1⟩ := HFK0.out w3 (Below.refl _ _)
  have HC3 := hide (HC2.out.trans (HB3.out.mono HC2.out.size))
  have p3 := HK0.out w3 HC3.out
  have HI3 := hide (ObjI.keep (w' := w3) HI2.out (Same'.of_below (HB3.out.mono (show B ≤ w2.heap.size by have := HB2.out.size; omega))) (fun _ h => h))
  have HI3s := hide HI3.out.2
  go_upto_region 5 with (first
    | (go_at_call 32; (with_reducible refine (HWY.out _ w3 (by have := HB2.out.size; omega) HI3s.out).mono ?_); rintro e w4 ⟨A4, c4, rfl, hi4, hb4⟩; have HF6 := hide (hb4); have HC6 := hide (HC3.out.trans (HF6.out.mono HC3.out.size)); have HI6 := hide hi4; have p6 := HK0.out w4 HC6.out; have HX6 := hide (HFX0.out.below HF6.out); obtain ⟨c0, c1⟩ := HFK0.out w4 HF6.out; have d0 := (HX6.out.cell 1 (v := .slice Ai il ci) rfl).2; have HIO := hide (ObjI.keep (w' := w4) HI3.out (Same'.of_below (HF6.out.mono (show B ≤ w3.heap.size by omega))) (fun _ h => h)); have l6 := HF6.out.size; clear hb4 hi4))
  have HX7 := hide (show Box (w4.setCell ⟨h6, 1, none⟩ (.slice A4 il c4)) h6 #[.slice Ar rl cr, .slice A4 il c4] 43 from HX6.out.set 1 (.slice A4 il c4))
  obtain ⟨w7, hw7⟩ : ∃ w7, w7 = w4.setCell ⟨h6, 1, none⟩ (.slice A4 il c4) := ⟨_, rfl⟩
  rw [← hw7] at HX7
  have HB7 := hide (show Below w.heap.size w w7 by rw [hw7]; exact (HB1.out.trans (HC6.out.mono HB1.out.size)).setCell (p := ⟨h6, 1, none⟩) (by show w.heap.size ≤ h6; omega) _)
  have HS7 := hide (show ∀ b o, b < w4.heap.size → b ≠ h6 → w7.cell? ⟨b, o, none⟩ = w4.cell? ⟨b, o, none⟩ by rw [hw7]; intro b o _ hne; exact World.cell?_setCell_far _ _ _ _ (by simpa using fun e => hne e.symm))
  have HY7 := hide (show Box w7 (h5 + 1) #[.slice none 0 0] 24 by rw [hw7]; exact (HX1.out.below HC6.out).other (by omega))
  have hz7 : w7.heap.size = w4.heap.size := by rw [hw7, World.size_setCell]
  have HIN := hide (show ObjI w7 (fun b => b < B ∨ Made w3 w4 b) (.slice Ar rl cr) (.slice A4 il c4) ⟨o.refs, o.ints.set m y⟩ from by
    have hm : ∀ b, Made w3 w4 b → b < w4.heap.size ∧ b ≠ h6 := fun b hb => ⟨hb.2, by have := hb.1; omega⟩
    have hk1 : Same' (Made w3 w4) w4 w7 := fun b o hb => HS7.out b o (hm b hb).1 (hm b hb).2
    have hk2 : Same' (· < B) w4 w7 := fun b o (hb : b < B) => HS7.out b o (by have := HB2.out.size; omega) (by have := HB2.out.size; omega)
    have ha := IntsV.keep (S' := fun b => b < B ∨ Made w3 w4 b) HI6.out hk1 (fun b hb => .inr hb)
    have hb := ObjI.keep (S' := fun b => b < B ∨ Made w3 w4 b) HIO.out hk2 (fun b hb => .inl hb)
    exact ⟨hb.1, ha⟩)
  have HSS := hide (show ∀ b, (b < B ∨ Made w3 w4 b) → b < w7.heap.size ∧ b ≠ h5 + 1 from fun b hb => by
    have h1 := HB2.out.size
    rcases hb with hb | hb
    · exact ⟨by omega, by omega⟩
    · exact ⟨by have := hb.2; omega, by have := hb.1; omega⟩)
  have p7 : w7.cell? ⟨h5, 0, none⟩ = some (.slice Ao hl c) := (HS7.out h5 0 (by omega) (by omega)).trans p6
  have c07 := (HX7.out.cell 0 (v := .slice Ar rl cr) rfl).1
  have c17 := (HX7.out.cell 1 (v := .slice A4 il c4) rfl).1
  have l7a : h5 < w7.heap.size := by omega
  have l7b : h6 < w7.heap.size := by omega
  rw [← hw7]
  clear hw7 c0 c1 p6 d0
  go_wp2_with (go_at_call 33; (with_reducible refine (HPU.out _ _ w7 _ HB7.out (fun b hb => (HSS.out b hb).1) (fun b hb => .inl hb) HIN.out).mono ?_); rintro e w8 ⟨A8, c8, rfl, ho8, hb8⟩; have HO8 := hide ho8; have HB8 := hide (HB7.out.trans (hb8.mono HB7.out.size)); have HY8 := hide (HY7.out.below hb8); obtain ⟨z0, f0⟩ := (HY7.out.below hb8).cell 0 (v := .slice none 0 0) rfl; have l8 := hb8.size; clear hb8 ho8)
  have HZ := hide (HY8.out.set 0 (.slice A8 hl c8))
  have q0 := (HZ.out.cell 0 (v := .slice A8 hl c8) rfl).1
  have hbz : Below w.heap.size w (w8.setCell ⟨h5 + 1, 0, none⟩ (.slice A8 hl c8)) := HB8.out.setCell (p := ⟨h5 + 1, 0, none⟩) (by show w.heap.size ≤ h5 + 1; omega) _
  refine bodyPost_ret (v := .tuple #[.agg #[.slice A8 hl c8], .int .i64 0]) (by simp [results, Try.results16, go_sem, q0]) rfl ⟨_, rfl, HO8.out.keep (fun b o hb => World.cell?_setCell_far _ _ _ _ ?_) (fun b hb => ?_), hbz⟩
  · rcases hb with hb | hb
    · have := (HSS.out b hb).2
      simpa using fun e => this e.symm
    · have := hb.1
      have : h5 + 1 ≠ b := by omega
      simpa using this
  · rw [World.size_setCell]
    rcases hb with hb | hb
    · have := (HSS.out b hb).1; omega
    · exact hb.2
set_option maxHeartbeats 2000000 in
set_option maxRecDepth 100000 in
theorem hlink_any (vh : Value) (h : List ObjV) (obj n t : Int) (hy : i64R t) (w : World) (B : Nat) (hB : B ≤ w.heap.size) (hh : ObjsV w (· < B) vh h) (hmx : h.length ≤ 100000) :
    Calls Try.prog 18 #[.agg #[vh], .int .i64 obj, .int .i64 n, .int .i64 t] w fun e w' => ∃ vh', e = .returned (.tuple #[.agg #[vh'], .int .i64 (((linkR h obj n t).2 : Nat) : Int)]) ∧ ObjsV w' (· < w'.heap.size) vh' (linkR h obj n t).1 ∧ Below w.heap.size w w' := by
  have HSELF := hide (fun (W : World) (hW : Below w.heap.size w W) => hh.keep (S' := (· < W.heap.size)) (up hW hB) (fun b hb => by have := hW.size; omega))
  by_cases ha : atN h obj = 0
  case neg =>
    have hv : linkR h obj n t = (h, atN h obj) := by unfold linkR; rw [if_neg ha]
    rw [hv]
    have HOB := hide (fun (W : World) (hW : Below w.heap.size w W) => hobj_no vh h obj W B (by have := hW.size; omega) (hh.keep (up hW hB) (fun _ h => h)) ha)
    obtain ⟨Ao, c, rfl, hc, hm⟩ := hh.open'
    have hE : (((atN h obj : Nat) : Int) != 0) = true := by simpa using ha
    have hE2 : (((atN h obj : Nat) : Int) == 0) = false := by simpa using ha
    generalize h.length = hl at *
    generalize ((atN h obj : Nat) : Int) = E at *
    clear hh ha hv
    go_enter Try.func18, Try.ntmps18
    go_upto_region 1 with (fail)
    obtain ⟨w1, hw1⟩ : ∃ w1, w1 = (w.alloc (.cells #[.slice Ao hl c] 24)).alloc (.cells #[.slice none 0 0] 24) := ⟨_, rfl⟩
    obtain ⟨h5, hh5⟩ : ∃ h5, w.heap.size = h5 := ⟨_, rfl⟩
    have HX0 := hide (show Box w1 (h5) #[.slice Ao hl c] 24 by rw [hw1, ← hh5]; have t := Box.new w #[.slice Ao hl c] 24; (try simp only [World.size_alloc] at t); exact (t.alloc _))
    have HX1 := hide (show Box w1 (h5 + 1) #[.slice none 0 0] 24 by rw [hw1, ← hh5]; have t := Box.new (w.alloc (.cells #[.slice Ao hl c] 24)) #[.slice none 0 0] 24; (try simp only [World.size_alloc] at t); exact t)
    have HB1 := hide (show Below w.heap.size w w1 by rw [hw1]; exact (((Below.refl _ _).alloc (Nat.le_refl _) _).alloc (by simp only [World.size_alloc]; omega) _))
    have w1s := HB1.out.size
    have w1z := hide (show w1.heap.size = h5 + 1 + 1 by rw [hw1, ← hh5]; simp only [World.size_alloc])
    have HK0 := hide (fun (W : World) (hW : Below w1.heap.size w1 W) => ((HX0.out.below hW).cell 0 (v := .slice Ao hl c) rfl).1)
    have lHX0 := HX0.out.lt
    have HK1 := hide (fun (W : World) (hW : Below w1.heap.size w1 W) => ((HX1.out.below hW).cell 0 (v := .slice none 0 0) rfl).1)
    have lHX1 := HX1.out.lt
    have h5g : w.heap.size ≤ h5 := by omega
    rw [← hw1, hh5]
    clear hw1 hh5
    have p0 := HK0.out w1 (Below.refl _ _)
    go_upto_region 2 with (go_at_call 31; (with_reducible refine (HOB.out w1 HB1.out).mono ?_); rintro e w2 ⟨rfl, hb2⟩; have HB2 := hide (HB1.out.trans (hb2.mono HB1.out.size)); have HC2 := hide hb2; have l2 := hb2.size; have p2 := HK0.out w2 hb2; clear hb2)
    obtain ⟨w3, hw3⟩ : ∃ w3, w3 = w2.alloc (.cells #[.slice none 0 0, .slice none 0 0] 43) := ⟨_, rfl⟩
    obtain ⟨h6, hh6⟩ : ∃ h6, w2.heap.size = h6 := ⟨_, rfl⟩
    have HFX0 := hide (show Box w3 (h6) #[.slice none 0 0, .slice none 0 0] 43 by rw [hw3, ← hh6]; have t := Box.new w2 #[.slice none 0 0, .slice none 0 0] 43; (try simp only [World.size_alloc] at t); exact t)
    have HB3 := hide (show Below w2.heap.size w2 w3 by rw [hw3]; exact ((Below.refl _ _).alloc (Nat.le_refl _) _))
    have w3s := HB3.out.size
    have w3z := hide (show w3.heap.size = h6 + 1 by rw [hw3, ← hh6]; simp only [World.size_alloc])
    have HFK0 := hide (fun (W : World) (hW : Below w3.heap.size w3 W) => (And.intro ((HFX0.out.below hW).cell 0 (v := .slice none 0 0) rfl).1 ((HFX0.out.below hW).cell 1 (v := .slice none 0 0) rfl).1))
    have lHFX0 := HFX0.out.lt
    have h6g : w2.heap.size ≤ h6 := by omega
    rw [← hw3, hh6]
    clear hw3 hh6
    have HC3 := hide (HC2.out.trans (HB3.out.mono HC2.out.size))
    have p3 := HK0.out w3 HC3.out
    obtain ⟨z0, f0⟩ := (HX1.out.below HC3.out).cell 0 (v := .slice none 0 0) rfl
    go_wp2
    have HZ := hide ((HX1.out.below HC3.out).set 0 (.slice Ao hl c))
    have q0 := (HZ.out.cell 0 (v := .slice Ao hl c) rfl).1
    have hbz : Below w.heap.size w (w3.setCell ⟨h5 + 1, 0, none⟩ (.slice Ao hl c)) := (HB1.out.trans (HC3.out.mono HB1.out.size)).setCell (p := ⟨h5 + 1, 0, none⟩) (by show w.heap.size ≤ h5 + 1; omega) _
    refine bodyPost_ret (v := .tuple #[.agg #[.slice Ao hl c], .int .i64 E]) (by simp [results, Try.results18, go_sem, q0]) rfl ⟨_, rfl, HSELF.out _ hbz, hbz⟩
  obtain ⟨hr, h1, h2⟩ := atN_zero.1 ha
  obtain ⟨k, rfl⟩ : ∃ k : Nat, obj = (k : Int) + 1 := ⟨(obj - 1).toNat, by omega⟩
  have hkl : k < h.length := by omega
  have HOB := hide (fun (W : World) (hW : Below w.heap.size w W) => hobj_yes vh h k W B (by have := hW.size; omega) (hh.keep (up hW hB) (fun _ h => h)) hr hkl (by omega))
  have HPU := hide (fun (o : ObjV) (vr vi : Value) (W : World) (S : Nat → Prop) (hW : Below w.heap.size w W) (hS : ∀ b, S b → b < W.heap.size) (hSB : ∀ b, b < B → S b) (ho : ObjI W S vr vi o) => hput_any vh h k o vr vi W S hS (hh.keep (up hW hB) hSB) hkl ho hmx)
  have HNW := hide (fun (Ao : Option Addr) (hl c : Nat) W => hnow_any Ao hl c W)
  by_cases hrf : rfB h.length t = true
  case neg =>
    have hv : linkR h ((k : Int) + 1) n t = (h, 1) := by unfold linkR; rw [if_pos ha, if_neg hrf]
    rw [hv]
    have hrf' := Bool.eq_false_iff.2 hrf
    generalize objO h ((k : Int) + 1) = o at *
    obtain ⟨Ao, c, rfl, hc, hm⟩ := hh.open'
    generalize h.length = hl at *
    have HN1 := hide (fun (hb : Nat) (W : World) (hx : Box W hb #[.slice Ao hl c] 24) => (show Calls Try.prog 37 #[.int .i64 t, .pointer (some ⟨hb, 0, none⟩)] W fun e w' => e = .returned (.bool true) ∧ Below W.heap.size W w' by have u := hnow1_any Ao hl c t hb W hx; rw [hrf'] at u; exact u))
    generalize o.refs.length = rl, o.ints.length = il at *
    clear hh hv hr h1 h2 hrf hrf' ha HPU
    go_enter Try.func18, Try.ntmps18
    go_upto_region 1 with (fail)
    obtain ⟨w1, hw1⟩ : ∃ w1, w1 = (w.alloc (.cells #[.slice Ao hl c] 24)).alloc (.cells #[.slice none 0 0] 24) := ⟨_, rfl⟩
    obtain ⟨h5, hh5⟩ : ∃ h5, w.heap.size = h5 := ⟨_, rfl⟩
    have HX0 := hide (show Box w1 (h5) #[.slice Ao hl c] 24 by rw [hw1, ← hh5]; have t := Box.new w #[.slice Ao hl c] 24; (try simp only [World.size_alloc] at t); exact (t.alloc _))
    have HX1 := hide (show Box w1 (h5 + 1) #[.slice none 0 0] 24 by rw [hw1, ← hh5]; have t := Box.new (w.alloc (.cells #[.slice Ao hl c] 24)) #[.slice none 0 0] 24; (try simp only [World.size_alloc] at t); exact t)
    have HB1 := hide (show Below w.heap.size w w1 by rw [hw1]; exact (((Below.refl _ _).alloc (Nat.le_refl _) _).alloc (by simp only [World.size_alloc]; omega) _))
    have w1s := HB1.out.size
    have w1z := hide (show w1.heap.size = h5 + 1 + 1 by rw [hw1, ← hh5]; simp only [World.size_alloc])
    have HK0 := hide (fun (W : World) (hW : Below w1.heap.size w1 W) => ((HX0.out.below hW).cell 0 (v := .slice Ao hl c) rfl).1)
    have lHX0 := HX0.out.lt
    have HK1 := hide (fun (W : World) (hW : Below w1.heap.size w1 W) => ((HX1.out.below hW).cell 0 (v := .slice none 0 0) rfl).1)
    have lHX1 := HX1.out.lt
    have h5g : w.heap.size ≤ h5 := by omega
    rw [← hw1, hh5]
    clear hw1 hh5
    have p0 := HK0.out w1 (Below.refl _ _)
    go_upto_region 2 with (go_at_call 31; (with_reducible refine (HOB.out w1 HB1.out).mono ?_); rintro e w2 ⟨Ar, cr, Ai, ci, rfl, hi2, hb2⟩; have HB2 := hide (HB1.out.trans (hb2.mono HB1.out.size)); have HC2 := hide hb2; have HI2 := hide hi2; have l2 := hb2.size; clear hb2 hi2)
    obtain ⟨w3, hw3⟩ : ∃ w3, w3 = w2.alloc (.cells #[.slice Ar rl cr, .slice Ai il ci] 43) := ⟨_, rfl⟩
    obtain ⟨h6, hh6⟩ : ∃ h6, w2.heap.size = h6 := ⟨_, rfl⟩
    have HFX0 := hide (show Box w3 (h6) #[.slice Ar rl cr, .slice Ai il ci] 43 by rw [hw3, ← hh6]; have t := Box.new w2 #[.slice Ar rl cr, .slice Ai il ci] 43; (try simp only [World.size_alloc] at t); exact t)
    have HB3 := hide (show Below w2.heap.size w2 w3 by rw [hw3]; exact ((Below.refl _ _).alloc (Nat.le_refl _) _))
    have w3s := HB3.out.size
    have w3z := hide (show w3.heap.size = h6 + 1 by rw [hw3, ← hh6]; simp only [World.size_alloc])
    have HFK0 := hide (fun (W : World) (hW : Below w3.heap.size w3 W) => (And.intro ((HFX0.out.below hW).cell 0 (v := .slice Ar rl cr) rfl).1 ((HFX0.out.below hW).cell 1 (v := .slice Ai il ci) rfl).1))
    have lHFX0 := HFX0.out.lt
    have h6g : w2.heap.size ≤ h6 := by omega
    rw [← hw3, hh6]
    clear hw3 hh6
    obtain ⟨c0, c1⟩ := HFK0.out w3 (Below.refl _ _)
    have HC3 := hide (HC2.out.trans (HB3.out.mono HC2.out.size))
    have p3 := HK0.out w3 HC3.out
    go_wp2_with (first
      | (go_at_call 37; (with_reducible refine (HN1.out hb w4 HBX4.out).mono ?_); rintro e w5 ⟨rfl, hb5⟩; have HC5 := hide (HC4.out.trans (hb5.mono HC4.out.size)); obtain ⟨z0, f0⟩ := (HX1.out.below HC5.out).cell 0 (v := .slice none 0 0) rfl; have p5 := HK0.out w5 HC5.out; have l5 := hb5.size; clear hb5 p4)
      | (go_at_call 26; (with_reducible refine (HNW.out Ao hl c w3).mono ?_); rintro e w4 ⟨hb, rfl, hbl, hbx, hb4⟩; have HC4 := hide (HC3.out.trans (hb4.mono HC3.out.size)); have p4 := HK0.out w4 HC4.out; have HBX4 := hide hbx; have l4 := hb4.size; clear hb4 hbx p3))
    have HZ := hide ((HX1.out.below HC5.out).set 0 (.slice Ao hl c))
    have q0 := (HZ.out.cell 0 (v := .slice Ao hl c) rfl).1
    have hbz : Below w.heap.size w (w5.setCell ⟨h5 + 1, 0, none⟩ (.slice Ao hl c)) := (HB1.out.trans (HC5.out.mono HB1.out.size)).setCell (p := ⟨h5 + 1, 0, none⟩) (by show w.heap.size ≤ h5 + 1; omega) _
    refine bodyPost_ret (v := .tuple #[.agg #[.slice Ao hl c], .int .i64 1]) (by simp [results, Try.results18, go_sem, q0]) rfl ⟨_, rfl, HSELF.out _ hbz, hbz⟩
  by_cases hn : 0 ≤ n ∧ n < (objO h ((k : Int) + 1)).refs.length
  case neg =>
    have hv : linkR h ((k : Int) + 1) n t = (h, 15) := by
      have hl : refR h ((k : Int) + 1) n = (0, 15) := by unfold refR; rw [if_pos ha]; unfold fldR; rw [if_neg hn]
      unfold linkR
      rw [if_pos ha, if_pos hrf, hl, if_neg (by simp)]
    rw [hv]
    generalize objO h ((k : Int) + 1) = o at *
    have HWN := hide (fun (v : Value) (W : World) (hx : IntsV W (· < B) v o.refs) => hwith_no v o.refs n t W B hx hn)
    obtain ⟨Ao, c, rfl, hc, hm⟩ := hh.open'
    generalize h.length = hl at *
    have HN1 := hide (fun (hb : Nat) (W : World) (hx : Box W hb #[.slice Ao hl c] 24) => (show Calls Try.prog 37 #[.int .i64 t, .pointer (some ⟨hb, 0, none⟩)] W fun e w' => e = .returned (.bool false) ∧ Below W.heap.size W w' by have u := hnow1_any Ao hl c t hb W hx; rw [hrf] at u; exact u))
    clear hh hv hr h1 h2 ha HPU hn hrf
    generalize o.refs.length = rl, o.ints.length = il at *
    go_enter Try.func18, Try.ntmps18
    go_upto_region 1 with (fail)
    obtain ⟨w1, hw1⟩ : ∃ w1, w1 = (w.alloc (.cells #[.slice Ao hl c] 24)).alloc (.cells #[.slice none 0 0] 24) := ⟨_, rfl⟩
    obtain ⟨h5, hh5⟩ : ∃ h5, w.heap.size = h5 := ⟨_, rfl⟩
    have HX0 := hide (show Box w1 (h5) #[.slice Ao hl c] 24 by rw [hw1, ← hh5]; have t := Box.new w #[.slice Ao hl c] 24; (try simp only [World.size_alloc] at t); exact (t.alloc _))
    have HX1 := hide (show Box w1 (h5 + 1) #[.slice none 0 0] 24 by rw [hw1, ← hh5]; have t := Box.new (w.alloc (.cells #[.slice Ao hl c] 24)) #[.slice none 0 0] 24; (try simp only [World.size_alloc] at t); exact t)
    have HB1 := hide (show Below w.heap.size w w1 by rw [hw1]; exact (((Below.refl _ _).alloc (Nat.le_refl _) _).alloc (by simp only [World.size_alloc]; omega) _))
    have w1s := HB1.out.size
    have w1z := hide (show w1.heap.size = h5 + 1 + 1 by rw [hw1, ← hh5]; simp only [World.size_alloc])
    have HK0 := hide (fun (W : World) (hW : Below w1.heap.size w1 W) => ((HX0.out.below hW).cell 0 (v := .slice Ao hl c) rfl).1)
    have lHX0 := HX0.out.lt
    have HK1 := hide (fun (W : World) (hW : Below w1.heap.size w1 W) => ((HX1.out.below hW).cell 0 (v := .slice none 0 0) rfl).1)
    have lHX1 := HX1.out.lt
    have h5g : w.heap.size ≤ h5 := by omega
    rw [← hw1, hh5]
    clear hw1 hh5
    have p0 := HK0.out w1 (Below.refl _ _)
    go_upto_region 2 with (go_at_call 31; (with_reducible refine (HOB.out w1 HB1.out).mono ?_); rintro e w2 ⟨Ar, cr, Ai, ci, rfl, hi2, hb2⟩; have HB2 := hide (HB1.out.trans (hb2.mono HB1.out.size)); have HC2 := hide hb2; have HI2 := hide hi2; have l2 := hb2.size; clear hb2 hi2)
    obtain ⟨w3, hw3⟩ : ∃ w3, w3 = w2.alloc (.cells #[.slice Ar rl cr, .slice Ai il ci] 43) := ⟨_, rfl⟩
    obtain ⟨h6, hh6⟩ : ∃ h6, w2.heap.size = h6 := ⟨_, rfl⟩
    have HFX0 := hide (show Box w3 (h6) #[.slice Ar rl cr, .slice Ai il ci] 43 by rw [hw3, ← hh6]; have t := Box.new w2 #[.slice Ar rl cr, .slice Ai il ci] 43; (try simp only [World.size_alloc] at t); exact t)
    have HB3 := hide (show Below w2.heap.size w2 w3 by rw [hw3]; exact ((Below.refl _ _).alloc (Nat.le_refl _) _))
    have w3s := HB3.out.size
    have w3z := hide (show w3.heap.size = h6 + 1 by rw [hw3, ← hh6]; simp only [World.size_alloc])
    have HFK0 := hide (fun (W : World) (hW : Below w3.heap.size w3 W) => (And.intro ((HFX0.out.below hW).cell 0 (v := .slice Ar rl cr) rfl).1 ((HFX0.out.below hW).cell 1 (v := .slice Ai il ci) rfl).1))
    have lHFX0 := HFX0.out.lt
    have h6g : w2.heap.size ≤ h6 := by omega
    rw [← hw3, hh6]
    clear hw3 hh6
    obtain ⟨c0, c1⟩ := HFK0.out w3 (Below.refl _ _)
    have HC3 := hide (HC2.out.trans (HB3.out.mono HC2.out.size))
    have p3 := HK0.out w3 HC3.out
    have HI3 := hide (ObjI.keep (w' := w3) HI2.out (Same'.of_below (HB3.out.mono (show B ≤ w2.heap.size by have := HB2.out.size; omega))) (fun _ h => h))
    have HI3s := hide HI3.out.1
    go_wp2_with (first
      | (go_at_call 32; (with_reducible refine (HWN.out _ w5 HI5s.out).mono ?_); rintro e w' ⟨rfl, rfl⟩; obtain ⟨z0, f0⟩ := ((HX1.out.below HC5.out).other (g := h6) (j := 0) (v := .slice none 0 0) (by omega)).cell 0 (v := .slice none 0 0) rfl; have pz := (((HX0.out.below HC5.out).other (g := h6) (j := 0) (v := .slice none 0 0) (by omega)).cell 0 (v := .slice Ao hl c) rfl).1)
      | (go_at_call 37; (with_reducible refine (HN1.out hb w4 HBX4.out).mono ?_); rintro e w5 ⟨rfl, hb5⟩; have HF5 := hide (HF4.out.trans (hb5.mono HF4.out.size)); have HC5 := hide (HC3.out.trans (HF5.out.mono HC3.out.size)); obtain ⟨c0, c1⟩ := HFK0.out w5 HF5.out; have p5 := HK0.out w5 HC5.out; obtain ⟨d0, d1⟩ := (HFX0.out.below HF5.out).cell 0 (v := .slice Ar rl cr) rfl; have HI5s := hide (IntsV.keep (w' := w5) HI3s.out (Same'.of_below (HF5.out.mono (show B ≤ w3.heap.size by omega))) (fun _ h => h)); have l5 := HF5.out.size; clear hb5 p4)
      | (go_at_call 26; (with_reducible refine (HNW.out Ao hl c w3).mono ?_); rintro e w4 ⟨hb, rfl, hbl, hbx, hb4⟩; have HF4 := hide hb4; have p4 := HK0.out w4 (HC3.out.trans (hb4.mono HC3.out.size)); have HBX4 := hide hbx; have l4 := hb4.size; clear hb4 hbx p3))
    have HZ := hide (((HX1.out.below HC5.out).other (g := h6) (j := 0) (v := .slice none 0 0) (by omega)).set 0 (.slice Ao hl c))
    have q0 := (HZ.out.cell 0 (v := .slice Ao hl c) rfl).1
    have hbz : Below w.heap.size w ((w5.setCell ⟨h6, 0, none⟩ (.slice none 0 0)).setCell ⟨h5 + 1, 0, none⟩ (.slice Ao hl c)) := ((HB1.out.trans (HC5.out.mono HB1.out.size)).setCell (p := ⟨h6, 0, none⟩) (by show w.heap.size ≤ h6; omega) _).setCell (p := ⟨h5 + 1, 0, none⟩) (by show w.heap.size ≤ h5 + 1; omega) _
    refine bodyPost_ret (v := .tuple #[.agg #[.slice Ao hl c], .int .i64 15]) (by simp [results, Try.results18, go_sem, q0]) rfl ⟨_, rfl, HSELF.out _ hbz, hbz⟩
  obtain ⟨m, rfl⟩ : ∃ m : Nat, n = m := ⟨n.toNat, by omega⟩
  have hv : linkR h ((k : Int) + 1) (m : Int) t = (putR h ((k : Int) + 1) (m : Int) t, 0) := by
    have hl : (refR h ((k : Int) + 1) (m : Int)).2 = 0 := refR_ok.2 ⟨ha, hn⟩
    unfold linkR
    rw [if_pos ha, if_pos hrf, if_pos hl]
  rw [hv]
  have hob8 := (rightB_iff.1 hr) _ (List.mem_of_getElem? (objO_get h1 h2))
  have hpt : putR h ((k : Int) + 1) (m : Int) t = h.set k ⟨(objO h ((k : Int) + 1)).refs.set m t, (objO h ((k : Int) + 1)).ints⟩ := by unfold putR; rw [show ((k : Int) + 1 - 1).toNat = k by omega, Int.toNat_natCast]
  rw [hpt]
  generalize objO h ((k : Int) + 1) = o at *
  have HWY := hide (fun (v : Value) (W : World) (hB : B ≤ W.heap.size) (hx : IntsV W (· < B) v o.refs) => hwith_yes v o.refs m t W B hB hx (by omega) hy (by omega))
  have HPU := hide (HPU.out ⟨o.refs.set m t, o.ints⟩)
  have hlen : (⟨o.refs.set m t, o.ints⟩ : ObjV).refs.length = o.refs.length := List.length_set
  obtain ⟨Ao, c, rfl, hc, hm⟩ := hh.open'
  generalize h.set k ⟨o.refs.set m t, o.ints⟩ = hnew at *
  generalize h.length = hl at *
  have HN1 := hide (fun (hb : Nat) (W : World) (hx : Box W hb #[.slice Ao hl c] 24) => (show Calls Try.prog 37 #[.int .i64 t, .pointer (some ⟨hb, 0, none⟩)] W fun e w' => e = .returned (.bool false) ∧ Below W.heap.size W w' by have u := hnow1_any Ao hl c t hb W hx; rw [hrf] at u; exact u))
  clear hh hv hr h1 h2 ha hn hpt hob8 hlen hrf
  generalize o.refs.length = rl, o.ints.length = il at *
  go_enter Try.func18, Try.ntmps18
  go_upto_region 1 with (fail)
  obtain ⟨w1, hw1⟩ : ∃ w1, w1 = (w.alloc (.cells #[.slice Ao hl c] 24)).alloc (.cells #[.slice none 0 0] 24) := ⟨_, rfl⟩
  obtain ⟨h5, hh5⟩ : ∃ h5, w.heap.size = h5 := ⟨_, rfl⟩
  have HX0 := hide (show Box w1 (h5) #[.slice Ao hl c] 24 by rw [hw1, ← hh5]; have t := Box.new w #[.slice Ao hl c] 24; (try simp only [World.size_alloc] at t); exact (t.alloc _))
  have HX1 := hide (show Box w1 (h5 + 1) #[.slice none 0 0] 24 by rw [hw1, ← hh5]; have t := Box.new (w.alloc (.cells #[.slice Ao hl c] 24)) #[.slice none 0 0] 24; (try simp only [World.size_alloc] at t); exact t)
  have HB1 := hide (show Below w.heap.size w w1 by rw [hw1]; exact (((Below.refl _ _).alloc (Nat.le_refl _) _).alloc (by simp only [World.size_alloc]; omega) _))
  have w1s := HB1.out.size
  have w1z := hide (show w1.heap.size = h5 + 1 + 1 by rw [hw1, ← hh5]; simp only [World.size_alloc])
  have HK0 := hide (fun (W : World) (hW : Below w1.heap.size w1 W) => ((HX0.out.below hW).cell 0 (v := .slice Ao hl c) rfl).1)
  have lHX0 := HX0.out.lt
  have HK1 := hide (fun (W : World) (hW : Below w1.heap.size w1 W) => ((HX1.out.below hW).cell 0 (v := .slice none 0 0) rfl).1)
  have lHX1 := HX1.out.lt
  have h5g : w.heap.size ≤ h5 := by omega
  rw [← hw1, hh5]
  clear hw1 hh5
  have p0 := HK0.out w1 (Below.refl _ _)
  go_upto_region 2 with (go_at_call 31; (with_reducible refine (HOB.out w1 HB1.out).mono ?_); rintro e w2 ⟨Ar, cr, Ai, ci, rfl, hi2, hb2⟩; have HB2 := hide (HB1.out.trans (hb2.mono HB1.out.size)); have HC2 := hide hb2; have HI2 := hide hi2; have l2 := hb2.size; clear hb2 hi2)
  obtain ⟨w3, hw3⟩ : ∃ w3, w3 = w2.alloc (.cells #[.slice Ar rl cr, .slice Ai il ci] 43) := ⟨_, rfl⟩
  obtain ⟨h6, hh6⟩ : ∃ h6, w2.heap.size = h6 := ⟨_, rfl⟩
  have HFX0 := hide (show Box w3 (h6) #[.slice Ar rl cr, .slice Ai il ci] 43 by rw [hw3, ← hh6]; have t := Box.new w2 #[.slice Ar rl cr, .slice Ai il ci] 43; (try simp only [World.size_alloc] at t); exact t)
  have HB3 := hide (show Below w2.heap.size w2 w3 by rw [hw3]; exact ((Below.refl _ _).alloc (Nat.le_refl _) _))
  have w3s := HB3.out.size
  have w3z := hide (show w3.heap.size = h6 + 1 by rw [hw3, ← hh6]; simp only [World.size_alloc])
  have HFK0 := hide (fun (W : World) (hW : Below w3.heap.size w3 W) => (And.intro ((HFX0.out.below hW).cell 0 (v := .slice Ar rl cr) rfl).1 ((HFX0.out.below hW).cell 1 (v := .slice Ai il ci) rfl).1))
  have lHFX0 := HFX0.out.lt
  have h6g : w2.heap.size ≤ h6 := by omega
  rw [← hw3, hh6]
  clear hw3 hh6
  obtain ⟨c0, c1⟩ := HFK0.out w3 (Below.refl _ _)
  have HC3 := hide (HC2.out.trans (HB3.out.mono HC2.out.size))
  have p3 := HK0.out w3 HC3.out
  have HI3 := hide (ObjI.keep (w' := w3) HI2.out (Same'.of_below (HB3.out.mono (show B ≤ w2.heap.size by have := HB2.out.size; omega))) (fun _ h => h))
  have HI3s := hide HI3.out.1
  go_upto_region 7 with (first
    | (go_at_call 32; (with_reducible refine (HWY.out _ w5 (by have := HB2.out.size; omega) HI5s.out).mono ?_); rintro e w6 ⟨A4, c4, rfl, hi4, hb4⟩; have HF6 := hide (HF5.out.trans (hb4.mono HF5.out.size)); have HC6 := hide (HC3.out.trans (HF6.out.mono HC3.out.size)); have HI6 := hide hi4; have p6 := HK0.out w6 HC6.out; have HX6 := hide (HFX0.out.below HF6.out); obtain ⟨c0, c1⟩ := HFK0.out w6 HF6.out; have d0 := (HX6.out.cell 0 (v := .slice Ar rl cr) rfl).2; have HIO := hide (ObjI.keep (w' := w6) HI3.out (Same'.of_below (HF6.out.mono (show B ≤ w3.heap.size by omega))) (fun _ h => h)); have l6 := HF6.out.size; clear hb4 hi4)
    | (go_at_call 37; (with_reducible refine (HN1.out hb w4 HBX4.out).mono ?_); rintro e w5 ⟨rfl, hb5⟩; have HF5 := hide (HF4.out.trans (hb5.mono HF4.out.size)); have HC5 := hide (HC3.out.trans (HF5.out.mono HC3.out.size)); obtain ⟨c0, c1⟩ := HFK0.out w5 HF5.out; have p5 := HK0.out w5 HC5.out; obtain ⟨d0, d1⟩ := (HFX0.out.below HF5.out).cell 0 (v := .slice Ar rl cr) rfl; have HI5s := hide (IntsV.keep (w' := w5) HI3s.out (Same'.of_below (HF5.out.mono (show B ≤ w3.heap.size by omega))) (fun _ h => h)); have l5 := HF5.out.size; clear hb5 p4)
    | (go_at_call 26; (with_reducible refine (HNW.out Ao hl c w3).mono ?_); rintro e w4 ⟨hb, rfl, hbl, hbx, hb4⟩; have HF4 := hide hb4; have p4 := HK0.out w4 (HC3.out.trans (hb4.mono HC3.out.size)); have HBX4 := hide hbx; have l4 := hb4.size; clear hb4 hbx p3))
  have HX7 := hide (show Box (w6.setCell ⟨h6, 0, none⟩ (.slice A4 rl c4)) h6 #[.slice A4 rl c4, .slice Ai il ci] 43 from HX6.out.set 0 (.slice A4 rl c4))
  obtain ⟨w7, hw7⟩ : ∃ w7, w7 = w6.setCell ⟨h6, 0, none⟩ (.slice A4 rl c4) := ⟨_, rfl⟩
  rw [← hw7] at HX7
  have HB7 := hide (show Below w.heap.size w w7 by rw [hw7]; exact (HB1.out.trans (HC6.out.mono HB1.out.size)).setCell (p := ⟨h6, 0, none⟩) (by show w.heap.size ≤ h6; omega) _)
  have HS7 := hide (show ∀ b o, b < w6.heap.size → b ≠ h6 → w7.cell? ⟨b, o, none⟩ = w6.cell? ⟨b, o, none⟩ by rw [hw7]; intro b o _ hne; exact World.cell?_setCell_far _ _ _ _ (by simpa using fun e => hne e.symm))
  have HY7 := hide (show Box w7 (h5 + 1) #[.slice none 0 0] 24 by rw [hw7]; exact (HX1.out.below HC6.out).other (by omega))
  have hz7 : w7.heap.size = w6.heap.size := by rw [hw7, World.size_setCell]
  have HIN := hide (show ObjI w7 (fun b => b < B ∨ Made w5 w6 b) (.slice A4 rl c4) (.slice Ai il ci) ⟨o.refs.set m t, o.ints⟩ from by
    have hm : ∀ b, Made w5 w6 b → b < w6.heap.size ∧ b ≠ h6 := fun b hb => ⟨hb.2, by have := hb.1; omega⟩
    have hk1 : Same' (Made w5 w6) w6 w7 := fun b o hb => HS7.out b o (hm b hb).1 (hm b hb).2
    have hk2 : Same' (· < B) w6 w7 := fun b o (hb : b < B) => HS7.out b o (by have := HB2.out.size; omega) (by have := HB2.out.size; omega)
    have ha := IntsV.keep (S' := fun b => b < B ∨ Made w5 w6 b) HI6.out hk1 (fun b hb => .inr hb)
    have hb := ObjI.keep (S' := fun b => b < B ∨ Made w5 w6 b) HIO.out hk2 (fun b hb => .inl hb)
    exact ⟨ha, hb.2⟩)
  have HSS := hide (show ∀ b, (b < B ∨ Made w5 w6 b) → b < w7.heap.size ∧ b ≠ h5 + 1 from fun b hb => by
    have h1 := HB2.out.size
    rcases hb with hb | hb
    · exact ⟨by omega, by omega⟩
    · exact ⟨by have := hb.2; omega, by have := hb.1; omega⟩)
  have p7 : w7.cell? ⟨h5, 0, none⟩ = some (.slice Ao hl c) := (HS7.out h5 0 (by omega) (by omega)).trans p6
  have c07 := (HX7.out.cell 0 (v := .slice A4 rl c4) rfl).1
  have c17 := (HX7.out.cell 1 (v := .slice Ai il ci) rfl).1
  have l7a : h5 < w7.heap.size := by omega
  have l7b : h6 < w7.heap.size := by omega
  rw [← hw7]
  clear hw7 c0 c1 p6 d0
  go_wp2_with (go_at_call 33; (with_reducible refine (HPU.out _ _ w7 _ HB7.out (fun b hb => (HSS.out b hb).1) (fun b hb => .inl hb) HIN.out).mono ?_); rintro e w8 ⟨A8, c8, rfl, ho8, hb8⟩; have HO8 := hide ho8; have HB8 := hide (HB7.out.trans (hb8.mono HB7.out.size)); have HY8 := hide (HY7.out.below hb8); obtain ⟨z0, f0⟩ := (HY7.out.below hb8).cell 0 (v := .slice none 0 0) rfl; have l8 := hb8.size; clear hb8 ho8)
  have HZ := hide (HY8.out.set 0 (.slice A8 hl c8))
  have q0 := (HZ.out.cell 0 (v := .slice A8 hl c8) rfl).1
  have hbz : Below w.heap.size w (w8.setCell ⟨h5 + 1, 0, none⟩ (.slice A8 hl c8)) := HB8.out.setCell (p := ⟨h5 + 1, 0, none⟩) (by show w.heap.size ≤ h5 + 1; omega) _
  refine bodyPost_ret (v := .tuple #[.agg #[.slice A8 hl c8], .int .i64 0]) (by simp [results, Try.results18, go_sem, q0]) rfl ⟨_, rfl, HO8.out.keep (fun b o hb => World.cell?_setCell_far _ _ _ _ ?_) (fun b hb => ?_), hbz⟩
  · rcases hb with hb | hb
    · have := (HSS.out b hb).2
      simpa using fun e => this e.symm
    · have := hb.1
      have : h5 + 1 ≠ b := by omega
      simpa using this
  · rw [World.size_setCell]
    rcases hb with hb | hb
    · have := (HSS.out b hb).1; omega
    · exact hb.2
end Go.Proofs.Ytjlndibeaklcdaa
