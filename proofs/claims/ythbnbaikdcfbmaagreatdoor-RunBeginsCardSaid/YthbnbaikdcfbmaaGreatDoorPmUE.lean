/- Layer 9's object, Store, Link, Alloc, once more: what they answer lies in the blocks that the heap lay in, or in new ones. No condition but on lengths. -/
import Derived.Test.YthbnbaikdcfbmaaGreatDoorPmUD
set_option linter.unusedSimpArgs false
set_option linter.unusedVariables false
set_option maxHeartbeats 2000000
set_option maxRecDepth 100000
namespace Go.Proofs.YthbnbaikdcfbmaaGreatDoor
open Go.RowKit
theorem jl4 (vh : Value) (h : List ObjV) (k : Nat) (w : World) (S : Nat -> Prop) (hS : ∀ b, S b -> b < w.heap.size) (hh : ObjsV w S vh h) (hr : jap h = true) (hk : k < h.length) (hmx : h.length <= 1000000) :
  Calls Tryz.prog 140 #[.agg #[vh], .int .i64 ((k : Int) + 1)] w fun e w' => ∃ Ar cr Ai ci, e = .returned (.tuple #[.agg #[.slice Ar (objO h ((k : Int) + 1)).refs.length cr, .slice Ai (objO h ((k : Int) + 1)).ints.length ci], .int .i64 0]) /\ ObjI w' S (.slice Ar (objO h ((k : Int) + 1)).refs.length cr) (.slice Ai (objO h ((k : Int) + 1)).ints.length ci) (objO h ((k : Int) + 1)) /\ Below w.heap.size w w' := by
 have HK := hide (fun (W : World) (hW : Below w.heap.size w W) => hh.keep (upS hW hS) (fun _ h => h))
 have HRT := hide (fun (W : World) (hW : Below w.heap.size w W) => (show Calls Tryz.prog 17 #[.agg #[vh]] W fun e w' => e = .returned (.bool true) /\ Below W.heap.size W w' by have t := jd7 vh h W w.heap.size hW.size (hh.keep (S' := (· < w.heap.size)) (upS hW hS) hS); rw [hr] at t; exact t))
 obtain ⟨o, ho⟩ : ∃ o, h[k]? = some o := ⟨_, List.getElem?_eq_getElem hk⟩
 have hob : objO h ((k : Int) + 1) = o := by unfold objO; rw [show ((k : Int) + 1 - 1).toNat = k by omega, ho]; rfl
 rw [hob]
 obtain ⟨Ao, c, rfl, hc, hm⟩ := hh.open'
 obtain ⟨n, hn⟩ := zl h.length
 have HTH := hide (fun W => (show Calls Tryz.prog 43 #[.agg #[.slice Ao n c], .int .i64 ((k : Int) + 1)] W fun e w' => e = .returned (.bool true) /\ Below W.heap.size W w' by have t := jeb Ao n c ((k : Int) + 1) W; rw [show thB n ((k : Int) + 1) = true by unfold thB; simp; omega] at t; exact t))
 rw [hn] at HK HRT hc hk hmx
 rw [hn]
 obtain ⟨bg, og, Ar, cr, Ai, ci, hAo, hbgb, ⟨e0, e1⟩, hi⟩ := hh.get ho
 subst hAo
 have hbs : bg < w.heap.size := hS _ hbgb
 have HI := hide (fun (W : World) (hW : Below w.heap.size w W) => hi.keep (upS hW hS) (fun _ h => h))
 have HE := hide (fun (W : World) (hW : Below w.heap.size w W) => And.intro ((hW.cell (p := ⟨bg, og + k * 2, none⟩) hbs).trans e0) ((hW.cell (p := ⟨bg, og + k * 2 + 1, none⟩) hbs).trans e1))
 clear hh hn hob hi ho e0 e1 hr
 generalize o.refs.length = rl, o.ints.length = il at *
 have hp1 := jj6 k (by omega)
 have hkz : (((k : Int) + 1) == 0) = false := by simp; omega
 have hki : (0 : Int) <= (k : Int) := by omega
 have hkl : (k : Int) < (n : Int) := by omega
 go_enter Tryz.func140, Tryz.ntmps140
 go_upto_region 1 with (fail)
 obtain ⟨w1, hw1⟩ := zr ((w.alloc (.cells #[.slice (some ⟨bg, og, none⟩) n c] 31)).alloc (.cells #[.slice none 0 0, .slice none 0 0] 70))
 obtain ⟨h5, hh5⟩ := zl w.heap.size
 have HX0 := zy2 hw1 hh5
 have HX1 := zx2 hw1 hh5
 have HB1 := zb2 hw1
 have w1s := HB1.out.size
 have w1z := zs2 hw1 hh5
 have HK0 := zk1 HX0
 have lHX0 := HX0.out.lt
 have HK1 := zk2 HX1
 have lHX1 := HX1.out.lt
 have h5g : w.heap.size <= h5 := by omega
 rw [<- hw1, hh5]
 clear hw1 hh5
 have p0 := HK0.out w1 (Below.refl _ _)
 go_wp2_with (first
  | (go_at_call 43; (with_reducible refine (HTH.out w2).mono ?_); rintro e w3 ⟨rfl, hb3⟩; have HC3 := hide (HC2.out.trans (hb3.mono HC2.out.size)); have HB3 := hide (HB1.out.trans (HC3.out.mono HB1.out.size)); obtain ⟨q0, q1⟩ := HE.out w3 HB3.out; have p3 := HK0.out w3 HC3.out; obtain ⟨z0, f0⟩ := (HX1.out.below HC3.out).cell 0 (v := .slice none 0 0) rfl; obtain ⟨z1, f1⟩ := (HX1.out.below HC3.out).cell 1 (v := .slice none 0 0) rfl; have l3 := HC3.out.size; clear hb3 p2)
  | (go_at_call 17; (with_reducible refine (HRT.out w1 HB1.out).mono ?_); rintro e w2 ⟨rfl, hb2⟩; have HC2 := hide hb2; have p2 := HK0.out w2 hb2; have l2 := hb2.size; clear hb2 p0))
 have HZ := hide (((HX1.out.below HC3.out).set 0 (.slice Ar rl cr)).set 1 (.slice Ai il ci))
 have y0 := (HZ.out.cell 0 (v := .slice Ar rl cr) rfl).1
 have y1 := (HZ.out.cell 1 (v := .slice Ai il ci) rfl).1
 refine bodyPost_ret (v := .tuple #[.agg #[.slice Ar rl cr, .slice Ai il ci], .int .i64 0]) (by simp [results, Tryz.results140, go_sem, y0, y1]) rfl ⟨Ar, cr, Ai, ci, rfl, HI.out _ ?_, ?_⟩
 all_goals exact (HB3.out.setCell (p := ⟨h5 + 1, 0, none⟩) (by show w.heap.size <= h5 + 1; omega) _).setCell (p := ⟨h5 + 1, 1, none⟩) (by show w.heap.size <= h5 + 1; omega) _
theorem jh3 (vh : Value) (h : List ObjV) (obj n y : Int) (hy : i64R y) (w : World) (S : Nat -> Prop) (hS : ∀ b, S b -> b < w.heap.size) (hh : ObjsV w S vh h) (hmx : h.length <= 100000) :
  Calls Tryz.prog 107 #[.agg #[vh], .int .i64 obj, .int .i64 n, .int .i64 y] w fun e w' => ∃ vh', e = .returned (.tuple #[.agg #[vh'], .int .i64 (((jb6 h obj n y).2 : Nat) : Int)]) /\ ObjsV w' (fun b => S b \/ Made w w' b) vh' (jb6 h obj n y).1 /\ Below w.heap.size w w' := by
 have HSELF := hide (fun (W : World) (hW : Below w.heap.size w W) => hh.keep (S' := fun b => S b \/ Made w W b) (upS hW hS) (fun b hb => .inl hb))
 by_cases ha : atN h obj = 0
 case neg =>
  have hv : jb6 h obj n y = (h, atN h obj) := by unfold jb6; rw [if_neg (fun e => ha (loadR_ok.1 e).1)]; unfold jbb; rw [if_neg ha]
  rw [hv]
  have HOB := hide (fun (W : World) (hW : Below w.heap.size w W) => jj7 vh h obj W w.heap.size hW.size (hh.keep (S' := (· < w.heap.size)) (upS hW hS) hS) ha)
  obtain ⟨Ao, c, rfl, hc, hm⟩ := hh.open'
  have hE : (((atN h obj : Nat) : Int) != 0) = true := by simpa using ha
  have hE2 : (((atN h obj : Nat) : Int) == 0) = false := by simpa using ha
  generalize h.length = hl at *
  generalize ((atN h obj : Nat) : Int) = E at *
  clear hh ha hv
  go_enter Tryz.func107, Tryz.ntmps107
  go_upto_region 1 with (fail)
  obtain ⟨w1, hw1⟩ := zr ((w.alloc (.cells #[.slice Ao hl c] 31)).alloc (.cells #[.slice none 0 0] 31))
  obtain ⟨h5, hh5⟩ := zl w.heap.size
  have HX0 := zy2 hw1 hh5
  have HX1 := zx2 hw1 hh5
  have HB1 := zb2 hw1
  have w1s := HB1.out.size
  have w1z := zs2 hw1 hh5
  have HK0 := zk1 HX0
  have lHX0 := HX0.out.lt
  have HK1 := zk1 HX1
  have lHX1 := HX1.out.lt
  have h5g : w.heap.size <= h5 := by omega
  rw [<- hw1, hh5]
  clear hw1 hh5
  have p0 := HK0.out w1 (Below.refl _ _)
  go_upto_region 2 with (go_at_call 140; (with_reducible refine (HOB.out w1 HB1.out).mono ?_); rintro e w2 ⟨rfl, hb2⟩; have HB2 := hide (HB1.out.trans (hb2.mono HB1.out.size)); have HC2 := hide hb2; have l2 := hb2.size; have p2 := HK0.out w2 hb2; clear hb2)
  obtain ⟨w3, hw3⟩ := zr (w2.alloc (.cells #[.slice none 0 0, .slice none 0 0] 70))
  obtain ⟨h6, hh6⟩ := zl w2.heap.size
  have HFX0 := zx1 hw3 hh6
  have HB3 := zb1 hw3
  have w3s := HB3.out.size
  have w3z := zs1 hw3 hh6
  have HFK0 := zk2 HFX0
  have lHFX0 := HFX0.out.lt
  have h6g : w2.heap.size <= h6 := by omega
  rw [<- hw3, hh6]
  clear hw3 hh6
  have HC3 := hide (HC2.out.trans (HB3.out.mono HC2.out.size))
  have p3 := HK0.out w3 HC3.out
  obtain ⟨z0, f0⟩ := (HX1.out.below HC3.out).cell 0 (v := .slice none 0 0) rfl
  go_wp2
  have HZ := hide ((HX1.out.below HC3.out).set 0 (.slice Ao hl c))
  have q0 := (HZ.out.cell 0 (v := .slice Ao hl c) rfl).1
  have hbz : Below w.heap.size w (w3.setCell ⟨h5 + 1, 0, none⟩ (.slice Ao hl c)) := (HB1.out.trans (HC3.out.mono HB1.out.size)).setCell (p := ⟨h5 + 1, 0, none⟩) (by show w.heap.size <= h5 + 1; omega) _
  refine bodyPost_ret (v := .tuple #[.agg #[.slice Ao hl c], .int .i64 E]) (by simp [results, Tryz.results107, go_sem, q0]) rfl ⟨_, rfl, HSELF.out _ hbz, hbz⟩
 obtain ⟨hr, h1, h2⟩ := atN_zero.1 ha
 obtain ⟨k, rfl⟩ : ∃ k : Nat, obj = (k : Int) + 1 := ⟨(obj - 1).toNat, by omega⟩
 have hkl : k < h.length := by omega
 have HOB := hide (fun (W : World) (hW : Below w.heap.size w W) => jl4 vh h k W S (fun b hb => Nat.lt_of_lt_of_le (hS b hb) hW.size) (hh.keep (upS hW hS) (fun _ h => h)) hr hkl (by omega))
 have HPU := hide (fun (o : ObjV) (vr vi : Value) (W : World) (T : Nat -> Prop) (hW : Below w.heap.size w W) (hT : ∀ b, T b -> b < W.heap.size) (hST : ∀ b, S b -> T b) (ho : ObjI W T vr vi o) => jnl vh h k o vr vi W T hT (hh.keep (upS hW hS) hST) hkl ho hmx)
 by_cases hn : 0 <= n /\ n < (objO h ((k : Int) + 1)).ints.length
 case neg =>
  have hv : jb6 h ((k : Int) + 1) n y = (h, 15) := by
   have hl : jbb h ((k : Int) + 1) n = (0, 15) := by unfold jbb; rw [if_pos ha]; unfold fldR; rw [if_neg hn]
   unfold jb6
   rw [hl, if_neg (by simp)]
  rw [hv]
  generalize objO h ((k : Int) + 1) = o at *
  have HWN := hide (fun (v : Value) (W : World) (hx : IntsV W S v o.ints) => jnk v o.ints n y W w.heap.size (IntsV.keep hx (fun _ _ _ => rfl) hS) hn)
  obtain ⟨Ao, c, rfl, hc, hm⟩ := hh.open'
  generalize h.length = hl at *
  clear hh hv hr h1 h2 ha HPU hn
  generalize o.refs.length = rl, o.ints.length = il at *
  go_enter Tryz.func107, Tryz.ntmps107
  go_upto_region 1 with (fail)
  obtain ⟨w1, hw1⟩ := zr ((w.alloc (.cells #[.slice Ao hl c] 31)).alloc (.cells #[.slice none 0 0] 31))
  obtain ⟨h5, hh5⟩ := zl w.heap.size
  have HX0 := zy2 hw1 hh5
  have HX1 := zx2 hw1 hh5
  have HB1 := zb2 hw1
  have w1s := HB1.out.size
  have w1z := zs2 hw1 hh5
  have HK0 := zk1 HX0
  have lHX0 := HX0.out.lt
  have HK1 := zk1 HX1
  have lHX1 := HX1.out.lt
  have h5g : w.heap.size <= h5 := by omega
  rw [<- hw1, hh5]
  clear hw1 hh5
  have p0 := HK0.out w1 (Below.refl _ _)
  go_upto_region 2 with (go_at_call 140; (with_reducible refine (HOB.out w1 HB1.out).mono ?_); rintro e w2 ⟨Ar, cr, Ai, ci, rfl, hi2, hb2⟩; have HB2 := hide (HB1.out.trans (hb2.mono HB1.out.size)); have HC2 := hide hb2; have HI2 := hide hi2; have l2 := hb2.size; clear hb2 hi2)
  obtain ⟨w3, hw3⟩ := zr (w2.alloc (.cells #[.slice Ar rl cr, .slice Ai il ci] 70))
  obtain ⟨h6, hh6⟩ := zl w2.heap.size
  have HFX0 := zx1 hw3 hh6
  have HB3 := zb1 hw3
  have w3s := HB3.out.size
  have w3z := zs1 hw3 hh6
  have HFK0 := zk2 HFX0
  have lHFX0 := HFX0.out.lt
  have h6g : w2.heap.size <= h6 := by omega
  rw [<- hw3, hh6]
  clear hw3 hh6
  obtain ⟨c0, c1⟩ := HFK0.out w3 (Below.refl _ _)
  have HC3 := hide (HC2.out.trans (HB3.out.mono HC2.out.size))
  have p3 := HK0.out w3 HC3.out
  have HI3 := hide (ObjI.keep (w' := w3) HI2.out (upS HB3.out (fun b hb => Nat.lt_of_lt_of_le (hS b hb) HB2.out.size)) (fun _ h => h))
  have HI3s := hide HI3.out.2
  obtain ⟨d0, d1⟩ := HFX0.out.cell 1 (v := .slice Ai il ci) rfl
  go_wp2_with (go_at_call 141; (with_reducible refine (HWN.out _ w3 HI3s.out).mono ?_); rintro e w' ⟨rfl, rfl⟩; obtain ⟨z0, f0⟩ := ((HX1.out.below HC3.out).other (g := h6) (j := 1) (v := .slice none 0 0) (by omega)).cell 0 (v := .slice none 0 0) rfl; have pz := (((HX0.out.below HC3.out).other (g := h6) (j := 1) (v := .slice none 0 0) (by omega)).cell 0 (v := .slice Ao hl c) rfl).1)
  have HZ := hide (((HX1.out.below HC3.out).other (g := h6) (j := 1) (v := .slice none 0 0) (by omega)).set 0 (.slice Ao hl c))
  have q0 := (HZ.out.cell 0 (v := .slice Ao hl c) rfl).1
  have hbz : Below w.heap.size w ((w3.setCell ⟨h6, 1, none⟩ (.slice none 0 0)).setCell ⟨h5 + 1, 0, none⟩ (.slice Ao hl c)) := ((HB1.out.trans (HC3.out.mono HB1.out.size)).setCell (p := ⟨h6, 1, none⟩) (by show w.heap.size <= h6; omega) _).setCell (p := ⟨h5 + 1, 0, none⟩) (by show w.heap.size <= h5 + 1; omega) _
  refine bodyPost_ret (v := .tuple #[.agg #[.slice Ao hl c], .int .i64 15]) (by simp [results, Tryz.results107, go_sem, q0]) rfl ⟨_, rfl, HSELF.out _ hbz, hbz⟩
 obtain ⟨m, rfl⟩ : ∃ m : Nat, n = m := ⟨n.toNat, by omega⟩
 have hv : jb6 h ((k : Int) + 1) (m : Int) y = (putN h ((k : Int) + 1) (m : Int) y, 0) := by
  have hl : (jbb h ((k : Int) + 1) (m : Int)).2 = 0 := loadR_ok.2 ⟨ha, hn⟩
  unfold jb6
  rw [if_pos hl]
 rw [hv]
 have hob8 := (rightB_iff.1 hr) _ (List.mem_of_getElem? (jj0 h1 h2))
 have hpt : putN h ((k : Int) + 1) (m : Int) y = h.set k ⟨(objO h ((k : Int) + 1)).refs, (objO h ((k : Int) + 1)).ints.set m y⟩ := by unfold putN; rw [show ((k : Int) + 1 - 1).toNat = k by omega, Int.toNat_natCast]
 rw [hpt]
 generalize objO h ((k : Int) + 1) = o at *
 have HWY := hide (fun (v : Value) (W : World) (hB : w.heap.size <= W.heap.size) (hx : IntsV W S v o.ints) => jl2 v o.ints m y W w.heap.size hB (IntsV.keep hx (fun _ _ _ => rfl) hS) (by omega) hy (by omega))
 have HPU := hide (HPU.out ⟨o.refs, o.ints.set m y⟩)
 have hlen : (⟨o.refs, o.ints.set m y⟩ : ObjV).ints.length = o.ints.length := List.length_set
 obtain ⟨Ao, c, rfl, hc, hm⟩ := hh.open'
 generalize h.set k ⟨o.refs, o.ints.set m y⟩ = hnew at *
 generalize h.length = hl at *
 clear hh hv hr h1 h2 ha hn hpt hob8 hlen
 generalize o.refs.length = rl, o.ints.length = il at *
 go_enter Tryz.func107, Tryz.ntmps107
 go_upto_region 1 with (fail)
 obtain ⟨w1, hw1⟩ := zr ((w.alloc (.cells #[.slice Ao hl c] 31)).alloc (.cells #[.slice none 0 0] 31))
 obtain ⟨h5, hh5⟩ := zl w.heap.size
 have HX0 := zy2 hw1 hh5
 have HX1 := zx2 hw1 hh5
 have HB1 := zb2 hw1
 have w1s := HB1.out.size
 have w1z := zs2 hw1 hh5
 have HK0 := zk1 HX0
 have lHX0 := HX0.out.lt
 have HK1 := zk1 HX1
 have lHX1 := HX1.out.lt
 have h5g : w.heap.size <= h5 := by omega
 rw [<- hw1, hh5]
 clear hw1 hh5
 have p0 := HK0.out w1 (Below.refl _ _)
 go_upto_region 2 with (go_at_call 140; (with_reducible refine (HOB.out w1 HB1.out).mono ?_); rintro e w2 ⟨Ar, cr, Ai, ci, rfl, hi2, hb2⟩; have HB2 := hide (HB1.out.trans (hb2.mono HB1.out.size)); have HC2 := hide hb2; have HI2 := hide hi2; have l2 := hb2.size; clear hb2 hi2)
 obtain ⟨w3, hw3⟩ := zr (w2.alloc (.cells #[.slice Ar rl cr, .slice Ai il ci] 70))
 obtain ⟨h6, hh6⟩ := zl w2.heap.size
 have HFX0 := zx1 hw3 hh6
 have HB3 := zb1 hw3
 have w3s := HB3.out.size
 have w3z := zs1 hw3 hh6
 have HFK0 := zk2 HFX0
 have lHFX0 := HFX0.out.lt
 have h6g : w2.heap.size <= h6 := by omega
 rw [<- hw3, hh6]
 clear hw3 hh6
 obtain ⟨c0, c1⟩ := HFK0.out w3 (Below.refl _ _)
 have HC3 := hide (HC2.out.trans (HB3.out.mono HC2.out.size))
 have p3 := HK0.out w3 HC3.out
 have HI3 := hide (ObjI.keep (w' := w3) HI2.out (upS HB3.out (fun b hb => Nat.lt_of_lt_of_le (hS b hb) HB2.out.size)) (fun _ h => h))
 have HI3s := hide HI3.out.2
 go_upto_region 5 with (first
  | (go_at_call 141; (with_reducible refine (HWY.out _ w3 (by have := HB2.out.size; omega) HI3s.out).mono ?_); rintro e w4 ⟨A4, c4, rfl, hi4, hb4⟩; have HF6 := hide (hb4); have HC6 := hide (HC3.out.trans (HF6.out.mono HC3.out.size)); have HI6 := hide hi4; have p6 := HK0.out w4 HC6.out; have HX6 := hide (HFX0.out.below HF6.out); obtain ⟨c0, c1⟩ := HFK0.out w4 HF6.out; have d0 := (HX6.out.cell 1 (v := .slice Ai il ci) rfl).2; have HIO := hide (ObjI.keep (w' := w4) HI3.out (upS HF6.out (fun b hb => Nat.lt_of_lt_of_le (hS b hb) (show w.heap.size <= w3.heap.size by have := HB2.out.size; omega))) (fun _ h => h)); have l6 := HF6.out.size; clear hb4 hi4))
 have HX7 := hide (show Box (w4.setCell ⟨h6, 1, none⟩ (.slice A4 il c4)) h6 #[.slice Ar rl cr, .slice A4 il c4] 70 from HX6.out.set 1 (.slice A4 il c4))
 obtain ⟨w7, hw7⟩ := zr (w4.setCell ⟨h6, 1, none⟩ (.slice A4 il c4))
 rw [<- hw7] at HX7
 have HB7 := hide (show Below w.heap.size w w7 by rw [hw7]; exact (HB1.out.trans (HC6.out.mono HB1.out.size)).setCell (p := ⟨h6, 1, none⟩) (by show w.heap.size <= h6; omega) _)
 have HS7 := hide (show ∀ b o, b < w4.heap.size -> b ≠ h6 -> w7.cell? ⟨b, o, none⟩ = w4.cell? ⟨b, o, none⟩ by rw [hw7]; intro b o _ hne; exact World.cell?_setCell_far _ _ _ _ (by simpa using fun e => hne e.symm))
 have HY7 := hide (show Box w7 (h5 + 1) #[.slice none 0 0] 31 by rw [hw7]; exact (HX1.out.below HC6.out).other (by omega))
 have hz7 : w7.heap.size = w4.heap.size := by rw [hw7, World.size_setCell]
 have HIN := hide (show ObjI w7 (fun b => S b \/ Made w3 w4 b) (.slice Ar rl cr) (.slice A4 il c4) ⟨o.refs, o.ints.set m y⟩ from by
  have hm : ∀ b, Made w3 w4 b -> b < w4.heap.size /\ b ≠ h6 := fun b hb => ⟨hb.2, by have := hb.1; omega⟩
  have hk1 : Same' (Made w3 w4) w4 w7 := fun b o hb => HS7.out b o (hm b hb).1 (hm b hb).2
  have hk2 : Same' S w4 w7 := fun b o hb => HS7.out b o (by have := hS b hb; have := HB2.out.size; omega) (by have := hS b hb; have := HB2.out.size; omega)
  have ha := IntsV.keep (S' := fun b => S b \/ Made w3 w4 b) HI6.out hk1 (fun b hb => .inr hb)
  have hb := ObjI.keep (S' := fun b => S b \/ Made w3 w4 b) HIO.out hk2 (fun b hb => .inl hb)
  exact ⟨hb.1, ha⟩)
 have HSS := hide (show ∀ b, (S b \/ Made w3 w4 b) -> b < w7.heap.size /\ b ≠ h5 + 1 from fun b hb => by
  have h1 := HB2.out.size
  rcases hb with hb | hb
  ·have := hS b hb
   exact ⟨by omega, by omega⟩
  ·exact ⟨by have := hb.2; omega, by have := hb.1; omega⟩)
 have p7 : w7.cell? ⟨h5, 0, none⟩ = some (.slice Ao hl c) := (HS7.out h5 0 (by omega) (by omega)).trans p6
 have c07 := (HX7.out.cell 0 (v := .slice Ar rl cr) rfl).1
 have c17 := (HX7.out.cell 1 (v := .slice A4 il c4) rfl).1
 have l7a : h5 < w7.heap.size := by omega
 have l7b : h6 < w7.heap.size := by omega
 rw [<- hw7]
 clear hw7 c0 c1 p6 d0
 go_wp2_with (go_at_call 142; (with_reducible refine (HPU.out _ _ w7 _ HB7.out (fun b hb => (HSS.out b hb).1) (fun b hb => .inl hb) HIN.out).mono ?_); rintro e w8 ⟨A8, c8, rfl, ho8, hb8⟩; have HO8 := hide ho8; have HB8 := hide (HB7.out.trans (hb8.mono HB7.out.size)); have HY8 := hide (HY7.out.below hb8); obtain ⟨z0, f0⟩ := (HY7.out.below hb8).cell 0 (v := .slice none 0 0) rfl; have l8 := hb8.size; clear hb8 ho8)
 have HZ := hide (HY8.out.set 0 (.slice A8 hl c8))
 have q0 := (HZ.out.cell 0 (v := .slice A8 hl c8) rfl).1
 have hbz : Below w.heap.size w (w8.setCell ⟨h5 + 1, 0, none⟩ (.slice A8 hl c8)) := HB8.out.setCell (p := ⟨h5 + 1, 0, none⟩) (by show w.heap.size <= h5 + 1; omega) _
 refine bodyPost_ret (v := .tuple #[.agg #[.slice A8 hl c8], .int .i64 0]) (by simp [results, Tryz.results107, go_sem, q0]) rfl ⟨_, rfl, HO8.out.keep (fun b o hb => World.cell?_setCell_far _ _ _ _ ?_) (fun b hb => ?_), hbz⟩
 ·rcases hb with hb | hb
  ·have := (HSS.out b hb).2
   simpa using fun e => this e.symm
  ·have := hb.1
   have : h5 + 1 ≠ b := by omega
   simpa using this
 ·rcases hb with (hb | hb) | hb
  ·exact .inl hb
  ·exact .inr ⟨by have := hb.1; have := HB2.out.size; omega, by rw [World.size_setCell]; have := (HSS.out b (.inr hb)).1; omega⟩
  ·exact .inr ⟨by have := hb.1; have := HB7.out.size; omega, by rw [World.size_setCell]; exact hb.2⟩
theorem jov (vh : Value) (h : List ObjV) (obj n t : Int) (hy : i64R t) (w : World) (S : Nat -> Prop) (hS : ∀ b, S b -> b < w.heap.size) (hh : ObjsV w S vh h) (hmx : h.length <= 100000) :
  Calls Tryz.prog 108 #[.agg #[vh], .int .i64 obj, .int .i64 n, .int .i64 t] w fun e w' => ∃ vh', e = .returned (.tuple #[.agg #[vh'], .int .i64 (((jcr h obj n t).2 : Nat) : Int)]) /\ ObjsV w' (fun b => S b \/ Made w w' b) vh' (jcr h obj n t).1 /\ Below w.heap.size w w' := by
 have HSELF := hide (fun (W : World) (hW : Below w.heap.size w W) => hh.keep (S' := fun b => S b \/ Made w W b) (upS hW hS) (fun b hb => .inl hb))
 by_cases ha : atN h obj = 0
 case neg =>
  have hv : jcr h obj n t = (h, atN h obj) := by unfold jcr; rw [if_neg ha]
  rw [hv]
  have HOB := hide (fun (W : World) (hW : Below w.heap.size w W) => jj7 vh h obj W w.heap.size hW.size (hh.keep (S' := (· < w.heap.size)) (upS hW hS) hS) ha)
  obtain ⟨Ao, c, rfl, hc, hm⟩ := hh.open'
  have hE : (((atN h obj : Nat) : Int) != 0) = true := by simpa using ha
  have hE2 : (((atN h obj : Nat) : Int) == 0) = false := by simpa using ha
  generalize h.length = hl at *
  generalize ((atN h obj : Nat) : Int) = E at *
  clear hh ha hv
  go_enter Tryz.func108, Tryz.ntmps108
  go_upto_region 1 with (fail)
  obtain ⟨w1, hw1⟩ := zr ((w.alloc (.cells #[.slice Ao hl c] 31)).alloc (.cells #[.slice none 0 0] 31))
  obtain ⟨h5, hh5⟩ := zl w.heap.size
  have HX0 := zy2 hw1 hh5
  have HX1 := zx2 hw1 hh5
  have HB1 := zb2 hw1
  have w1s := HB1.out.size
  have w1z := zs2 hw1 hh5
  have HK0 := zk1 HX0
  have lHX0 := HX0.out.lt
  have HK1 := zk1 HX1
  have lHX1 := HX1.out.lt
  have h5g : w.heap.size <= h5 := by omega
  rw [<- hw1, hh5]
  clear hw1 hh5
  have p0 := HK0.out w1 (Below.refl _ _)
  go_upto_region 2 with (go_at_call 140; (with_reducible refine (HOB.out w1 HB1.out).mono ?_); rintro e w2 ⟨rfl, hb2⟩; have HB2 := hide (HB1.out.trans (hb2.mono HB1.out.size)); have HC2 := hide hb2; have l2 := hb2.size; have p2 := HK0.out w2 hb2; clear hb2)
  obtain ⟨w3, hw3⟩ := zr (w2.alloc (.cells #[.slice none 0 0, .slice none 0 0] 70))
  obtain ⟨h6, hh6⟩ := zl w2.heap.size
  have HFX0 := zx1 hw3 hh6
  have HB3 := zb1 hw3
  have w3s := HB3.out.size
  have w3z := zs1 hw3 hh6
  have HFK0 := zk2 HFX0
  have lHFX0 := HFX0.out.lt
  have h6g : w2.heap.size <= h6 := by omega
  rw [<- hw3, hh6]
  clear hw3 hh6
  have HC3 := hide (HC2.out.trans (HB3.out.mono HC2.out.size))
  have p3 := HK0.out w3 HC3.out
  obtain ⟨z0, f0⟩ := (HX1.out.below HC3.out).cell 0 (v := .slice none 0 0) rfl
  go_wp2
  have HZ := hide ((HX1.out.below HC3.out).set 0 (.slice Ao hl c))
  have q0 := (HZ.out.cell 0 (v := .slice Ao hl c) rfl).1
  have hbz : Below w.heap.size w (w3.setCell ⟨h5 + 1, 0, none⟩ (.slice Ao hl c)) := (HB1.out.trans (HC3.out.mono HB1.out.size)).setCell (p := ⟨h5 + 1, 0, none⟩) (by show w.heap.size <= h5 + 1; omega) _
  refine bodyPost_ret (v := .tuple #[.agg #[.slice Ao hl c], .int .i64 E]) (by simp [results, Tryz.results108, go_sem, q0]) rfl ⟨_, rfl, HSELF.out _ hbz, hbz⟩
 obtain ⟨hr, h1, h2⟩ := atN_zero.1 ha
 obtain ⟨k, rfl⟩ : ∃ k : Nat, obj = (k : Int) + 1 := ⟨(obj - 1).toNat, by omega⟩
 have hkl : k < h.length := by omega
 have HOB := hide (fun (W : World) (hW : Below w.heap.size w W) => jl4 vh h k W S (fun b hb => Nat.lt_of_lt_of_le (hS b hb) hW.size) (hh.keep (upS hW hS) (fun _ h => h)) hr hkl (by omega))
 have HPU := hide (fun (o : ObjV) (vr vi : Value) (W : World) (T : Nat -> Prop) (hW : Below w.heap.size w W) (hT : ∀ b, T b -> b < W.heap.size) (hST : ∀ b, S b -> T b) (ho : ObjI W T vr vi o) => jnl vh h k o vr vi W T hT (hh.keep (upS hW hS) hST) hkl ho hmx)
 have HNW := hide (fun (Ao : Option Addr) (hl c : Nat) W => jnn Ao hl c W)
 by_cases hrf : rfB h.length t = true
 case neg =>
  have hv : jcr h ((k : Int) + 1) n t = (h, 1) := by unfold jcr; rw [if_pos ha, if_neg hrf]
  rw [hv]
  have hrf' := Bool.eq_false_iff.2 hrf
  generalize objO h ((k : Int) + 1) = o at *
  obtain ⟨Ao, c, rfl, hc, hm⟩ := hh.open'
  generalize h.length = hl at *
  have HN1 := hide (fun (hb : Nat) (W : World) (hx : Box W hb #[.slice Ao hl c] 31) => (show Calls Tryz.prog 42 #[.int .i64 t, .pointer (some ⟨hb, 0, none⟩)] W fun e w' => e = .returned (.bool true) /\ Below W.heap.size W w' by have u := jf9 Ao hl c t hb W hx; rw [hrf'] at u; exact u))
  generalize o.refs.length = rl, o.ints.length = il at *
  clear hh hv hr h1 h2 hrf hrf' ha HPU
  go_enter Tryz.func108, Tryz.ntmps108
  go_upto_region 1 with (fail)
  obtain ⟨w1, hw1⟩ := zr ((w.alloc (.cells #[.slice Ao hl c] 31)).alloc (.cells #[.slice none 0 0] 31))
  obtain ⟨h5, hh5⟩ := zl w.heap.size
  have HX0 := zy2 hw1 hh5
  have HX1 := zx2 hw1 hh5
  have HB1 := zb2 hw1
  have w1s := HB1.out.size
  have w1z := zs2 hw1 hh5
  have HK0 := zk1 HX0
  have lHX0 := HX0.out.lt
  have HK1 := zk1 HX1
  have lHX1 := HX1.out.lt
  have h5g : w.heap.size <= h5 := by omega
  rw [<- hw1, hh5]
  clear hw1 hh5
  have p0 := HK0.out w1 (Below.refl _ _)
  go_upto_region 2 with (go_at_call 140; (with_reducible refine (HOB.out w1 HB1.out).mono ?_); rintro e w2 ⟨Ar, cr, Ai, ci, rfl, hi2, hb2⟩; have HB2 := hide (HB1.out.trans (hb2.mono HB1.out.size)); have HC2 := hide hb2; have HI2 := hide hi2; have l2 := hb2.size; clear hb2 hi2)
  obtain ⟨w3, hw3⟩ := zr (w2.alloc (.cells #[.slice Ar rl cr, .slice Ai il ci] 70))
  obtain ⟨h6, hh6⟩ := zl w2.heap.size
  have HFX0 := zx1 hw3 hh6
  have HB3 := zb1 hw3
  have w3s := HB3.out.size
  have w3z := zs1 hw3 hh6
  have HFK0 := zk2 HFX0
  have lHFX0 := HFX0.out.lt
  have h6g : w2.heap.size <= h6 := by omega
  rw [<- hw3, hh6]
  clear hw3 hh6
  obtain ⟨c0, c1⟩ := HFK0.out w3 (Below.refl _ _)
  have HC3 := hide (HC2.out.trans (HB3.out.mono HC2.out.size))
  have p3 := HK0.out w3 HC3.out
  go_wp2_with (first
   | (go_at_call 42; (with_reducible refine (HN1.out hb w4 HBX4.out).mono ?_); rintro e w5 ⟨rfl, hb5⟩; have HC5 := hide (HC4.out.trans (hb5.mono HC4.out.size)); obtain ⟨z0, f0⟩ := (HX1.out.below HC5.out).cell 0 (v := .slice none 0 0) rfl; have p5 := HK0.out w5 HC5.out; have l5 := hb5.size; clear hb5 p4)
   | (go_at_call 25; (with_reducible refine (HNW.out Ao hl c w3).mono ?_); rintro e w4 ⟨hb, rfl, hbl, hbx, hb4⟩; have HC4 := hide (HC3.out.trans (hb4.mono HC3.out.size)); have p4 := HK0.out w4 HC4.out; have HBX4 := hide hbx; have l4 := hb4.size; clear hb4 hbx p3))
  have HZ := hide ((HX1.out.below HC5.out).set 0 (.slice Ao hl c))
  have q0 := (HZ.out.cell 0 (v := .slice Ao hl c) rfl).1
  have hbz : Below w.heap.size w (w5.setCell ⟨h5 + 1, 0, none⟩ (.slice Ao hl c)) := (HB1.out.trans (HC5.out.mono HB1.out.size)).setCell (p := ⟨h5 + 1, 0, none⟩) (by show w.heap.size <= h5 + 1; omega) _
  refine bodyPost_ret (v := .tuple #[.agg #[.slice Ao hl c], .int .i64 1]) (by simp [results, Tryz.results108, go_sem, q0]) rfl ⟨_, rfl, HSELF.out _ hbz, hbz⟩
 by_cases hn : 0 <= n /\ n < (objO h ((k : Int) + 1)).refs.length
 case neg =>
  have hv : jcr h ((k : Int) + 1) n t = (h, 15) := by
   have hl : refR h ((k : Int) + 1) n = (0, 15) := by unfold refR; rw [if_pos ha]; unfold fldR; rw [if_neg hn]
   unfold jcr
   rw [if_pos ha, if_pos hrf, hl, if_neg (by simp)]
  rw [hv]
  generalize objO h ((k : Int) + 1) = o at *
  have HWN := hide (fun (v : Value) (W : World) (hx : IntsV W S v o.refs) => jnk v o.refs n t W w.heap.size (IntsV.keep hx (fun _ _ _ => rfl) hS) hn)
  obtain ⟨Ao, c, rfl, hc, hm⟩ := hh.open'
  generalize h.length = hl at *
  have HN1 := hide (fun (hb : Nat) (W : World) (hx : Box W hb #[.slice Ao hl c] 31) => (show Calls Tryz.prog 42 #[.int .i64 t, .pointer (some ⟨hb, 0, none⟩)] W fun e w' => e = .returned (.bool false) /\ Below W.heap.size W w' by have u := jf9 Ao hl c t hb W hx; rw [hrf] at u; exact u))
  clear hh hv hr h1 h2 ha HPU hn hrf
  generalize o.refs.length = rl, o.ints.length = il at *
  go_enter Tryz.func108, Tryz.ntmps108
  go_upto_region 1 with (fail)
  obtain ⟨w1, hw1⟩ := zr ((w.alloc (.cells #[.slice Ao hl c] 31)).alloc (.cells #[.slice none 0 0] 31))
  obtain ⟨h5, hh5⟩ := zl w.heap.size
  have HX0 := zy2 hw1 hh5
  have HX1 := zx2 hw1 hh5
  have HB1 := zb2 hw1
  have w1s := HB1.out.size
  have w1z := zs2 hw1 hh5
  have HK0 := zk1 HX0
  have lHX0 := HX0.out.lt
  have HK1 := zk1 HX1
  have lHX1 := HX1.out.lt
  have h5g : w.heap.size <= h5 := by omega
  rw [<- hw1, hh5]
  clear hw1 hh5
  have p0 := HK0.out w1 (Below.refl _ _)
  go_upto_region 2 with (go_at_call 140; (with_reducible refine (HOB.out w1 HB1.out).mono ?_); rintro e w2 ⟨Ar, cr, Ai, ci, rfl, hi2, hb2⟩; have HB2 := hide (HB1.out.trans (hb2.mono HB1.out.size)); have HC2 := hide hb2; have HI2 := hide hi2; have l2 := hb2.size; clear hb2 hi2)
  obtain ⟨w3, hw3⟩ := zr (w2.alloc (.cells #[.slice Ar rl cr, .slice Ai il ci] 70))
  obtain ⟨h6, hh6⟩ := zl w2.heap.size
  have HFX0 := zx1 hw3 hh6
  have HB3 := zb1 hw3
  have w3s := HB3.out.size
  have w3z := zs1 hw3 hh6
  have HFK0 := zk2 HFX0
  have lHFX0 := HFX0.out.lt
  have h6g : w2.heap.size <= h6 := by omega
  rw [<- hw3, hh6]
  clear hw3 hh6
  obtain ⟨c0, c1⟩ := HFK0.out w3 (Below.refl _ _)
  have HC3 := hide (HC2.out.trans (HB3.out.mono HC2.out.size))
  have p3 := HK0.out w3 HC3.out
  have HI3 := hide (ObjI.keep (w' := w3) HI2.out (upS HB3.out (fun b hb => Nat.lt_of_lt_of_le (hS b hb) HB2.out.size)) (fun _ h => h))
  have HI3s := hide HI3.out.1
  go_wp2_with (first
   | (go_at_call 141; (with_reducible refine (HWN.out _ w5 HI5s.out).mono ?_); rintro e w' ⟨rfl, rfl⟩; obtain ⟨z0, f0⟩ := ((HX1.out.below HC5.out).other (g := h6) (j := 0) (v := .slice none 0 0) (by omega)).cell 0 (v := .slice none 0 0) rfl; have pz := (((HX0.out.below HC5.out).other (g := h6) (j := 0) (v := .slice none 0 0) (by omega)).cell 0 (v := .slice Ao hl c) rfl).1)
   | (go_at_call 42; (with_reducible refine (HN1.out hb w4 HBX4.out).mono ?_); rintro e w5 ⟨rfl, hb5⟩; have HF5 := hide (HF4.out.trans (hb5.mono HF4.out.size)); have HC5 := hide (HC3.out.trans (HF5.out.mono HC3.out.size)); obtain ⟨c0, c1⟩ := HFK0.out w5 HF5.out; have p5 := HK0.out w5 HC5.out; obtain ⟨d0, d1⟩ := (HFX0.out.below HF5.out).cell 0 (v := .slice Ar rl cr) rfl; have HI5s := hide (IntsV.keep (w' := w5) HI3s.out (upS HF5.out (fun b hb => Nat.lt_of_lt_of_le (hS b hb) (show w.heap.size <= w3.heap.size by have := HB2.out.size; omega))) (fun _ h => h)); have l5 := HF5.out.size; clear hb5 p4)
   | (go_at_call 25; (with_reducible refine (HNW.out Ao hl c w3).mono ?_); rintro e w4 ⟨hb, rfl, hbl, hbx, hb4⟩; have HF4 := hide hb4; have p4 := HK0.out w4 (HC3.out.trans (hb4.mono HC3.out.size)); have HBX4 := hide hbx; have l4 := hb4.size; clear hb4 hbx p3))
  have HZ := hide (((HX1.out.below HC5.out).other (g := h6) (j := 0) (v := .slice none 0 0) (by omega)).set 0 (.slice Ao hl c))
  have q0 := (HZ.out.cell 0 (v := .slice Ao hl c) rfl).1
  have hbz : Below w.heap.size w ((w5.setCell ⟨h6, 0, none⟩ (.slice none 0 0)).setCell ⟨h5 + 1, 0, none⟩ (.slice Ao hl c)) := ((HB1.out.trans (HC5.out.mono HB1.out.size)).setCell (p := ⟨h6, 0, none⟩) (by show w.heap.size <= h6; omega) _).setCell (p := ⟨h5 + 1, 0, none⟩) (by show w.heap.size <= h5 + 1; omega) _
  refine bodyPost_ret (v := .tuple #[.agg #[.slice Ao hl c], .int .i64 15]) (by simp [results, Tryz.results108, go_sem, q0]) rfl ⟨_, rfl, HSELF.out _ hbz, hbz⟩
 obtain ⟨m, rfl⟩ : ∃ m : Nat, n = m := ⟨n.toNat, by omega⟩
 have hv : jcr h ((k : Int) + 1) (m : Int) t = (putR h ((k : Int) + 1) (m : Int) t, 0) := by
  have hl : (refR h ((k : Int) + 1) (m : Int)).2 = 0 := refR_ok.2 ⟨ha, hn⟩
  unfold jcr
  rw [if_pos ha, if_pos hrf, if_pos hl]
 rw [hv]
 have hob8 := (rightB_iff.1 hr) _ (List.mem_of_getElem? (jj0 h1 h2))
 have hpt : putR h ((k : Int) + 1) (m : Int) t = h.set k ⟨(objO h ((k : Int) + 1)).refs.set m t, (objO h ((k : Int) + 1)).ints⟩ := by unfold putR; rw [show ((k : Int) + 1 - 1).toNat = k by omega, Int.toNat_natCast]
 rw [hpt]
 generalize objO h ((k : Int) + 1) = o at *
 have HWY := hide (fun (v : Value) (W : World) (hB : w.heap.size <= W.heap.size) (hx : IntsV W S v o.refs) => jl2 v o.refs m t W w.heap.size hB (IntsV.keep hx (fun _ _ _ => rfl) hS) (by omega) hy (by omega))
 have HPU := hide (HPU.out ⟨o.refs.set m t, o.ints⟩)
 have hlen : (⟨o.refs.set m t, o.ints⟩ : ObjV).refs.length = o.refs.length := List.length_set
 obtain ⟨Ao, c, rfl, hc, hm⟩ := hh.open'
 generalize h.set k ⟨o.refs.set m t, o.ints⟩ = hnew at *
 generalize h.length = hl at *
 have HN1 := hide (fun (hb : Nat) (W : World) (hx : Box W hb #[.slice Ao hl c] 31) => (show Calls Tryz.prog 42 #[.int .i64 t, .pointer (some ⟨hb, 0, none⟩)] W fun e w' => e = .returned (.bool false) /\ Below W.heap.size W w' by have u := jf9 Ao hl c t hb W hx; rw [hrf] at u; exact u))
 clear hh hv hr h1 h2 ha hn hpt hob8 hlen hrf
 generalize o.refs.length = rl, o.ints.length = il at *
 go_enter Tryz.func108, Tryz.ntmps108
 go_upto_region 1 with (fail)
 obtain ⟨w1, hw1⟩ := zr ((w.alloc (.cells #[.slice Ao hl c] 31)).alloc (.cells #[.slice none 0 0] 31))
 obtain ⟨h5, hh5⟩ := zl w.heap.size
 have HX0 := zy2 hw1 hh5
 have HX1 := zx2 hw1 hh5
 have HB1 := zb2 hw1
 have w1s := HB1.out.size
 have w1z := zs2 hw1 hh5
 have HK0 := zk1 HX0
 have lHX0 := HX0.out.lt
 have HK1 := zk1 HX1
 have lHX1 := HX1.out.lt
 have h5g : w.heap.size <= h5 := by omega
 rw [<- hw1, hh5]
 clear hw1 hh5
 have p0 := HK0.out w1 (Below.refl _ _)
 go_upto_region 2 with (go_at_call 140; (with_reducible refine (HOB.out w1 HB1.out).mono ?_); rintro e w2 ⟨Ar, cr, Ai, ci, rfl, hi2, hb2⟩; have HB2 := hide (HB1.out.trans (hb2.mono HB1.out.size)); have HC2 := hide hb2; have HI2 := hide hi2; have l2 := hb2.size; clear hb2 hi2)
 obtain ⟨w3, hw3⟩ := zr (w2.alloc (.cells #[.slice Ar rl cr, .slice Ai il ci] 70))
 obtain ⟨h6, hh6⟩ := zl w2.heap.size
 have HFX0 := zx1 hw3 hh6
 have HB3 := zb1 hw3
 have w3s := HB3.out.size
 have w3z := zs1 hw3 hh6
 have HFK0 := zk2 HFX0
 have lHFX0 := HFX0.out.lt
 have h6g : w2.heap.size <= h6 := by omega
 rw [<- hw3, hh6]
 clear hw3 hh6
 obtain ⟨c0, c1⟩ := HFK0.out w3 (Below.refl _ _)
 have HC3 := hide (HC2.out.trans (HB3.out.mono HC2.out.size))
 have p3 := HK0.out w3 HC3.out
 have HI3 := hide (ObjI.keep (w' := w3) HI2.out (upS HB3.out (fun b hb => Nat.lt_of_lt_of_le (hS b hb) HB2.out.size)) (fun _ h => h))
 have HI3s := hide HI3.out.1
 go_upto_region 7 with (first
  | (go_at_call 141; (with_reducible refine (HWY.out _ w5 (by have := HB2.out.size; omega) HI5s.out).mono ?_); rintro e w6 ⟨A4, c4, rfl, hi4, hb4⟩; have HF6 := hide (HF5.out.trans (hb4.mono HF5.out.size)); have HC6 := hide (HC3.out.trans (HF6.out.mono HC3.out.size)); have HI6 := hide hi4; have p6 := HK0.out w6 HC6.out; have HX6 := hide (HFX0.out.below HF6.out); obtain ⟨c0, c1⟩ := HFK0.out w6 HF6.out; have d0 := (HX6.out.cell 0 (v := .slice Ar rl cr) rfl).2; have HIO := hide (ObjI.keep (w' := w6) HI3.out (upS HF6.out (fun b hb => Nat.lt_of_lt_of_le (hS b hb) (show w.heap.size <= w3.heap.size by have := HB2.out.size; omega))) (fun _ h => h)); have l6 := HF6.out.size; clear hb4 hi4)
  | (go_at_call 42; (with_reducible refine (HN1.out hb w4 HBX4.out).mono ?_); rintro e w5 ⟨rfl, hb5⟩; have HF5 := hide (HF4.out.trans (hb5.mono HF4.out.size)); have HC5 := hide (HC3.out.trans (HF5.out.mono HC3.out.size)); obtain ⟨c0, c1⟩ := HFK0.out w5 HF5.out; have p5 := HK0.out w5 HC5.out; obtain ⟨d0, d1⟩ := (HFX0.out.below HF5.out).cell 0 (v := .slice Ar rl cr) rfl; have HI5s := hide (IntsV.keep (w' := w5) HI3s.out (upS HF5.out (fun b hb => Nat.lt_of_lt_of_le (hS b hb) (show w.heap.size <= w3.heap.size by have := HB2.out.size; omega))) (fun _ h => h)); have l5 := HF5.out.size; clear hb5 p4)
  | (go_at_call 25; (with_reducible refine (HNW.out Ao hl c w3).mono ?_); rintro e w4 ⟨hb, rfl, hbl, hbx, hb4⟩; have HF4 := hide hb4; have p4 := HK0.out w4 (HC3.out.trans (hb4.mono HC3.out.size)); have HBX4 := hide hbx; have l4 := hb4.size; clear hb4 hbx p3))
 have HX7 := hide (show Box (w6.setCell ⟨h6, 0, none⟩ (.slice A4 rl c4)) h6 #[.slice A4 rl c4, .slice Ai il ci] 70 from HX6.out.set 0 (.slice A4 rl c4))
 obtain ⟨w7, hw7⟩ := zr (w6.setCell ⟨h6, 0, none⟩ (.slice A4 rl c4))
 rw [<- hw7] at HX7
 have HB7 := hide (show Below w.heap.size w w7 by rw [hw7]; exact (HB1.out.trans (HC6.out.mono HB1.out.size)).setCell (p := ⟨h6, 0, none⟩) (by show w.heap.size <= h6; omega) _)
 have HS7 := hide (show ∀ b o, b < w6.heap.size -> b ≠ h6 -> w7.cell? ⟨b, o, none⟩ = w6.cell? ⟨b, o, none⟩ by rw [hw7]; intro b o _ hne; exact World.cell?_setCell_far _ _ _ _ (by simpa using fun e => hne e.symm))
 have HY7 := hide (show Box w7 (h5 + 1) #[.slice none 0 0] 31 by rw [hw7]; exact (HX1.out.below HC6.out).other (by omega))
 have hz7 : w7.heap.size = w6.heap.size := by rw [hw7, World.size_setCell]
 have HIN := hide (show ObjI w7 (fun b => S b \/ Made w5 w6 b) (.slice A4 rl c4) (.slice Ai il ci) ⟨o.refs.set m t, o.ints⟩ from by
  have hm : ∀ b, Made w5 w6 b -> b < w6.heap.size /\ b ≠ h6 := fun b hb => ⟨hb.2, by have := hb.1; omega⟩
  have hk1 : Same' (Made w5 w6) w6 w7 := fun b o hb => HS7.out b o (hm b hb).1 (hm b hb).2
  have hk2 : Same' S w6 w7 := fun b o hb => HS7.out b o (by have := hS b hb; have := HB2.out.size; omega) (by have := hS b hb; have := HB2.out.size; omega)
  have ha := IntsV.keep (S' := fun b => S b \/ Made w5 w6 b) HI6.out hk1 (fun b hb => .inr hb)
  have hb := ObjI.keep (S' := fun b => S b \/ Made w5 w6 b) HIO.out hk2 (fun b hb => .inl hb)
  exact ⟨ha, hb.2⟩)
 have HSS := hide (show ∀ b, (S b \/ Made w5 w6 b) -> b < w7.heap.size /\ b ≠ h5 + 1 from fun b hb => by
  have h1 := HB2.out.size
  rcases hb with hb | hb
  ·have := hS b hb
   exact ⟨by omega, by omega⟩
  ·exact ⟨by have := hb.2; omega, by have := hb.1; omega⟩)
 have p7 : w7.cell? ⟨h5, 0, none⟩ = some (.slice Ao hl c) := (HS7.out h5 0 (by omega) (by omega)).trans p6
 have c07 := (HX7.out.cell 0 (v := .slice A4 rl c4) rfl).1
 have c17 := (HX7.out.cell 1 (v := .slice Ai il ci) rfl).1
 have l7a : h5 < w7.heap.size := by omega
 have l7b : h6 < w7.heap.size := by omega
 rw [<- hw7]
 clear hw7 c0 c1 p6 d0
 go_wp2_with (go_at_call 142; (with_reducible refine (HPU.out _ _ w7 _ HB7.out (fun b hb => (HSS.out b hb).1) (fun b hb => .inl hb) HIN.out).mono ?_); rintro e w8 ⟨A8, c8, rfl, ho8, hb8⟩; have HO8 := hide ho8; have HB8 := hide (HB7.out.trans (hb8.mono HB7.out.size)); have HY8 := hide (HY7.out.below hb8); obtain ⟨z0, f0⟩ := (HY7.out.below hb8).cell 0 (v := .slice none 0 0) rfl; have l8 := hb8.size; clear hb8 ho8)
 have HZ := hide (HY8.out.set 0 (.slice A8 hl c8))
 have q0 := (HZ.out.cell 0 (v := .slice A8 hl c8) rfl).1
 have hbz : Below w.heap.size w (w8.setCell ⟨h5 + 1, 0, none⟩ (.slice A8 hl c8)) := HB8.out.setCell (p := ⟨h5 + 1, 0, none⟩) (by show w.heap.size <= h5 + 1; omega) _
 refine bodyPost_ret (v := .tuple #[.agg #[.slice A8 hl c8], .int .i64 0]) (by simp [results, Tryz.results108, go_sem, q0]) rfl ⟨_, rfl, HO8.out.keep (fun b o hb => World.cell?_setCell_far _ _ _ _ ?_) (fun b hb => ?_), hbz⟩
 ·rcases hb with hb | hb
  ·have := (HSS.out b hb).2
   simpa using fun e => this e.symm
  ·have := hb.1
   have : h5 + 1 ≠ b := by omega
   simpa using this
 ·rcases hb with (hb | hb) | hb
  ·exact .inl hb
  ·exact .inr ⟨by have := hb.1; have := HB2.out.size; omega, by rw [World.size_setCell]; have := (HSS.out b (.inr hb)).1; omega⟩
  ·exact .inr ⟨by have := hb.1; have := HB7.out.size; omega, by rw [World.size_setCell]; exact hb.2⟩
theorem jmj (vh : Value) (h : List ObjV) (r i : Int) (w : World) (S : Nat -> Prop) (hS : ∀ b, S b -> b < w.heap.size) (hh : ObjsV w S vh h) (hmx : h.length <= 10000) :
  Calls Tryz.prog 143 #[.agg #[vh], .int .i64 r, .int .i64 i] w fun e w' => ∃ vh', e = .returned (.tuple #[.agg #[vh'], .int .i64 (jb7 h r i).2.1, .int .i64 (((jb7 h r i).2.2 : Nat) : Int)]) /\ ObjsV w' (fun b => S b \/ Made w w' b) vh' (jb7 h r i).1 /\ Below w.heap.size w w' := by
 have HHS := hide (fun (W : World) (hW : Below w.heap.size w W) (S' : Nat -> Prop) (hS' : ∀ b, S b -> S' b) => hh.keep (S' := S') (upS hW hS) hS')
 have HSELF := hide (fun (W : World) (hW : Below w.heap.size w W) => hh.keep (S' := fun b => S b \/ Made w W b) (upS hW hS) (fun b hb => .inl hb))
 have HRT := hide (fun (W : World) (hW : Below w.heap.size w W) => jd7 vh h W w.heap.size hW.size (hh.keep (S' := (· < w.heap.size)) (upS hW hS) hS))
 have hal : jhf h r i = (jap h && (jg1 r && jg1 i)) := rfl
 have HSR := hide (fun W => jl3 r W)
 have HSI := hide (fun W => jl3 i W)
 by_cases ha : jhf h r i = true
 case neg =>
  have hv : jb7 h r i = (h, 0, 1) := by unfold jb7; rw [if_neg ha]
  rw [hv]
  have ha' := Bool.eq_false_iff.2 ha
  rw [hal] at ha'
  obtain ⟨Ao, c, rfl, hc, hm⟩ := hh.open'
  generalize h.length = n at *
  generalize jap h = rb at *
  generalize jg1 r = sr at *
  generalize jg1 i = si at *
  clear hh ha hv hal
  cases rb <;> cases sr <;> cases si <;> first | (simp at ha'; done) | skip
  all_goals
   clear ha'
   go_enter Tryz.func143, Tryz.ntmps143
   go_upto_region 1 with (fail)
   obtain ⟨w1, hw1⟩ := zr ((w.alloc (.cells #[.slice Ao n c] 31)).alloc (.cells #[.slice none 0 0] 31))
   obtain ⟨h5, hh5⟩ := zl w.heap.size
   have HX0 := zy2 hw1 hh5
   have HX1 := zx2 hw1 hh5
   have HB1 := zb2 hw1
   have w1s := HB1.out.size
   have w1z := zs2 hw1 hh5
   have HK0 := zk1 HX0
   have lHX0 := HX0.out.lt
   have HK1 := zk1 HX1
   have lHX1 := HX1.out.lt
   have h5g : w.heap.size <= h5 := by omega
   rw [<- hw1, hh5]
   clear hw1 hh5
   have p0 := HK0.out w1 (Below.refl _ _)
   go_wp2_with (first
    | (go_at_call_of 164 i; (with_reducible refine (HSI.out w2).mono ?_); rintro e w' ⟨rfl, rfl⟩)
    | (go_at_call_of 164 r; (with_reducible refine (HSR.out w2).mono ?_); rintro e w' ⟨rfl, rfl⟩)
    | (go_at_call 17; (with_reducible refine (HRT.out w1 HB1.out).mono ?_); rintro e w2 ⟨rfl, hb2⟩; have HC2 := hide hb2; have p2 := HK0.out w2 hb2; obtain ⟨z0, f0⟩ := (HX1.out.below hb2).cell 0 (v := .slice none 0 0) rfl; have l2 := hb2.size; clear hb2))
   have HZ := hide ((HX1.out.below HC2.out).set 0 (.slice Ao n c))
   have q0 := (HZ.out.cell 0 (v := .slice Ao n c) rfl).1
   have hbz : Below w.heap.size w (w2.setCell ⟨h5 + 1, 0, none⟩ (.slice Ao n c)) := (HB1.out.trans (HC2.out.mono HB1.out.size)).setCell (p := ⟨h5 + 1, 0, none⟩) (by show w.heap.size <= h5 + 1; omega) _
   refine bodyPost_ret (v := .tuple #[.agg #[.slice Ao n c], .int .i64 0, .int .i64 1]) (by simp [results, Tryz.results143, go_sem, q0]) rfl ⟨_, rfl, HSELF.out _ hbz, hbz⟩
 have hv : jb7 h r i = (h ++ [newO r i], (h.length : Int) + 1, 0) := by unfold jb7; rw [if_pos ha]
 rw [hv]
 rw [hal, Bool.and_eq_true, Bool.and_eq_true] at ha
 obtain ⟨hr, hsr, hsi⟩ := ha
 have hr8 : 0 <= r /\ r <= 8 := by simpa [jg1] using hsr
 have hi8 : 0 <= i /\ i <= 8 := by simpa [jg1] using hsi
 rw [hr] at HRT
 rw [hsr] at HSR
 rw [hsi] at HSI
 obtain ⟨rn, rfl⟩ : ∃ k : Nat, r = k := ⟨r.toNat, by omega⟩
 obtain ⟨jn, rfl⟩ : ∃ k : Nat, i = k := ⟨i.toNat, by omega⟩
 have hnew : newO (rn : Int) (jn : Int) = ⟨List.replicate rn 0, List.replicate jn 0⟩ := by unfold newO; rw [Int.toNat_natCast, Int.toNat_natCast]
 rw [hnew]
 have hrn : rn <= 8 := by omega
 have hjn : jn <= 8 := by omega
 have hmkr := ji6 32 3 Tryz.underlying32 jc5 (by omega) rn (by omega)
 have hmki := ji6 32 3 Tryz.underlying32 jc5 (by omega) jn (by omega)
 have hZr : madeCells (Value.int .i64 0).cells (rn * 1) = ((List.replicate rn (0 : Int)).map (Value.int .i64)).toArray := jf6 rn
 have hZi : madeCells (Value.int .i64 0).cells (jn * 1) = ((List.replicate jn (0 : Int)).map (Value.int .i64)).toArray := jf6 jn
 generalize madeCells (Value.int .i64 0).cells (rn * 1) = Zr at *
 generalize madeCells (Value.int .i64 0).cells (jn * 1) = Zi at *
 have HZr := hide hZr
 have HZi := hide hZi
 have HNN := hide hnew
 have HCN := hide (fun (hs : Nat) (A1 A2 : Option Addr) (c d : Nat) (ys : List ObjV) (W : World) (T : Nat -> Prop) (hT : ∀ b, T b -> b < W.heap.size) (hb : Box W hs #[.slice A1 h.length c, .slice A2 1 d] 29) (hx : ObjsV W T (.slice A1 h.length c) h) (hy : ObjsV W T (.slice A2 1 d) ys) (hm : ys.length = 1) => jmg hs A1 A2 h.length c 1 d h ys W T hT hb hx hy rfl hm (by omega))
 have HLEN := hide (show (h ++ [(⟨List.replicate rn 0, List.replicate jn 0⟩ : ObjV)]).length = h.length + 1 by simp)
 obtain ⟨Ao, c, rfl, hc, hm⟩ := hh.open'
 generalize h.length = n at *
 clear hh hv hal hr hsr hsi hr8 hi8 hnew hZr hZi
 go_enter Tryz.func143, Tryz.ntmps143
 go_upto_region 1 with (fail)
 obtain ⟨w1, hw1⟩ := zr ((w.alloc (.cells #[.slice Ao n c] 31)).alloc (.cells #[.slice none 0 0] 31))
 obtain ⟨h5, hh5⟩ := zl w.heap.size
 have HX0 := zy2 hw1 hh5
 have HX1 := zx2 hw1 hh5
 have HB1 := zb2 hw1
 have w1s := HB1.out.size
 have w1z := zs2 hw1 hh5
 have HK0 := zk1 HX0
 have lHX0 := HX0.out.lt
 have HK1 := zk1 HX1
 have lHX1 := HX1.out.lt
 have h5g : w.heap.size <= h5 := by omega
 rw [<- hw1, hh5]
 clear hw1 hh5
 have p0 := HK0.out w1 (Below.refl _ _)
 go_upto_region 3 with (first
  | (go_at_call_of 164 (jn : Int); (with_reducible refine (HSI.out w2).mono ?_); rintro e w' ⟨rfl, rfl⟩)
  | (go_at_call_of 164 (rn : Int); (with_reducible refine (HSR.out w2).mono ?_); rintro e w' ⟨rfl, rfl⟩)
  | (go_at_call 17; (with_reducible refine (HRT.out w1 HB1.out).mono ?_); rintro e w2 ⟨rfl, hb2⟩; have HC2 := hide hb2; have l2 := hb2.size; clear hb2))
 go_cut [9] from 25 to 29 (fun f wx => AL1 w2 rn jn f wx)
 case first =>
  go_region
  all_goals
   go_wp2_with fail
   go_meet
  all_goals first
   | exact jif HZr.out HZi.out (by omega) (al3h _ _ _ _).1 (al3h _ _ _ _).2.1 (al3h _ _ _ _).2.2
   | exact jif HZr.out HZi.out (by omega) (al3h _ _ _ _).1 (al3h _ _ _ _).2.2 (al3h _ _ _ _).2.1
   | exact jif HZr.out HZi.out (by omega) (al3h _ _ _ _).2.1 (al3h _ _ _ _).1 (al3h _ _ _ _).2.2
   | exact jif HZr.out HZi.out (by omega) (al3h _ _ _ _).2.2 (al3h _ _ _ _).1 (al3h _ _ _ _).2.1
   | exact jif HZr.out HZi.out (by omega) (al3h _ _ _ _).2.1 (al3h _ _ _ _).2.2 (al3h _ _ _ _).1
   | exact jif HZr.out HZi.out (by omega) (al3h _ _ _ _).2.2 (al3h _ _ _ _).2.1 (al3h _ _ _ _).1
 case rest =>
  obtain ⟨w3, rfl⟩ := zr wc
  obtain ⟨hr, hi, hf, rfl, ⟨g1, g2, g3⟩, hb3, br, bi, bf⟩ := hcut
  have HC3 := hide (HC2.out.trans (hb3.mono HC2.out.size))
  have l3 := hb3.size
  have p3 := HK0.out w3 HC3.out
  have lbf := bf.lt
  have lbr := br.lt
  have lbi := bi.lt
  obtain ⟨d0, -⟩ := bf.cell 0 (v := .slice (some ⟨hr, 0, none⟩) rn rn) rfl
  obtain ⟨d1, -⟩ := bf.cell 1 (v := .slice (some ⟨hi, 0, none⟩) jn jn) rfl
  obtain ⟨o1, ho1⟩ := zr (Obj.cells #[.slice (some ⟨hr, 0, none⟩) rn rn, .slice (some ⟨hi, 0, none⟩) jn jn] 70)
  obtain ⟨o2, ho2⟩ := zr (Obj.cells #[.slice Ao n c, .slice (some ⟨w3.heap.size, 0, none⟩) 1 1] 29)
  have HB4 := hide (show Below w3.heap.size w3 ((w3.alloc o1).alloc o2) from ((Below.refl _ _).alloc (Nat.le_refl _) _).alloc (by simp only [World.size_alloc]; omega) _)
  have hs4 : ((w3.alloc o1).alloc o2).heap.size = w3.heap.size + 1 + 1 := by simp only [World.size_alloc]
  have hbx1 : Box ((w3.alloc o1).alloc o2) w3.heap.size #[.slice (some ⟨hr, 0, none⟩) rn rn, .slice (some ⟨hi, 0, none⟩) jn jn] 70 := by rw [ho1]; exact (Box.new w3 _ _).alloc _
  have hbx2 : Box ((w3.alloc o1).alloc o2) (w3.heap.size + 1) #[.slice Ao n c, .slice (some ⟨w3.heap.size, 0, none⟩) 1 1] 29 := by
   have t := Box.new (w3.alloc o1) #[.slice Ao n c, .slice (some ⟨w3.heap.size, 0, none⟩) 1 1] 29
   rw [World.size_alloc, <- ho2] at t
   exact t
  have HBW4 := hide (HB1.out.trans ((HC3.out.trans (HB4.out.mono HC3.out.size)).mono HB1.out.size))
  have HCALL := hide (HCN.out (w3.heap.size + 1) Ao (some ⟨w3.heap.size, 0, none⟩) c 1 [⟨List.replicate rn 0, List.replicate jn 0⟩] ((w3.alloc o1).alloc o2) (fun b => S b \/ (w.heap.size <= b /\ b < ((w3.alloc o1).alloc o2).heap.size /\ b ≠ h5 + 1)) (fun b hb => by rcases hb with hb | hb; exact Nat.lt_of_lt_of_le (hS b hb) HBW4.out.size; exact hb.2.1) hbx2
   (HHS.out _ HBW4.out _ (fun b hb => .inl hb))
   ⟨_, 1, rfl, Nat.le_refl _, by omega, fun _ => ⟨w3.heap.size, 0, rfl, .inr ⟨by omega, by omega, by omega⟩, fun j x hj => by
    have hj0 : j = 0 := by have := (List.getElem?_eq_some_iff.1 hj).1; simp at this; omega
    subst hj0
    simp at hj
    subst hj
    exact ⟨_, _, ⟨(hbx1.cell 0 (v := .slice (some ⟨hr, 0, none⟩) rn rn) rfl).1, (hbx1.cell 1 (v := .slice (some ⟨hi, 0, none⟩) jn jn) rfl).1⟩, jnu (br.below HB4.out) (by omega) (.inr ⟨by omega, by omega, by omega⟩), jnu (bi.below HB4.out) (by omega) (.inr ⟨by omega, by omega, by omega⟩)⟩⟩⟩ rfl)
  have HY4 := hide ((HX1.out.below HC3.out).below HB4.out)
  clear hb3 br bi bf hs4 hbx1 hbx2
  rw [ho1, ho2] at HCALL HB4 HBW4 HY4
  clear ho1 ho2
  go_upto_region 5 with (go_at_call 165; (with_reducible refine (HCALL.out).mono ?_); rintro e w5 ⟨v5, rfl, hv5, hb5⟩; have HB5 := hide (HBW4.out.trans (hb5.mono HBW4.out.size)); have HV5 := hide hv5; have HY5 := hide (HY4.out.below hb5); have lz5 := hb5.size; clear hb5 hv5)
  obtain ⟨A5, c5, rfl, -, -⟩ := HV5.out.open'
  rw [HLEN.out] at HV5 ⊢
  obtain ⟨z0, f0⟩ := HY5.out.cell 0 (v := .slice none 0 0) rfl
  go_wp2
  have HZ := hide (HY5.out.set 0 (.slice A5 (n + 1) c5))
  have q0 := (HZ.out.cell 0 (v := .slice A5 (n + 1) c5) rfl).1
  have hbz : Below w.heap.size w (w5.setCell ⟨h5 + 1, 0, none⟩ (.slice A5 (n + 1) c5)) := HB5.out.setCell (p := ⟨h5 + 1, 0, none⟩) (by show w.heap.size <= h5 + 1; omega) _
  refine bodyPost_ret (v := .tuple #[.agg #[.slice A5 (n + 1) c5], .int .i64 ((n : Int) + 1), .int .i64 0]) (by simp [results, Tryz.results143, go_sem, q0]) rfl ⟨_, rfl, HV5.out.keep (fun b o hb => World.cell?_setCell_far _ _ _ _ ?_) (fun b hb => ?_), hbz⟩
  ·rcases hb with (hb | hb) | hb
   ·have := hS b hb
    have : h5 + 1 ≠ b := by omega
    simpa using this
   ·have := hb.2.2
    simpa using fun e => this e.symm
   ·have := hb.1
    have : h5 + 1 ≠ b := by
     simp only [World.size_alloc] at this
     omega
    simpa using this
  ·rcases hb with (hb | hb) | hb
   ·exact .inl hb
   ·exact .inr ⟨hb.1, by rw [World.size_setCell]; have := hb.2.1; omega⟩
   ·exact .inr ⟨by have := hb.1; have := HBW4.out.size; omega, by rw [World.size_setCell]; exact hb.2⟩
end Go.Proofs.YthbnbaikdcfbmaaGreatDoor
