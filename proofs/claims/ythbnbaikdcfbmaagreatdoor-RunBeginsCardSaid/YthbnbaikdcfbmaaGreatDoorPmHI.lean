/- Texts of several names, of which only what the statement needs is kept. -/
import Derived.Test.YthbnbaikdcfbmaaGreatDoorPmHE
import Derived.Lib.AppendZerosOnto
set_option linter.unusedSimpArgs false
set_option linter.unusedVariables false
set_option maxHeartbeats 2000000
set_option maxRecDepth 100000
namespace Go.Proofs.YthbnbaikdcfbmaaGreatDoor
open Go.RowKit
theorem jnl (vh : Value) (h : List ObjV) (k : Nat) (o : ObjV) (vr vi : Value) (w : World) (S : Nat -> Prop) (hS : ∀ b, S b -> b < w.heap.size) (hh : ObjsV w S vh h) (hk : k < h.length) (ho : ObjI w S vr vi o) (hmx : h.length <= 100000) :
  Calls Tryz.prog 142 #[.agg #[vh], .int .i64 ((k : Int) + 1), .agg #[vr, vi]] w fun e w' => ∃ A c, e = .returned (.agg #[.slice A h.length c]) /\ ObjsV w' (fun b => S b \/ Made w w' b) (.slice A h.length c) (h.set k o) /\ Below w.heap.size w w' := by
 have HCL := hide (fun (W : World) (hW : Below w.heap.size w W) => jox vh h W S (fun b hb => Nat.lt_of_lt_of_le (hS b hb) hW.size) (hh.keep (upS hW hS) (fun _ h => h)) hmx)
 have HOK := hide (fun (W : World) (hW : Below w.heap.size w W) => (show ObjOk W (fun b => S b \/ Made w W b) (o, vr, vi) from ObjI.keep ho (upS hW hS) (fun b hb => .inl hb)))
 have HON := hide (show vr.oneCell' = true /\ vi.oneCell' = true from by
  obtain ⟨⟨A, c, e, -⟩, ⟨A', c', e', -⟩⟩ := ho
  rw [e, e']
  exact ⟨rfl, rfl⟩)
 obtain ⟨Ao, c, rfl, hc, hm⟩ := hh.open'
 obtain ⟨n, hn⟩ := zl h.length
 have HN := hide hn
 obtain ⟨Ar, cr, rfl, -, -⟩ := ho.1.open'
 obtain ⟨Ai, ci, rfl, -, -⟩ := ho.2.open'
 rw [hn] at HCL hc hk hmx ⊢
 clear hh hn ho
 generalize o.refs.length = rl, o.ints.length = il at *
 have hp1 := jj6 k (by omega)
 have hki : (0 : Int) <= (k : Int) := by omega
 have hkl : (k : Int) < (n : Int) := by omega
 go_enter Tryz.func142, Tryz.ntmps142
 go_upto_region 1 with (fail)
 obtain ⟨w1, hw1⟩ := zr (((w.alloc (.cells #[.slice Ao n c] 31)).alloc (.cells #[.slice Ar rl cr, .slice Ai il ci] 70)).alloc (.cells #[.slice none 0 0] 31))
 obtain ⟨h5, hh5⟩ := zl w.heap.size
 have HX0 := zy3 hw1 hh5
 have HX1 := zm3 hw1 hh5
 have HX2 := zx3 hw1 hh5
 have HB1 := zb3 hw1
 have w1s := HB1.out.size
 have w1z := hide (show w1.heap.size = h5 + 1 + 1 + 1 by rw [hw1, <- hh5]; simp only [World.size_alloc])
 have HK0 := zk1 HX0
 have lHX0 := HX0.out.lt
 have HK1 := zk2 HX1
 have lHX1 := HX1.out.lt
 have HK2 := zk1 HX2
 have lHX2 := HX2.out.lt
 have h5g : w.heap.size <= h5 := by omega
 rw [<- hw1, hh5]
 clear hw1 hh5
 have p0 := HK0.out w1 (Below.refl _ _)
 go_upto_region 2 with (go_at_call 163; (with_reducible refine (HCL.out w1 HB1.out).mono ?_); rintro e w2 ⟨v2, l, rfl, ho2, hl2, hok2, hb2⟩; have HB2 := hide (HB1.out.trans (hb2.mono HB1.out.size)); have HC2 := hide hb2; have HL2 := hide hl2; have HOK2 := hide hok2; have HO2 := hide ho2; obtain ⟨y0, y1⟩ := HK1.out w2 hb2; have l2 := hb2.size; clear hb2 ho2 hl2 hok2)
 have hll : l.length = n := by have := congrArg List.length HL2.out; rw [List.length_map, HN.out] at this; exact this
 have HLL := hide hll
 obtain ⟨g, cap, rfl, hg, hgl, hgc, hgm, hcell⟩ := HO2.out.form (by omega)
 obtain ⟨⟨u0, hu0⟩, f0⟩ := hcell (k * 2) (by omega)
 obtain ⟨⟨u1, hu1⟩, f1⟩ := hcell (k * 2 + 1) (by omega)
 obtain ⟨z0, g0⟩ := (HX2.out.below HC2.out).cell 0 (v := .slice none 0 0) rfl
 rw [hll] at hgc HO2 ⊢
 clear hcell hll p0
 have hgh : g ≠ h5 + 1 + 1 := by have := HB1.out.size; have := HC2.out.size; omega
 have hgh2 : h5 + 1 + 1 ≠ g := fun e => hgh e.symm
 go_wp2
 have hb2x : Box ((w2.setCell ⟨g, k * 2, none⟩ (.slice Ar rl cr)).setCell ⟨g, k * 2 + 1, none⟩ (.slice Ai il ci)) (h5 + 1 + 1) #[.slice none 0 0] 31 := ((HX2.out.below HC2.out).other hgh2).other hgh2
 have HZ := hide (hb2x.set 0 (.slice (some ⟨g, 0, none⟩) n cap))
 have q0 := (HZ.out.cell 0 (v := .slice (some ⟨g, 0, none⟩) n cap) rfl).1
 have ho3 : OwC objC 70 2 ((w2.setCell ⟨g, k * 2, none⟩ (.slice Ar rl cr)).setCell ⟨g, k * 2 + 1, none⟩ (.slice Ai il ci)) w1.heap.size (.slice (some ⟨g, 0, none⟩) n cap) (l.set k (o, .slice Ar rl cr, .slice Ai il ci)) := OwC.put (p := (o, .slice Ar rl cr, .slice Ai il ci)) HO2.out (by have := HLL.out; omega)
 have hbz : Below w.heap.size w (((w2.setCell ⟨g, k * 2, none⟩ (.slice Ar rl cr)).setCell ⟨g, k * 2 + 1, none⟩ (.slice Ai il ci)).setCell ⟨h5 + 1 + 1, 0, none⟩ (.slice (some ⟨g, 0, none⟩) n cap)) :=
  ((HB2.out.setCell (p := ⟨g, k * 2, none⟩) (by show w.heap.size <= g; have := HB1.out.size; omega) _).setCell (p := ⟨g, k * 2 + 1, none⟩) (by show w.heap.size <= g; have := HB1.out.size; omega) _).setCell (p := ⟨h5 + 1 + 1, 0, none⟩) (by show w.heap.size <= h5 + 1 + 1; omega) _
 have hos : OwC objC 70 2 (((w2.setCell ⟨g, k * 2, none⟩ (.slice Ar rl cr)).setCell ⟨g, k * 2 + 1, none⟩ (.slice Ai il ci)).setCell ⟨h5 + 1 + 1, 0, none⟩ (.slice (some ⟨g, 0, none⟩) n cap)) w1.heap.size (.slice (some ⟨g, 0, none⟩) n cap) (l.set k (o, .slice Ar rl cr, .slice Ai il ci)) :=
  ho3.kept fun g' hg' => by
   have : g = g' := by simpa [Value.ownBlock] using hg'
   subst this
   exact heap_setCell_other _ ⟨h5 + 1 + 1, 0, none⟩ g _ (by show g ≠ h5 + 1 + 1; omega)
 refine bodyPost_ret (v := .agg #[.slice (some ⟨g, 0, none⟩) n cap]) (by simp [results, Tryz.results142, go_sem, q0]) rfl ⟨_, cap, rfl, ?_, hbz⟩
 have hre : (l.set k (o, .slice Ar rl cr, .slice Ai il ci)).map (·.1) = h.set k o := by rw [List.map_set, HL2.out]
 rw [<- hre]
 refine jn9 hos (fun p hp => ?_) (fun b hb => ?_)
 ·rcases List.mem_or_eq_of_mem_set hp with hp | rfl
  ·exact (HOK2.out p hp).keep (fun b o hb => (upS hbz hS b o hb).trans (upS HB1.out hS b o hb).symm) (fun b hb => .inl hb)
  ·exact HOK.out _ hbz
 ·have := hos.lt b hb
  exact .inr ⟨by have := this.1; omega, this.2⟩
theorem jrz (vh : Value) (h : List ObjV) (obj n : Int) (w : World) (B : Nat) (hB : B <= w.heap.size) (hh : ObjsV w (· < B) vh h) (hmx : h.length <= 1000000) :
  Calls Tryz.prog 144 #[.agg #[vh], .int .i64 obj, .int .i64 n] w fun e w' => e = .returned (.tuple #[.int .i64 (jbb h obj n).1, .int .i64 (((jbb h obj n).2 : Nat) : Int)]) /\ Below w.heap.size w w' := by
 by_cases ha : atN h obj = 0
 ·have hv : jbb h obj n = fldR (objO h obj).ints n := by unfold jbb; rw [if_pos ha]
  rw [hv]
  obtain ⟨hr, h1, h2⟩ := atN_zero.1 ha
  obtain ⟨k, rfl⟩ : ∃ k : Nat, obj = (k : Int) + 1 := ⟨(obj - 1).toNat, by omega⟩
  have HOB := hide (fun (W : World) (hW : Below w.heap.size w W) => jnm vh h k W B (by have := hW.size; omega) (hh.keep (up hW hB) (fun _ h => h)) hr (by omega) hmx)
  generalize objO h ((k : Int) + 1) = o at *
  have HFD := hide (fun (v : Value) (W : World) (hx : IntsV W (· < B) v o.ints) (hB : B <= W.heap.size) => ji9 v o.ints n W B hx hB)
  generalize fldR o.ints n = r at *
  obtain ⟨Ao, c, rfl, hc, hm⟩ := hh.open'
  generalize h.length = hl at *
  clear hh ha hv hr h1 h2
  generalize o.refs.length = rl, o.ints.length = il at *
  go_enter Tryz.func144, Tryz.ntmps144
  go_upto_region 1 with (fail)
  obtain ⟨w1, hw1⟩ := zr (w.alloc (.cells #[.slice Ao hl c] 31))
  obtain ⟨h5, hh5⟩ := zl w.heap.size
  have HX0 := zx1 hw1 hh5
  have HB1 := zb1 hw1
  have w1s := HB1.out.size
  have w1z := zs1 hw1 hh5
  have HK0 := zk1 HX0
  have lHX0 := HX0.out.lt
  have h5g : w.heap.size <= h5 := by omega
  rw [<- hw1, hh5]
  clear hw1 hh5
  have p0 := HK0.out w1 (Below.refl _ _)
  go_upto_region 2 with (go_at_call 140; (with_reducible refine (HOB.out w1 HB1.out).mono ?_); rintro e w2 ⟨Ar, cr, Ai, ci, rfl, hi2, hb2⟩; have HB2 := hide (HB1.out.trans (hb2.mono HB1.out.size)); have HI2 := hide hi2; have l2 := hb2.size; clear hb2 hi2)
  obtain ⟨w3, hw3⟩ := zr (w2.alloc (.cells #[.slice Ar rl cr, .slice Ai il ci] 70))
  obtain ⟨h6, hh6⟩ := zl w2.heap.size
  have HFX0 := zx1 hw3 hh6
  have HB3 := zb1 hw3
  have w3s := HB3.out.size
  have w3z := zs1 hw3 hh6
  have HFK0 := zk2 HFX0
  have lHFX0 := HFX0.out.lt
  have h6g : w2.heap.size <= h6 := by omega
  rw [<- hw3, hh6]
  clear hw3 hh6
  obtain ⟨c0, c1⟩ := HFK0.out w3 (Below.refl _ _)
  have HI3 := hide (HI2.out.2.keep (w' := w3) (Same'.of_below (HB3.out.mono (show B <= w2.heap.size by have := HB2.out.size; omega))) (fun _ h => h))
  go_wp2_with (go_at_call 145; (with_reducible refine (HFD.out _ w3 HI3.out (by have := HB2.out.size; omega)).mono ?_); rintro e w' ⟨rfl, rfl⟩)
  go_ret2
  exact ⟨rfl, HB2.out.trans (HB3.out.mono HB2.out.size)⟩
 ·have hv : jbb h obj n = (0, atN h obj) := by unfold jbb; rw [if_neg ha]
  rw [hv]
  have HOB := hide (fun (W : World) (hW : Below w.heap.size w W) => jj7 vh h obj W B (by have := hW.size; omega) (hh.keep (up hW hB) (fun _ h => h)) ha)
  obtain ⟨Ao, c, rfl, hc, hm⟩ := hh.open'
  have hE : (((atN h obj : Nat) : Int) != 0) = true := by simpa using ha
  have hE2 : (((atN h obj : Nat) : Int) == 0) = false := by simpa using ha
  generalize h.length = hl at *
  generalize ((atN h obj : Nat) : Int) = E at *
  clear hh ha hv
  go_enter Tryz.func144, Tryz.ntmps144
  go_upto_region 1 with (fail)
  obtain ⟨w1, hw1⟩ := zr (w.alloc (.cells #[.slice Ao hl c] 31))
  obtain ⟨h5, hh5⟩ := zl w.heap.size
  have HX0 := zx1 hw1 hh5
  have HB1 := zb1 hw1
  have w1s := HB1.out.size
  have w1z := zs1 hw1 hh5
  have HK0 := zk1 HX0
  have lHX0 := HX0.out.lt
  have h5g : w.heap.size <= h5 := by omega
  rw [<- hw1, hh5]
  clear hw1 hh5
  have p0 := HK0.out w1 (Below.refl _ _)
  go_upto_region 2 with (go_at_call 140; (with_reducible refine (HOB.out w1 HB1.out).mono ?_); rintro e w2 ⟨rfl, hb2⟩; have HB2 := hide (HB1.out.trans (hb2.mono HB1.out.size)); have l2 := hb2.size; clear hb2)
  go_wp2
  go_ret2
  exact ⟨rfl, HB2.out.trans ((jdc w2 _).mono HB2.out.size)⟩
theorem href_any (vh : Value) (h : List ObjV) (obj n : Int) (w : World) (B : Nat) (hB : B <= w.heap.size) (hh : ObjsV w (· < B) vh h) (hmx : h.length <= 1000000) :
  Calls Tryz.prog 111 #[.agg #[vh], .int .i64 obj, .int .i64 n] w fun e w' => e = .returned (.tuple #[.int .i64 (refR h obj n).1, .int .i64 (((refR h obj n).2 : Nat) : Int)]) /\ Below w.heap.size w w' := by
 by_cases ha : atN h obj = 0
 ·have hv : refR h obj n = fldR (objO h obj).refs n := by unfold refR; rw [if_pos ha]
  rw [hv]
  obtain ⟨hr, h1, h2⟩ := atN_zero.1 ha
  obtain ⟨k, rfl⟩ : ∃ k : Nat, obj = (k : Int) + 1 := ⟨(obj - 1).toNat, by omega⟩
  have HOB := hide (fun (W : World) (hW : Below w.heap.size w W) => jnm vh h k W B (by have := hW.size; omega) (hh.keep (up hW hB) (fun _ h => h)) hr (by omega) hmx)
  generalize objO h ((k : Int) + 1) = o at *
  have HFD := hide (fun (v : Value) (W : World) (hx : IntsV W (· < B) v o.refs) (hB : B <= W.heap.size) => ji9 v o.refs n W B hx hB)
  generalize fldR o.refs n = r at *
  obtain ⟨Ao, c, rfl, hc, hm⟩ := hh.open'
  generalize h.length = hl at *
  clear hh ha hv hr h1 h2
  generalize o.refs.length = rl, o.ints.length = il at *
  go_enter Tryz.func111, Tryz.ntmps111
  go_upto_region 1 with (fail)
  obtain ⟨w1, hw1⟩ := zr (w.alloc (.cells #[.slice Ao hl c] 31))
  obtain ⟨h5, hh5⟩ := zl w.heap.size
  have HX0 := zx1 hw1 hh5
  have HB1 := zb1 hw1
  have w1s := HB1.out.size
  have w1z := zs1 hw1 hh5
  have HK0 := zk1 HX0
  have lHX0 := HX0.out.lt
  have h5g : w.heap.size <= h5 := by omega
  rw [<- hw1, hh5]
  clear hw1 hh5
  have p0 := HK0.out w1 (Below.refl _ _)
  go_upto_region 2 with (go_at_call 140; (with_reducible refine (HOB.out w1 HB1.out).mono ?_); rintro e w2 ⟨Ar, cr, Ai, ci, rfl, hi2, hb2⟩; have HB2 := hide (HB1.out.trans (hb2.mono HB1.out.size)); have HI2 := hide hi2; have l2 := hb2.size; clear hb2 hi2)
  obtain ⟨w3, hw3⟩ := zr (w2.alloc (.cells #[.slice Ar rl cr, .slice Ai il ci] 70))
  obtain ⟨h6, hh6⟩ := zl w2.heap.size
  have HFX0 := zx1 hw3 hh6
  have HB3 := zb1 hw3
  have w3s := HB3.out.size
  have w3z := zs1 hw3 hh6
  have HFK0 := zk2 HFX0
  have lHFX0 := HFX0.out.lt
  have h6g : w2.heap.size <= h6 := by omega
  rw [<- hw3, hh6]
  clear hw3 hh6
  obtain ⟨c0, c1⟩ := HFK0.out w3 (Below.refl _ _)
  have HI3 := hide (HI2.out.1.keep (w' := w3) (Same'.of_below (HB3.out.mono (show B <= w2.heap.size by have := HB2.out.size; omega))) (fun _ h => h))
  go_wp2_with (go_at_call 145; (with_reducible refine (HFD.out _ w3 HI3.out (by have := HB2.out.size; omega)).mono ?_); rintro e w' ⟨rfl, rfl⟩)
  go_ret2
  exact ⟨rfl, HB2.out.trans (HB3.out.mono HB2.out.size)⟩
 ·have hv : refR h obj n = (0, atN h obj) := by unfold refR; rw [if_neg ha]
  rw [hv]
  have HOB := hide (fun (W : World) (hW : Below w.heap.size w W) => jj7 vh h obj W B (by have := hW.size; omega) (hh.keep (up hW hB) (fun _ h => h)) ha)
  obtain ⟨Ao, c, rfl, hc, hm⟩ := hh.open'
  have hE : (((atN h obj : Nat) : Int) != 0) = true := by simpa using ha
  have hE2 : (((atN h obj : Nat) : Int) == 0) = false := by simpa using ha
  generalize h.length = hl at *
  generalize ((atN h obj : Nat) : Int) = E at *
  clear hh ha hv
  go_enter Tryz.func111, Tryz.ntmps111
  go_upto_region 1 with (fail)
  obtain ⟨w1, hw1⟩ := zr (w.alloc (.cells #[.slice Ao hl c] 31))
  obtain ⟨h5, hh5⟩ := zl w.heap.size
  have HX0 := zx1 hw1 hh5
  have HB1 := zb1 hw1
  have w1s := HB1.out.size
  have w1z := zs1 hw1 hh5
  have HK0 := zk1 HX0
  have lHX0 := HX0.out.lt
  have h5g : w.heap.size <= h5 := by omega
  rw [<- hw1, hh5]
  clear hw1 hh5
  have p0 := HK0.out w1 (Below.refl _ _)
  go_upto_region 2 with (go_at_call 140; (with_reducible refine (HOB.out w1 HB1.out).mono ?_); rintro e w2 ⟨rfl, hb2⟩; have HB2 := hide (HB1.out.trans (hb2.mono HB1.out.size)); have l2 := hb2.size; clear hb2)
  go_wp2
  go_ret2
  exact ⟨rfl, HB2.out.trans ((jdc w2 _).mono HB2.out.size)⟩
theorem js0 (k : Nat) (hk : k <= 100000) (w : World) :
  Calls Tryz.prog 178 #[.slice none 0 0, .int .i64 (k : Int)] w fun e w' => ∃ v, e = .returned v /\ OwC objC 70 2 w' w.heap.size v [] /\ Below w.heap.size w w' := by
 by_cases h0 : k = 0
 ·subst h0
  go_enter Tryz.func178, Tryz.ntmps178
  go_wp2
  go_ret
  exact ⟨_, rfl, OwC.nil _ _, Below.refl _ _⟩
 obtain ⟨i0, hi0, hz0, hz1, hz2⟩ := info_parts jnj
 have ht : Tryz.prog.underlying 29 = some (.slice 70) := by kernel_rfl
 have hold : (Builtin.firstCells i0.size 0 (.slice none 0 0)).run Tryz.prog w.drew = .ok (#[] : Array Value) w.drew := run_firstCells_none w.drew i0.size 0 0 0
 have hrz : ∀ ty, (Builtin.append_ #[29, 3] ty #[.slice none 0 0, .int .i64 (k : Int)]).run Tryz.prog w =
   .ok (.slice (some ⟨w.heap.size, 0, none⟩) k (grownCap w k 0 70)) (w.drew.alloc (.cells ((#[] : Array Value) ++ Builtin.zeroCells #[.slice none 0 0, .slice none 0 0] k ++ Builtin.zeroCells #[.slice none 0 0, .slice none 0 0] (grownCap w k 0 70 - k)) 70)) := fun ty => by
  have h := Lib.run_append_grow_zeros w 29 3 ty 70 i0 _ .i64 .i64 ht Tryz.underlying3 hi0 hz0 none 0 0 [] hold k (by omega) (by rw [hz1]; omega) (by omega) (by omega) (by rw [hz2]; omega) (growslice_fits (by omega) (by rw [hz2]; omega))
  rw [Nat.zero_add] at h
  exact h
 have hGn : k <= grownCap w k 0 70 := grownCap_ge w _ _ _
 have hGm : grownCap w k 0 70 <= maxLen := grownCap_le_maxLen w k 0 70 (by unfold maxLen; omega)
 obtain ⟨G, hG⟩ := zr (grownCap w k 0 70)
 rw [<- hG] at hrz hGn hGm
 obtain ⟨cs, hcs⟩ := zr ((#[] : Array Value) ++ Builtin.zeroCells #[.slice none 0 0, .slice none 0 0] k ++ Builtin.zeroCells #[.slice none 0 0, .slice none 0 0] (G - k))
 have HSZ := hide (show cs.size = G * 2 by rw [hcs]; simp only [Array.size_append, size_zeroCells]; simp; omega)
 rw [<- hcs] at hrz
 have HGM := hide hGm
 unfold maxLen at hGm
 have hkz : ¬ ((k : Int) < 0) := by omega
 have hk1 : (k : Int) > 0 := by omega
 clear hold hG hcs hi0 hz0 hz1 hz2 ht
 go_enter Tryz.func178, Tryz.ntmps178
 go_wp2_with (at_builtin; refine Lib.wpList_append_run _ rfl _ _ _ _ rfl _ _ rfl rfl _ _ (hrz _) ?_)
 go_ret
 refine ⟨_, rfl, ⟨rfl, .inr ⟨_, _, cs, rfl, Nat.le_refl _, heap_alloc_new w.drew _, Nat.zero_le _, HGM.out, HSZ.out, by simp⟩⟩, ?_⟩
 exact (ja0 (Below.refl _ _) 1).alloc (Nat.le_refl _) _
theorem jmg (hs : Nat) (A1 A2 : Option Addr) (n c m d : Nat) (xs ys : List ObjV) (w : World) (S : Nat -> Prop) (hS : ∀ b, S b -> b < w.heap.size) (hb : Box w hs #[.slice A1 n c, .slice A2 m d] 29) (hx : ObjsV w S (.slice A1 n c) xs) (hy : ObjsV w S (.slice A2 m d) ys) (hn : xs.length = n) (hm : ys.length = m) (hmx : n + m <= 100000) :
  Calls Tryz.prog 165 #[.slice (some ⟨hs, 0, none⟩) 2 2] w fun e w' => ∃ v, e = .returned v /\ ObjsV w' (fun b => S b \/ Made w w' b) v (xs ++ ys) /\ Below w.heap.size w w' := by
 have HG := hide (fun (W : World) => (show Calls Tryz.prog 178 #[.slice none 0 0, .int .i64 ((n : Int) + (m : Int))] W fun e w' => ∃ v, e = .returned v /\ OwC objC 70 2 w' W.heap.size v [] /\ Below W.heap.size W w' by have h := js0 (n + m) hmx W; rwa [Int.natCast_add] at h))
 obtain ⟨l1, e1, ok1, cl1⟩ := hx.cells
 obtain ⟨l2, e2, ok2, cl2⟩ := hy.cells
 have hl1 : l1.length = n := by have := congrArg List.length e1; rw [List.length_map] at this; omega
 have hl2 : l2.length = m := by have := congrArg List.length e2; rw [List.length_map] at this; omega
 have HL1 := hide hl1
 have HL2 := hide hl2
 have HE1 := hide e1
 have HE2 := hide e2
 have HO1 := hide ok1
 have HO2 := hide ok2
 have HN1 := hide (ObjOk.one ok1)
 have HN2 := hide (ObjOk.one ok2)
 rw [hn] at cl1
 rw [hm] at cl2
 have HR1 := hide (fun (W : World) (hW : Below w.heap.size w W) => (show 0 < n -> ∃ b o, A1 = some ⟨b, o, none⟩ /\ ∀ (j : Nat) (u : Value), (l1.flatMap objC)[j]? = some u -> W.cell? ⟨b, o + j, none⟩ = some u from fun h => by
  obtain ⟨b, o, e, hb, hc⟩ := cl1 h
  exact ⟨b, o, e, fun j u hu => (hW.cell (p := ⟨b, o + j, none⟩) (hS b hb)).trans (hc j u hu)⟩))
 have HR2 := hide (fun (W : World) (hW : Below w.heap.size w W) => (show 0 < m -> ∃ b o, A2 = some ⟨b, o, none⟩ /\ ∀ (j : Nat) (u : Value), (l2.flatMap objC)[j]? = some u -> W.cell? ⟨b, o + j, none⟩ = some u from fun h => by
  obtain ⟨b, o, e, hb, hc⟩ := cl2 h
  exact ⟨b, o, e, fun j u hu => (hW.cell (p := ⟨b, o + j, none⟩) (hS b hb)).trans (hc j u hu)⟩))
 have HBX := hide (fun (W : World) (hW : Below w.heap.size w W) => And.intro ((hb.below hW).cell 0 (v := .slice A1 n c) rfl).1 ((hb.below hW).cell 1 (v := .slice A2 m d) rfl).1)
 have lhs := hb.lt
 obtain ⟨b0, b1⟩ := HBX.out w (Below.refl _ _)
 clear hb hx hy hn hm e1 e2 ok1 ok2 cl1 cl2 hl1 hl2
 have hw1 : IntKind.i64.wrap ((n : Int) + (m : Int)) = (n : Int) + (m : Int) := by rw [IntWalk.i64_in _ ⟨by omega, by omega⟩]
 go_enter Tryz.func165, Tryz.ntmps165
 go_wp2
 go_loop [3, 11] (fun s i => (i = .int .i64 0 /\ s = .int .i64 0) \/ (i = .int .i64 1 /\ s = .int .i64 (n : Int)) \/ (i = .int .i64 2 /\ s = .int .i64 ((n : Int) + (m : Int)))) (fun _ i => 2 - (intOf i).toNat)
 case atStart => exact .inl ⟨rfl, rfl⟩
 case round =>
  rcases hrel with ⟨rfl, rfl⟩ | ⟨rfl, rfl⟩ | ⟨rfl, rfl⟩
  ·go_wp2
   go_round
   case rel => exact .inr (.inl ⟨rfl, by simp⟩)
   case measure => simp [intOf]
  ·have hnm : ¬ ((n : Int) + (m : Int) < 0) := by omega
   go_wp2
   go_round
   case rel => exact .inr (.inr ⟨rfl, by first | rfl | simp⟩)
   case measure => simp [intOf]
  ·go_wp2_with (go_at_call 178; (with_reducible refine (HG.out w).mono ?_); rintro e w2 ⟨v2, rfl, ho2, hb2⟩; have HO := hide ho2; have HB2 := hide hb2; clear ho2 hb2)
   go_loopw [6, 27] (fun s i wr => ∃ (u : Value) (l : List ObjT), u = s /\ ((i = .int .i64 0 /\ l = []) \/ (i = .int .i64 1 /\ l = l1) \/ (i = .int .i64 2 /\ l = l1 ++ l2)) /\ Hid (OwC objC 70 2 wr w.heap.size u l) /\ Below w.heap.size w wr) (fun _ i _ => 2 - (intOf i).toNat)
   case atStart => exact ⟨_, [], rfl, .inl ⟨rfl, rfl⟩, HO, HB2.out⟩
   case round =>
    obtain ⟨u, l, rfl, hc, HO, hb⟩ := hrel
    obtain ⟨wo, rfl⟩ := zr wr
    have hsz := hb.size
    have HB := hide hb
    obtain ⟨b0, b1⟩ := HBX.out wo hb
    have lho : hs < wo.heap.size := by omega
    clear hb
    rcases hc with ⟨rfl, rfl⟩ | ⟨rfl, rfl⟩ | ⟨rfl, rfl⟩
    ·go_wp2_with (at_builtin; refine jbp _ rfl (.tmp 31) (.tmp 32) rfl w.heap.size u [] (by rfl) HO.out A1 n c l1 (by rfl) HL1.out HN1.out (HR1.out wo HB.out) (by simp; omega) hsz ?_; intro v5 w5 ho5 hb5)
     go_roundw
     case rel => exact ⟨_, l1, rfl, .inr (.inl ⟨rfl, rfl⟩), hide (by simpa using ho5), HB.out.trans hb5⟩
     case measure => simp [intOf]
    ·have hroom := HL1.out
     have HRM := hide (show l.length + m <= 1000000 by omega)
     clear hroom
     go_wp2_with (at_builtin; refine jbp _ rfl (.tmp 31) (.tmp 32) rfl w.heap.size u l (by rfl) HO.out A2 m d l2 (by rfl) HL2.out HN2.out (HR2.out wo HB.out) HRM.out hsz ?_; intro v5 w5 ho5 hb5)
     go_roundw
     case rel => exact ⟨_, l ++ l2, rfl, .inr (.inr ⟨rfl, rfl⟩), hide ho5, HB.out.trans hb5⟩
     case measure => simp [intOf]
    ·go_wp2
     go_ret
     refine ⟨u, rfl, ?_, HB.out⟩
     rw [<- HE1.out, <- HE2.out, <- List.map_append]
     refine jn9 HO.out (fun p hp => ?_) (fun b hb => .inr (World.ownsRow.lt HO.out b hb))
     rcases List.mem_append.1 hp with hp | hp
     ·exact (HO1.out p hp).keep (upS HB.out hS) (fun b hb => .inl hb)
     ·exact (HO2.out p hp).keep (upS HB.out hS) (fun b hb => .inl hb)
def AL1 (w1 : World) (r i : Nat) (f : Value) (wx : World) : Prop :=
 ∃ hr hi hf, f = .pointer (some ⟨hf, 0, none⟩) /\ (w1.heap.size <= hr /\ w1.heap.size <= hi /\ w1.heap.size <= hf) /\ Below w1.heap.size w1 wx /\ Box wx hr ((List.replicate r (0 : Int)).map (Value.int .i64)).toArray 3 /\ Box wx hi ((List.replicate i (0 : Int)).map (Value.int .i64)).toArray 3 /\ Box wx hf #[.slice (some ⟨hr, 0, none⟩) r r, .slice (some ⟨hi, 0, none⟩) i i] 70
theorem al3h (w : World) (o1 o2 o3 : Obj) : (((w.alloc o1).alloc o2).alloc o3).drew.heap[w.heap.size]? = some o1 /\ (((w.alloc o1).alloc o2).alloc o3).drew.heap[w.heap.size + 1]? = some o2 /\ (((w.alloc o1).alloc o2).alloc o3).drew.heap[w.heap.size + 1 + 1]? = some o3 := by
 have h1 := heap_alloc_new w o1
 have h2 := heap_alloc_new (w.alloc o1) o2
 have h3 := heap_alloc_new ((w.alloc o1).alloc o2) o3
 simp only [World.size_alloc] at h2 h3
 refine ⟨?_, ?_, h3⟩
 ·exact (Below.heap_alloc _ _ _ (by simp only [World.size_alloc]; omega)).trans ((Below.heap_alloc _ _ _ (by simp only [World.size_alloc]; omega)).trans h1)
 ·exact (Below.heap_alloc _ _ _ (by simp only [World.size_alloc]; omega)).trans h2
theorem below3 (w : World) (o1 o2 o3 : Obj) : Below w.heap.size w (((w.alloc o1).alloc o2).alloc o3).drew :=
 ((((Below.refl _ _).alloc (Nat.le_refl _) _).alloc (by simp only [World.size_alloc]; omega) _).alloc (by simp only [World.size_alloc]; omega) _).drew
theorem jif {w1 : World} {r i hr hi hf : Nat} {Zr Zi : Array Value} {o1 o2 o3 : Obj} (hZr : Zr = ((List.replicate r (0 : Int)).map (Value.int .i64)).toArray) (hZi : Zi = ((List.replicate i (0 : Int)).map (Value.int .i64)).toArray)
  (hge : w1.heap.size <= hr /\ w1.heap.size <= hi /\ w1.heap.size <= hf)
  (h1 : (((w1.alloc o1).alloc o2).alloc o3).drew.heap[hr]? = some (.cells Zr 3)) (h2 : (((w1.alloc o1).alloc o2).alloc o3).drew.heap[hi]? = some (.cells Zi 3)) (h3 : (((w1.alloc o1).alloc o2).alloc o3).drew.heap[hf]? = some (.cells #[.slice (some ⟨hr, 0, none⟩) r r, .slice (some ⟨hi, 0, none⟩) i i] 70)) :
  AL1 w1 r i (.pointer (some ⟨hf, 0, none⟩)) (((w1.alloc o1).alloc o2).alloc o3).drew := by
 subst hZr
 subst hZi
 exact ⟨hr, hi, hf, rfl, hge, below3 _ _ _ _, h1, h2, h3⟩
theorem jnu {w : World} {h r : Nat} (hb : Box w h ((List.replicate r (0 : Int)).map (Value.int .i64)).toArray 3) (hr : r <= 1000) {S : Nat -> Prop} (hS : S h) : IntsV w S (.slice (some ⟨h, 0, none⟩) r r) (List.replicate r 0) := by
 refine ⟨_, r, by rw [List.length_replicate], by rw [List.length_replicate]; exact Nat.le_refl _, by omega, fun _ => ⟨h, 0, rfl, hS, fun j x hj => ⟨?_, ?_⟩⟩⟩
 ·have hj' := hj
  have hjl := (List.getElem?_eq_some_iff.1 hj).1
  rw [Nat.zero_add, Nat.mul_one]
  refine (hb.cell j ?_).1
  rw [<- Array.getElem?_toList]
  simp only [List.getElem?_map, hj, Option.map_some]
 ·have := List.eq_of_mem_replicate (List.mem_of_getElem? hj)
  subst this
  unfold i64R; omega
end Go.Proofs.YthbnbaikdcfbmaaGreatDoor
