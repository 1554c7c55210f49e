/- Layer 10, the program: contracts of value. No condition but on lengths. -/
import Derived.Test.YthbnbaikdcfbmaaGreatDoorPmUI
set_option linter.unusedSimpArgs false
set_option linter.unusedVariables false
set_option maxHeartbeats 2000000
set_option maxRecDepth 100000
namespace Go.Proofs.YthbnbaikdcfbmaaGreatDoor
open Go.RowKit
section
variable {w : World} {base hc : Nat} {vp va vh ve : Value} {P : List FunV} {s : StV} {L : List (FrV × ActW)} {S : Nat -> Prop}
theorem RunP.mlt (h : RunP w base hc vp P s va vh ve L S) : ∀ b, MutR hc va ve L b -> b < w.heap.size := fun b hm => by
 rcases hm with rfl | hm | hm | ⟨p, hp, hm⟩
 ·exact h.box.lt
 ·exact (h.acts.lt b hm).2
 ·exact (h.evs.row' b hm).2.1
 ·exact ((h.all p hp).vars.lt b hm).2
theorem RunP.off (h : RunP w base hc vp P s va vh ve L S) {r j : Nat} {v : Value} (hr : ¬ S r) (hm : ¬ MutR hc va ve L r) (hb : base <= r) : RunP (w.setCell ⟨r, j, none⟩ v) base hc vp P s va vh ve L S := by
 have kS : ∀ b, b ≠ r -> (w.setCell ⟨r, j, none⟩ v).heap[b]? = w.heap[b]? := fun b hb => heap_setCell_other _ _ _ _ hb
 have hbb := h.hb
 refine ⟨(kS hc (fun e => hm (.inl e.symm))).trans h.box, h.stk, h.acts.kept fun g hg => kS g (fun e => hm (.inr (.inl (by rw [<- e]; exact hg)))), fun p hp => ?_, h.dis, h.objs.keep (fun b o hs => ja8 (kS b (fun e => hr (by rw [<- e]; exact hs))) o) (fun _ h => h), fun b hs => ⟨by rw [World.size_setCell]; exact (h.sin b hs).1, (h.sin b hs).2⟩, h.evs.kept' fun g hg => kS g (fun e => hm (.inr (.inr (.inl (by rw [<- e]; exact hg))))), h.hb⟩
 have ha := h.all p hp
 obtain ⟨F, h1, h2, h3, h4⟩ := ha.fn
 exact ⟨⟨F, h1, h2.blk (fun b hb' => kS b (by omega)), h3, h4⟩, ha.vars.kept fun g hg => kS g (fun e => hm (.inr (.inr (.inr ⟨p, hp, by rw [<- e]; exact hg⟩))))⟩
end
theorem jk3 (base hc : Nat) (vp va vh ve : Value) (P : List FunV) (s : StV) (L : List (FrV × ActW)) (S : Nat -> Prop) (d xn xm : Int) (i j gv nv cv : Nat) (u y : ValV) (A : Option Addr) (l c : Nat) (w : World) (hR : RunP w base hc vp P s va vh ve L S) (hl : s.heap.length <= 10000) (hbase : base <= w.heap.size)
  (hg : gv < w.heap.size) (hi : i < nv) (hj : j < nv) (hu : ValAt w gv i u) (hy : ValAt w gv j y) :
  Calls Tryz.prog 90 #[.pointer (some ⟨hc, 0, none⟩), .slice (some ⟨gv, 0, none⟩) nv cv, .agg #[.int .i64 11, .int .i64 d, .int .i64 (i : Int), .int .i64 (j : Int), .int .i64 xn, .int .i64 xm, .slice A l c]] w fun e w' => e = .returned (.tuple #[.agg #[.int .i64 (jbb s.heap u.o xn).1, .int .i64 0, .int .i64 0], .int .i64 ((((jbb s.heap u.o xn).2 : Nat) : Int))]) /\ Below w.heap.size w w' := by
 have hlt := hR.box.lt
 have hbh := hR.hb
 have HC := hide (fun (W : World) (hW : Below w.heap.size w W) => jjn base hc vp va vh ve P s L S u.o xn W (hR.below hW) hl)
 generalize jbb s.heap u.o xn = r at *
 obtain ⟨r1, r2⟩ := r
 show Calls Tryz.prog 90 #[.pointer (some ⟨hc, 0, none⟩), .slice (some ⟨gv, 0, none⟩) nv cv, .agg #[.int .i64 11, .int .i64 d, .int .i64 (i : Int), .int .i64 (j : Int), .int .i64 xn, .int .i64 xm, .slice A l c]] w fun e w' => e = .returned (.tuple #[.agg #[.int .i64 (r1), .int .i64 (0), .int .i64 (0)], .int .i64 ((r2 : Nat) : Int)]) /\ Below w.heap.size w w'
 obtain ⟨hu0, hu1, hu2⟩ := hu
 obtain ⟨hy0, hy1, hy2⟩ := hy
 have i1 : (0 : Int) <= (i : Int) := by omega
 have i2 : (i : Int) < (nv : Int) := by omega
 have i3 : (0 : Int) <= (j : Int) := by omega
 have i4 : (j : Int) < (nv : Int) := by omega
 clear hR hl hi hj
 go_enter Tryz.func90, Tryz.ntmps90
 go_upto_region 1 with (fail)
 obtain ⟨w1, hw1⟩ := zr ((w.alloc (.cells #[.int .i64 11, .int .i64 d, .int .i64 (i : Int), .int .i64 (j : Int), .int .i64 xn, .int .i64 xm, .slice A l c] 57)).alloc (.cells #[.int .i64 0, .int .i64 0, .int .i64 0] 87))
 obtain ⟨h5, hh5⟩ := zl w.heap.size
 have HX0 := zy2 hw1 hh5
 have HX1 := zx2 hw1 hh5
 have HB1 := zb2 hw1
 have h5g : w.heap.size <= h5 + 1 := by omega
 have hg1 : gv < w1.heap.size := Nat.lt_of_lt_of_le hg HB1.out.size
 have lX1 := HX1.out.lt
 have lX0 := HX0.out.lt
 replace hu0 := (HB1.out.cell (p := ⟨gv, i * 3, none⟩) hg).trans hu0
 replace hu1 := (HB1.out.cell (p := ⟨gv, i * 3 + 1, none⟩) hg).trans hu1
 replace hu2 := (HB1.out.cell (p := ⟨gv, i * 3 + 2, none⟩) hg).trans hu2
 replace hy0 := (HB1.out.cell (p := ⟨gv, j * 3, none⟩) hg).trans hy0
 replace hy1 := (HB1.out.cell (p := ⟨gv, j * 3 + 1, none⟩) hg).trans hy1
 replace hy2 := (HB1.out.cell (p := ⟨gv, j * 3 + 2, none⟩) hg).trans hy2
 obtain ⟨q2, -⟩ := HX0.out.cell 2 (v := .int .i64 (i : Int)) rfl
 obtain ⟨q3, -⟩ := HX0.out.cell 3 (v := .int .i64 (j : Int)) rfl
 rw [<- hw1, hh5]
 clear hw1 hh5
 go_cut [8, 9] from 12 to 22 (fun p q wx => TwoV w1 u y p q wx)
 case first =>
  go_region
  all_goals
   go_wp2_with fail
   go_meet
  all_goals first
   | exact jdo w1 u y
   | exact jdn w1 u y
 case rest =>
  obtain ⟨H1, H2, rfl, rfl, hb1, hb2, hl1, hl2, hbw⟩ := hcut
  have HB2 := hide (HB1.out.trans (hbw.mono HB1.out.size))
  have HX0c := hide (HX0.out.below hbw)
  have HX1c := hide (HX1.out.below hbw)
  clear q2 q3
  obtain ⟨q0, -⟩ := HX0c.out.cell 0 (v := .int .i64 11) rfl
  obtain ⟨q1, -⟩ := HX0c.out.cell 1 (v := .int .i64 d) rfl
  obtain ⟨q2, -⟩ := HX0c.out.cell 2 (v := .int .i64 (i : Int)) rfl
  obtain ⟨q3, -⟩ := HX0c.out.cell 3 (v := .int .i64 (j : Int)) rfl
  obtain ⟨q4, -⟩ := HX0c.out.cell 4 (v := .int .i64 xn) rfl
  obtain ⟨q5, -⟩ := HX0c.out.cell 5 (v := .int .i64 xm) rfl
  obtain ⟨q6, -⟩ := HX0c.out.cell 6 (v := .slice A l c) rfl
  obtain ⟨b0, -⟩ := hb1.cell 0 (v := .int .i64 u.n) rfl
  obtain ⟨b1, -⟩ := hb1.cell 1 (v := .int .i64 u.o) rfl
  obtain ⟨b2, -⟩ := hb1.cell 2 (v := .int .i64 u.a) rfl
  obtain ⟨e0, -⟩ := hb2.cell 0 (v := .int .i64 y.n) rfl
  obtain ⟨e1, -⟩ := hb2.cell 1 (v := .int .i64 y.o) rfl
  obtain ⟨e2, -⟩ := hb2.cell 2 (v := .int .i64 y.a) rfl
  have lx5 := HX0c.out.lt
  have lH1 := hb1.lt
  have lH2 := hb2.lt
  have lhc := Nat.lt_of_lt_of_le hlt HB2.out.size
  have lx6 : h5 + 1 < wc.heap.size := HX1c.out.lt
  clear hb1 hb2 hbw hl1 hl2 hu0 hu1 hu2 hy0 hy1 hy2
  go_wp2_with (go_at_call 110; (with_reducible refine (HC.out wc HB2.out).mono ?_); rintro e w2 ⟨rfl, hb2⟩; have HBC := hide (HB2.out.trans (hb2.mono HB2.out.size)); have HX2 := hide (HX1c.out.below hb2); obtain ⟨z0, g0⟩ := (HX1c.out.below hb2).cell 0 (v := .int .i64 0) rfl; obtain ⟨z1, g1⟩ := (HX1c.out.below hb2).cell 1 (v := .int .i64 0) rfl; obtain ⟨z2, g2⟩ := (HX1c.out.below hb2).cell 2 (v := .int .i64 0) rfl; clear hb2)
  have HZ := hide (((HX2.out.set 0 (.int .i64 (r1))).set 1 (.int .i64 (0))).set 2 (.int .i64 (0)))
  have y0 := (HZ.out.cell 0 (v := .int .i64 (r1)) rfl).1
  have y1 := (HZ.out.cell 1 (v := .int .i64 (0)) rfl).1
  have y2 := (HZ.out.cell 2 (v := .int .i64 (0)) rfl).1
  refine bodyPost_ret (v := .tuple #[.agg #[.int .i64 (r1), .int .i64 (0), .int .i64 (0)], .int .i64 ((r2 : Nat) : Int)]) (by simp [results, Tryz.results90, go_sem, y0, y1, y2]) rfl ⟨rfl, ?_⟩
  exact ((HBC.out.setCell (p := ⟨h5 + 1, 0, none⟩) h5g _).setCell (p := ⟨h5 + 1, 1, none⟩) h5g _).setCell (p := ⟨h5 + 1, 2, none⟩) h5g _
theorem jjz (base hc : Nat) (vp va vh ve : Value) (P : List FunV) (s : StV) (L : List (FrV × ActW)) (S : Nat -> Prop) (d xn xm : Int) (i j gv nv cv : Nat) (u y : ValV) (A : Option Addr) (l c : Nat) (w : World) (hR : RunP w base hc vp P s va vh ve L S) (hl : s.heap.length <= 10000) (hbase : base <= w.heap.size)
  (hg : gv < w.heap.size) (hi : i < nv) (hj : j < nv) (hu : ValAt w gv i u) (hy : ValAt w gv j y) :
  Calls Tryz.prog 90 #[.pointer (some ⟨hc, 0, none⟩), .slice (some ⟨gv, 0, none⟩) nv cv, .agg #[.int .i64 17, .int .i64 d, .int .i64 (i : Int), .int .i64 (j : Int), .int .i64 xn, .int .i64 xm, .slice A l c]] w fun e w' => e = .returned (.tuple #[.agg #[.int .i64 (jbb s.heap u.o u.a).1, .int .i64 0, .int .i64 0], .int .i64 ((((jbb s.heap u.o u.a).2 : Nat) : Int))]) /\ Below w.heap.size w w' := by
 have hlt := hR.box.lt
 have hbh := hR.hb
 have HC := hide (fun (W : World) (hW : Below w.heap.size w W) => jjn base hc vp va vh ve P s L S u.o u.a W (hR.below hW) hl)
 generalize jbb s.heap u.o u.a = r at *
 obtain ⟨r1, r2⟩ := r
 show Calls Tryz.prog 90 #[.pointer (some ⟨hc, 0, none⟩), .slice (some ⟨gv, 0, none⟩) nv cv, .agg #[.int .i64 17, .int .i64 d, .int .i64 (i : Int), .int .i64 (j : Int), .int .i64 xn, .int .i64 xm, .slice A l c]] w fun e w' => e = .returned (.tuple #[.agg #[.int .i64 (r1), .int .i64 (0), .int .i64 (0)], .int .i64 ((r2 : Nat) : Int)]) /\ Below w.heap.size w w'
 obtain ⟨hu0, hu1, hu2⟩ := hu
 obtain ⟨hy0, hy1, hy2⟩ := hy
 have i1 : (0 : Int) <= (i : Int) := by omega
 have i2 : (i : Int) < (nv : Int) := by omega
 have i3 : (0 : Int) <= (j : Int) := by omega
 have i4 : (j : Int) < (nv : Int) := by omega
 clear hR hl hi hj
 go_enter Tryz.func90, Tryz.ntmps90
 go_upto_region 1 with (fail)
 obtain ⟨w1, hw1⟩ := zr ((w.alloc (.cells #[.int .i64 17, .int .i64 d, .int .i64 (i : Int), .int .i64 (j : Int), .int .i64 xn, .int .i64 xm, .slice A l c] 57)).alloc (.cells #[.int .i64 0, .int .i64 0, .int .i64 0] 87))
 obtain ⟨h5, hh5⟩ := zl w.heap.size
 have HX0 := zy2 hw1 hh5
 have HX1 := zx2 hw1 hh5
 have HB1 := zb2 hw1
 have h5g : w.heap.size <= h5 + 1 := by omega
 have hg1 : gv < w1.heap.size := Nat.lt_of_lt_of_le hg HB1.out.size
 have lX1 := HX1.out.lt
 have lX0 := HX0.out.lt
 replace hu0 := (HB1.out.cell (p := ⟨gv, i * 3, none⟩) hg).trans hu0
 replace hu1 := (HB1.out.cell (p := ⟨gv, i * 3 + 1, none⟩) hg).trans hu1
 replace hu2 := (HB1.out.cell (p := ⟨gv, i * 3 + 2, none⟩) hg).trans hu2
 replace hy0 := (HB1.out.cell (p := ⟨gv, j * 3, none⟩) hg).trans hy0
 replace hy1 := (HB1.out.cell (p := ⟨gv, j * 3 + 1, none⟩) hg).trans hy1
 replace hy2 := (HB1.out.cell (p := ⟨gv, j * 3 + 2, none⟩) hg).trans hy2
 obtain ⟨q2, -⟩ := HX0.out.cell 2 (v := .int .i64 (i : Int)) rfl
 obtain ⟨q3, -⟩ := HX0.out.cell 3 (v := .int .i64 (j : Int)) rfl
 rw [<- hw1, hh5]
 clear hw1 hh5
 go_cut [8, 9] from 12 to 22 (fun p q wx => TwoV w1 u y p q wx)
 case first =>
  go_region
  all_goals
   go_wp2_with fail
   go_meet
  all_goals first
   | exact jdo w1 u y
   | exact jdn w1 u y
 case rest =>
  obtain ⟨H1, H2, rfl, rfl, hb1, hb2, hl1, hl2, hbw⟩ := hcut
  have HB2 := hide (HB1.out.trans (hbw.mono HB1.out.size))
  have HX0c := hide (HX0.out.below hbw)
  have HX1c := hide (HX1.out.below hbw)
  clear q2 q3
  obtain ⟨q0, -⟩ := HX0c.out.cell 0 (v := .int .i64 17) rfl
  obtain ⟨q1, -⟩ := HX0c.out.cell 1 (v := .int .i64 d) rfl
  obtain ⟨q2, -⟩ := HX0c.out.cell 2 (v := .int .i64 (i : Int)) rfl
  obtain ⟨q3, -⟩ := HX0c.out.cell 3 (v := .int .i64 (j : Int)) rfl
  obtain ⟨q4, -⟩ := HX0c.out.cell 4 (v := .int .i64 xn) rfl
  obtain ⟨q5, -⟩ := HX0c.out.cell 5 (v := .int .i64 xm) rfl
  obtain ⟨q6, -⟩ := HX0c.out.cell 6 (v := .slice A l c) rfl
  obtain ⟨b0, -⟩ := hb1.cell 0 (v := .int .i64 u.n) rfl
  obtain ⟨b1, -⟩ := hb1.cell 1 (v := .int .i64 u.o) rfl
  obtain ⟨b2, -⟩ := hb1.cell 2 (v := .int .i64 u.a) rfl
  obtain ⟨e0, -⟩ := hb2.cell 0 (v := .int .i64 y.n) rfl
  obtain ⟨e1, -⟩ := hb2.cell 1 (v := .int .i64 y.o) rfl
  obtain ⟨e2, -⟩ := hb2.cell 2 (v := .int .i64 y.a) rfl
  have lx5 := HX0c.out.lt
  have lH1 := hb1.lt
  have lH2 := hb2.lt
  have lhc := Nat.lt_of_lt_of_le hlt HB2.out.size
  have lx6 : h5 + 1 < wc.heap.size := HX1c.out.lt
  clear hb1 hb2 hbw hl1 hl2 hu0 hu1 hu2 hy0 hy1 hy2
  go_wp2_with (go_at_call 110; (with_reducible refine (HC.out wc HB2.out).mono ?_); rintro e w2 ⟨rfl, hb2⟩; have HBC := hide (HB2.out.trans (hb2.mono HB2.out.size)); have HX2 := hide (HX1c.out.below hb2); obtain ⟨z0, g0⟩ := (HX1c.out.below hb2).cell 0 (v := .int .i64 0) rfl; obtain ⟨z1, g1⟩ := (HX1c.out.below hb2).cell 1 (v := .int .i64 0) rfl; obtain ⟨z2, g2⟩ := (HX1c.out.below hb2).cell 2 (v := .int .i64 0) rfl; clear hb2)
  have HZ := hide (((HX2.out.set 0 (.int .i64 (r1))).set 1 (.int .i64 (0))).set 2 (.int .i64 (0)))
  have y0 := (HZ.out.cell 0 (v := .int .i64 (r1)) rfl).1
  have y1 := (HZ.out.cell 1 (v := .int .i64 (0)) rfl).1
  have y2 := (HZ.out.cell 2 (v := .int .i64 (0)) rfl).1
  refine bodyPost_ret (v := .tuple #[.agg #[.int .i64 (r1), .int .i64 (0), .int .i64 (0)], .int .i64 ((r2 : Nat) : Int)]) (by simp [results, Tryz.results90, go_sem, y0, y1, y2]) rfl ⟨rfl, ?_⟩
  exact ((HBC.out.setCell (p := ⟨h5 + 1, 0, none⟩) h5g _).setCell (p := ⟨h5 + 1, 1, none⟩) h5g _).setCell (p := ⟨h5 + 1, 2, none⟩) h5g _
theorem jk2 (base hc : Nat) (vp va vh ve : Value) (P : List FunV) (s : StV) (L : List (FrV × ActW)) (S : Nat -> Prop) (d xn xm : Int) (i j gv nv cv : Nat) (u y : ValV) (A : Option Addr) (l c : Nat) (w : World) (hR : RunP w base hc vp P s va vh ve L S) (hl : s.heap.length <= 10000) (hbase : base <= w.heap.size)
  (hg : gv < w.heap.size) (hi : i < nv) (hj : j < nv) (hu : ValAt w gv i u) (hy : ValAt w gv j y) :
  Calls Tryz.prog 90 #[.pointer (some ⟨hc, 0, none⟩), .slice (some ⟨gv, 0, none⟩) nv cv, .agg #[.int .i64 13, .int .i64 d, .int .i64 (i : Int), .int .i64 (j : Int), .int .i64 xn, .int .i64 xm, .slice A l c]] w fun e w' => e = .returned (.tuple #[.agg #[.int .i64 0, .int .i64 (refR s.heap u.o xn).1, .int .i64 0], .int .i64 ((((refR s.heap u.o xn).2 : Nat) : Int))]) /\ Below w.heap.size w w' := by
 have hlt := hR.box.lt
 have hbh := hR.hb
 have HC := hide (fun (W : World) (hW : Below w.heap.size w W) => href_any vh s.heap u.o xn W w.heap.size hW.size (hR.low.keep (up hW (Nat.le_refl _)) (fun _ h => h)) (by omega))
 have HKB := hide (fun (W : World) (hW : Below w.heap.size w W) => (hR.box.below hW).cell 2 (v := vh) rfl)
 obtain ⟨Ao, co, rfl, -, -⟩ := hR.objs.open'
 generalize s.heap.length = hn at *
 generalize refR s.heap u.o xn = r at *
 obtain ⟨r1, r2⟩ := r
 show Calls Tryz.prog 90 #[.pointer (some ⟨hc, 0, none⟩), .slice (some ⟨gv, 0, none⟩) nv cv, .agg #[.int .i64 13, .int .i64 d, .int .i64 (i : Int), .int .i64 (j : Int), .int .i64 xn, .int .i64 xm, .slice A l c]] w fun e w' => e = .returned (.tuple #[.agg #[.int .i64 (0), .int .i64 (r1), .int .i64 (0)], .int .i64 ((r2 : Nat) : Int)]) /\ Below w.heap.size w w'
 obtain ⟨hu0, hu1, hu2⟩ := hu
 obtain ⟨hy0, hy1, hy2⟩ := hy
 have i1 : (0 : Int) <= (i : Int) := by omega
 have i2 : (i : Int) < (nv : Int) := by omega
 have i3 : (0 : Int) <= (j : Int) := by omega
 have i4 : (j : Int) < (nv : Int) := by omega
 clear hR hl hi hj
 go_enter Tryz.func90, Tryz.ntmps90
 go_upto_region 1 with (fail)
 obtain ⟨w1, hw1⟩ := zr ((w.alloc (.cells #[.int .i64 13, .int .i64 d, .int .i64 (i : Int), .int .i64 (j : Int), .int .i64 xn, .int .i64 xm, .slice A l c] 57)).alloc (.cells #[.int .i64 0, .int .i64 0, .int .i64 0] 87))
 obtain ⟨h5, hh5⟩ := zl w.heap.size
 have HX0 := zy2 hw1 hh5
 have HX1 := zx2 hw1 hh5
 have HB1 := zb2 hw1
 have h5g : w.heap.size <= h5 + 1 := by omega
 have hg1 : gv < w1.heap.size := Nat.lt_of_lt_of_le hg HB1.out.size
 have lX1 := HX1.out.lt
 have lX0 := HX0.out.lt
 replace hu0 := (HB1.out.cell (p := ⟨gv, i * 3, none⟩) hg).trans hu0
 replace hu1 := (HB1.out.cell (p := ⟨gv, i * 3 + 1, none⟩) hg).trans hu1
 replace hu2 := (HB1.out.cell (p := ⟨gv, i * 3 + 2, none⟩) hg).trans hu2
 replace hy0 := (HB1.out.cell (p := ⟨gv, j * 3, none⟩) hg).trans hy0
 replace hy1 := (HB1.out.cell (p := ⟨gv, j * 3 + 1, none⟩) hg).trans hy1
 replace hy2 := (HB1.out.cell (p := ⟨gv, j * 3 + 2, none⟩) hg).trans hy2
 obtain ⟨q2, -⟩ := HX0.out.cell 2 (v := .int .i64 (i : Int)) rfl
 obtain ⟨q3, -⟩ := HX0.out.cell 3 (v := .int .i64 (j : Int)) rfl
 rw [<- hw1, hh5]
 clear hw1 hh5
 go_cut [8, 9] from 12 to 22 (fun p q wx => TwoV w1 u y p q wx)
 case first =>
  go_region
  all_goals
   go_wp2_with fail
   go_meet
  all_goals first
   | exact jdo w1 u y
   | exact jdn w1 u y
 case rest =>
  obtain ⟨H1, H2, rfl, rfl, hb1, hb2, hl1, hl2, hbw⟩ := hcut
  have HB2 := hide (HB1.out.trans (hbw.mono HB1.out.size))
  have HX0c := hide (HX0.out.below hbw)
  have HX1c := hide (HX1.out.below hbw)
  clear q2 q3
  obtain ⟨q0, -⟩ := HX0c.out.cell 0 (v := .int .i64 13) rfl
  obtain ⟨q1, -⟩ := HX0c.out.cell 1 (v := .int .i64 d) rfl
  obtain ⟨q2, -⟩ := HX0c.out.cell 2 (v := .int .i64 (i : Int)) rfl
  obtain ⟨q3, -⟩ := HX0c.out.cell 3 (v := .int .i64 (j : Int)) rfl
  obtain ⟨q4, -⟩ := HX0c.out.cell 4 (v := .int .i64 xn) rfl
  obtain ⟨q5, -⟩ := HX0c.out.cell 5 (v := .int .i64 xm) rfl
  obtain ⟨q6, -⟩ := HX0c.out.cell 6 (v := .slice A l c) rfl
  obtain ⟨b0, -⟩ := hb1.cell 0 (v := .int .i64 u.n) rfl
  obtain ⟨b1, -⟩ := hb1.cell 1 (v := .int .i64 u.o) rfl
  obtain ⟨b2, -⟩ := hb1.cell 2 (v := .int .i64 u.a) rfl
  obtain ⟨e0, -⟩ := hb2.cell 0 (v := .int .i64 y.n) rfl
  obtain ⟨e1, -⟩ := hb2.cell 1 (v := .int .i64 y.o) rfl
  obtain ⟨e2, -⟩ := hb2.cell 2 (v := .int .i64 y.a) rfl
  have lx5 := HX0c.out.lt
  have lH1 := hb1.lt
  have lH2 := hb2.lt
  have lhc := Nat.lt_of_lt_of_le hlt HB2.out.size
  have lx6 : h5 + 1 < wc.heap.size := HX1c.out.lt
  clear hb1 hb2 hbw hl1 hl2 hu0 hu1 hu2 hy0 hy1 hy2
  obtain ⟨k2, -⟩ := HKB.out wc HB2.out
  go_upto_region 10 with (fail)
  have HKS := hide (fun (W : World) (hW : Below wc.heap.size wc W) => (And.intro ((hW.cell (p := ⟨hc, 2, none⟩) lhc).trans k2) (And.intro ((hW.cell (p := ⟨h5, 4, none⟩) lx5).trans q4) ((hW.cell (p := ⟨H1, 1, none⟩) lH1).trans b1))))
  have BE0 := hide (show Below wc.heap.size wc wc.drew from ja7 (Below.refl _ _))
  refine jaa (fun w' => w'.cell? ⟨hc, 2, none⟩ = some (.slice Ao hn co) /\ w'.cell? ⟨h5, 4, none⟩ = some (.int .i64 xn) /\ w'.cell? ⟨H1, 1, none⟩ = some (.int .i64 u.o)) 8 (by kernel_rfl) (HKS.out _ BE0.out) ?_
  obtain ⟨w100, hw100⟩ := zr wc.drew
  have BE100 := hide (show Below wc.heap.size wc w100 by rw [hw100]; exact BE0.out)
  rw [<- hw100]
  have hSd := HKS.out w100 BE100.out
  clear hw100 q0 q1 q2 q3 q4 q5 q6 b0 b1 b2 e0 e1 e2 k2
  refine tilM 0 (Or.inr hSd) ?_
  refine tilM 1 (Or.inr hSd) ?_
  refine tilM 2 (Or.inr hSd) ?_
  refine tilM 4 (Or.inr hSd) ?_
  refine tilM 6 (Or.inr hSd) ?_
  refine tilT 3 hSd ?_
  refine tilT 5 hSd ?_
  refine tilT 7 hSd ?_
  refine ja2 (rs := [8]) (by kernel_rfl) (by simp) ?_
  refine AllTil.last rfl (by rfl) (fun K hK => ?_)
  rw [if_pos (by rfl)]
  go_simp
  go_at_call 111
  refine (HC.out w100 (HB2.out.trans (BE100.out.mono HB2.out.size))).mono ?_
  rintro e w101 ⟨rfl, hb2⟩
  have BE101 := hide (BE100.out.trans (hb2.mono BE100.out.size))
  clear hb2
  refine hK.out _ _ ?_
  clear hK K hSd
  try simp only [tilS, Act.put]
  refine tilM 9 (Or.inl (by rfl)) ?_
  refine tilM 10 (Or.inl (by rfl)) ?_
  refine tilM 11 (Or.inl (by rfl)) ?_
  refine tilM 12 (Or.inl (by rfl)) ?_
  refine tilM 13 (Or.inl (by rfl)) ?_
  refine jac (by kernel_rfl) ?_ _
  have HX2 := hide (HX1c.out.below BE101.out)
  obtain ⟨z0, g0⟩ := HX2.out.cell 0 (v := .int .i64 0) rfl
  obtain ⟨z1, g1⟩ := HX2.out.cell 1 (v := .int .i64 0) rfl
  obtain ⟨z2, g2⟩ := HX2.out.cell 2 (v := .int .i64 0) rfl
  go_wp2
  have HZ := hide (((HX2.out.set 0 (.int .i64 (0))).set 1 (.int .i64 (r1))).set 2 (.int .i64 (0)))
  have y0 := (HZ.out.cell 0 (v := .int .i64 (0)) rfl).1
  have y1 := (HZ.out.cell 1 (v := .int .i64 (r1)) rfl).1
  have y2 := (HZ.out.cell 2 (v := .int .i64 (0)) rfl).1
  refine bodyPost_ret (v := .tuple #[.agg #[.int .i64 (0), .int .i64 (r1), .int .i64 (0)], .int .i64 ((r2 : Nat) : Int)]) (by simp [results, Tryz.results90, go_sem, y0, y1, y2]) rfl ⟨rfl, ?_⟩
  exact (((HB2.out.trans (BE101.out.mono HB2.out.size)).setCell (p := ⟨h5 + 1, 0, none⟩) h5g _).setCell (p := ⟨h5 + 1, 1, none⟩) h5g _).setCell (p := ⟨h5 + 1, 2, none⟩) h5g _
theorem jk1 (base hc : Nat) (vp va vh ve : Value) (P : List FunV) (s : StV) (L : List (FrV × ActW)) (S : Nat -> Prop) (d xn xm : Int) (i j gv nv cv : Nat) (u y : ValV) (A : Option Addr) (l c : Nat) (w : World) (hR : RunP w base hc vp P s va vh ve L S) (hl : s.heap.length <= 10000) (hbase : base <= w.heap.size)
  (hg : gv < w.heap.size) (hi : i < nv) (hj : j < nv) (hu : ValAt w gv i u) (hy : ValAt w gv j y) :
  Calls Tryz.prog 90 #[.pointer (some ⟨hc, 0, none⟩), .slice (some ⟨gv, 0, none⟩) nv cv, .agg #[.int .i64 15, .int .i64 d, .int .i64 (i : Int), .int .i64 (j : Int), .int .i64 xn, .int .i64 xm, .slice A l c]] w fun e w' => e = .returned (.tuple #[.agg #[.int .i64 (derR u xn).1.n, .int .i64 (derR u xn).1.o, .int .i64 (derR u xn).1.a], .int .i64 ((((derR u xn).2 : Nat) : Int))]) /\ Below w.heap.size w w' := by
 have hlt := hR.box.lt
 have hbh := hR.hb
 have HC := hide (fun (W : World) => jm2 u xn W)
 generalize derR u xn = r at *
 obtain ⟨⟨r0, r1, r2⟩, r3⟩ := r
 show Calls Tryz.prog 90 #[.pointer (some ⟨hc, 0, none⟩), .slice (some ⟨gv, 0, none⟩) nv cv, .agg #[.int .i64 15, .int .i64 d, .int .i64 (i : Int), .int .i64 (j : Int), .int .i64 xn, .int .i64 xm, .slice A l c]] w fun e w' => e = .returned (.tuple #[.agg #[.int .i64 (r0), .int .i64 (r1), .int .i64 (r2)], .int .i64 ((r3 : Nat) : Int)]) /\ Below w.heap.size w w'
 obtain ⟨hu0, hu1, hu2⟩ := hu
 obtain ⟨hy0, hy1, hy2⟩ := hy
 have i1 : (0 : Int) <= (i : Int) := by omega
 have i2 : (i : Int) < (nv : Int) := by omega
 have i3 : (0 : Int) <= (j : Int) := by omega
 have i4 : (j : Int) < (nv : Int) := by omega
 clear hR hl hi hj
 go_enter Tryz.func90, Tryz.ntmps90
 go_upto_region 1 with (fail)
 obtain ⟨w1, hw1⟩ := zr ((w.alloc (.cells #[.int .i64 15, .int .i64 d, .int .i64 (i : Int), .int .i64 (j : Int), .int .i64 xn, .int .i64 xm, .slice A l c] 57)).alloc (.cells #[.int .i64 0, .int .i64 0, .int .i64 0] 87))
 obtain ⟨h5, hh5⟩ := zl w.heap.size
 have HX0 := zy2 hw1 hh5
 have HX1 := zx2 hw1 hh5
 have HB1 := zb2 hw1
 have h5g : w.heap.size <= h5 + 1 := by omega
 have hg1 : gv < w1.heap.size := Nat.lt_of_lt_of_le hg HB1.out.size
 have lX1 := HX1.out.lt
 have lX0 := HX0.out.lt
 replace hu0 := (HB1.out.cell (p := ⟨gv, i * 3, none⟩) hg).trans hu0
 replace hu1 := (HB1.out.cell (p := ⟨gv, i * 3 + 1, none⟩) hg).trans hu1
 replace hu2 := (HB1.out.cell (p := ⟨gv, i * 3 + 2, none⟩) hg).trans hu2
 replace hy0 := (HB1.out.cell (p := ⟨gv, j * 3, none⟩) hg).trans hy0
 replace hy1 := (HB1.out.cell (p := ⟨gv, j * 3 + 1, none⟩) hg).trans hy1
 replace hy2 := (HB1.out.cell (p := ⟨gv, j * 3 + 2, none⟩) hg).trans hy2
 obtain ⟨q2, -⟩ := HX0.out.cell 2 (v := .int .i64 (i : Int)) rfl
 obtain ⟨q3, -⟩ := HX0.out.cell 3 (v := .int .i64 (j : Int)) rfl
 rw [<- hw1, hh5]
 clear hw1 hh5
 go_cut [8, 9] from 12 to 22 (fun p q wx => TwoV w1 u y p q wx)
 case first =>
  go_region
  all_goals
   go_wp2_with fail
   go_meet
  all_goals first
   | exact jdo w1 u y
   | exact jdn w1 u y
 case rest =>
  obtain ⟨H1, H2, rfl, rfl, hb1, hb2, hl1, hl2, hbw⟩ := hcut
  have HB2 := hide (HB1.out.trans (hbw.mono HB1.out.size))
  have HX0c := hide (HX0.out.below hbw)
  have HX1c := hide (HX1.out.below hbw)
  clear q2 q3
  obtain ⟨q0, -⟩ := HX0c.out.cell 0 (v := .int .i64 15) rfl
  obtain ⟨q1, -⟩ := HX0c.out.cell 1 (v := .int .i64 d) rfl
  obtain ⟨q2, -⟩ := HX0c.out.cell 2 (v := .int .i64 (i : Int)) rfl
  obtain ⟨q3, -⟩ := HX0c.out.cell 3 (v := .int .i64 (j : Int)) rfl
  obtain ⟨q4, -⟩ := HX0c.out.cell 4 (v := .int .i64 xn) rfl
  obtain ⟨q5, -⟩ := HX0c.out.cell 5 (v := .int .i64 xm) rfl
  obtain ⟨q6, -⟩ := HX0c.out.cell 6 (v := .slice A l c) rfl
  obtain ⟨b0, -⟩ := hb1.cell 0 (v := .int .i64 u.n) rfl
  obtain ⟨b1, -⟩ := hb1.cell 1 (v := .int .i64 u.o) rfl
  obtain ⟨b2, -⟩ := hb1.cell 2 (v := .int .i64 u.a) rfl
  obtain ⟨e0, -⟩ := hb2.cell 0 (v := .int .i64 y.n) rfl
  obtain ⟨e1, -⟩ := hb2.cell 1 (v := .int .i64 y.o) rfl
  obtain ⟨e2, -⟩ := hb2.cell 2 (v := .int .i64 y.a) rfl
  have lx5 := HX0c.out.lt
  have lH1 := hb1.lt
  have lH2 := hb2.lt
  have lhc := Nat.lt_of_lt_of_le hlt HB2.out.size
  have lx6 : h5 + 1 < wc.heap.size := HX1c.out.lt
  clear hb1 hb2 hbw hl1 hl2 hu0 hu1 hu2 hy0 hy1 hy2
  go_wp2_with (go_at_call 112; (with_reducible refine (HC.out wc).mono ?_); rintro e w2 ⟨rfl, hb2⟩; have HBC := hide (HB2.out.trans (hb2.mono HB2.out.size)); have HX2 := hide (HX1c.out.below hb2); obtain ⟨z0, g0⟩ := (HX1c.out.below hb2).cell 0 (v := .int .i64 0) rfl; obtain ⟨z1, g1⟩ := (HX1c.out.below hb2).cell 1 (v := .int .i64 0) rfl; obtain ⟨z2, g2⟩ := (HX1c.out.below hb2).cell 2 (v := .int .i64 0) rfl; clear hb2)
  have HZ := hide (((HX2.out.set 0 (.int .i64 (r0))).set 1 (.int .i64 (r1))).set 2 (.int .i64 (r2)))
  have y0 := (HZ.out.cell 0 (v := .int .i64 (r0)) rfl).1
  have y1 := (HZ.out.cell 1 (v := .int .i64 (r1)) rfl).1
  have y2 := (HZ.out.cell 2 (v := .int .i64 (r2)) rfl).1
  refine bodyPost_ret (v := .tuple #[.agg #[.int .i64 (r0), .int .i64 (r1), .int .i64 (r2)], .int .i64 ((r3 : Nat) : Int)]) (by simp [results, Tryz.results90, go_sem, y0, y1, y2]) rfl ⟨rfl, ?_⟩
  exact ((HBC.out.setCell (p := ⟨h5 + 1, 0, none⟩) h5g _).setCell (p := ⟨h5 + 1, 1, none⟩) h5g _).setCell (p := ⟨h5 + 1, 2, none⟩) h5g _
theorem jk0 (base hc : Nat) (vp va vh ve : Value) (P : List FunV) (s : StV) (L : List (FrV × ActW)) (S : Nat -> Prop) (d xn xm : Int) (i j gv nv cv : Nat) (u y : ValV) (A : Option Addr) (l c : Nat) (w : World) (hR : RunP w base hc vp P s va vh ve L S) (hl : s.heap.length <= 10000) (hbase : base <= w.heap.size)
  (hg : gv < w.heap.size) (hi : i < nv) (hj : j < nv) (hu : ValAt w gv i u) (hy : ValAt w gv j y) :
  Calls Tryz.prog 90 #[.pointer (some ⟨hc, 0, none⟩), .slice (some ⟨gv, 0, none⟩) nv cv, .agg #[.int .i64 16, .int .i64 d, .int .i64 (i : Int), .int .i64 (j : Int), .int .i64 xn, .int .i64 xm, .slice A l c]] w fun e w' => e = .returned (.tuple #[.agg #[.int .i64 0, .int .i64 u.o, .int .i64 (wrap64 (u.a + xn))], .int .i64 0]) /\ Below w.heap.size w w' := by
 have hlt := hR.box.lt
 have hbh := hR.hb
 show Calls Tryz.prog 90 #[.pointer (some ⟨hc, 0, none⟩), .slice (some ⟨gv, 0, none⟩) nv cv, .agg #[.int .i64 16, .int .i64 d, .int .i64 (i : Int), .int .i64 (j : Int), .int .i64 xn, .int .i64 xm, .slice A l c]] w fun e w' => e = .returned (.tuple #[.agg #[.int .i64 (0), .int .i64 (u.o), .int .i64 (wrap64 (u.a + xn))], .int .i64 0]) /\ Below w.heap.size w w'
 obtain ⟨hu0, hu1, hu2⟩ := hu
 obtain ⟨hy0, hy1, hy2⟩ := hy
 have i1 : (0 : Int) <= (i : Int) := by omega
 have i2 : (i : Int) < (nv : Int) := by omega
 have i3 : (0 : Int) <= (j : Int) := by omega
 have i4 : (j : Int) < (nv : Int) := by omega
 clear hR hl hi hj
 go_enter Tryz.func90, Tryz.ntmps90
 go_upto_region 1 with (fail)
 obtain ⟨w1, hw1⟩ := zr ((w.alloc (.cells #[.int .i64 16, .int .i64 d, .int .i64 (i : Int), .int .i64 (j : Int), .int .i64 xn, .int .i64 xm, .slice A l c] 57)).alloc (.cells #[.int .i64 0, .int .i64 0, .int .i64 0] 87))
 obtain ⟨h5, hh5⟩ := zl w.heap.size
 have HX0 := zy2 hw1 hh5
 have HX1 := zx2 hw1 hh5
 have HB1 := zb2 hw1
 have h5g : w.heap.size <= h5 + 1 := by omega
 have hg1 : gv < w1.heap.size := Nat.lt_of_lt_of_le hg HB1.out.size
 have lX1 := HX1.out.lt
 have lX0 := HX0.out.lt
 replace hu0 := (HB1.out.cell (p := ⟨gv, i * 3, none⟩) hg).trans hu0
 replace hu1 := (HB1.out.cell (p := ⟨gv, i * 3 + 1, none⟩) hg).trans hu1
 replace hu2 := (HB1.out.cell (p := ⟨gv, i * 3 + 2, none⟩) hg).trans hu2
 replace hy0 := (HB1.out.cell (p := ⟨gv, j * 3, none⟩) hg).trans hy0
 replace hy1 := (HB1.out.cell (p := ⟨gv, j * 3 + 1, none⟩) hg).trans hy1
 replace hy2 := (HB1.out.cell (p := ⟨gv, j * 3 + 2, none⟩) hg).trans hy2
 obtain ⟨q2, -⟩ := HX0.out.cell 2 (v := .int .i64 (i : Int)) rfl
 obtain ⟨q3, -⟩ := HX0.out.cell 3 (v := .int .i64 (j : Int)) rfl
 rw [<- hw1, hh5]
 clear hw1 hh5
 go_cut [8, 9] from 12 to 22 (fun p q wx => TwoV w1 u y p q wx)
 case first =>
  go_region
  all_goals
   go_wp2_with fail
   go_meet
  all_goals first
   | exact jdo w1 u y
   | exact jdn w1 u y
 case rest =>
  obtain ⟨H1, H2, rfl, rfl, hb1, hb2, hl1, hl2, hbw⟩ := hcut
  have HB2 := hide (HB1.out.trans (hbw.mono HB1.out.size))
  have HX0c := hide (HX0.out.below hbw)
  have HX1c := hide (HX1.out.below hbw)
  clear q2 q3
  obtain ⟨q0, -⟩ := HX0c.out.cell 0 (v := .int .i64 16) rfl
  obtain ⟨q1, -⟩ := HX0c.out.cell 1 (v := .int .i64 d) rfl
  obtain ⟨q2, -⟩ := HX0c.out.cell 2 (v := .int .i64 (i : Int)) rfl
  obtain ⟨q3, -⟩ := HX0c.out.cell 3 (v := .int .i64 (j : Int)) rfl
  obtain ⟨q4, -⟩ := HX0c.out.cell 4 (v := .int .i64 xn) rfl
  obtain ⟨q5, -⟩ := HX0c.out.cell 5 (v := .int .i64 xm) rfl
  obtain ⟨q6, -⟩ := HX0c.out.cell 6 (v := .slice A l c) rfl
  obtain ⟨b0, -⟩ := hb1.cell 0 (v := .int .i64 u.n) rfl
  obtain ⟨b1, -⟩ := hb1.cell 1 (v := .int .i64 u.o) rfl
  obtain ⟨b2, -⟩ := hb1.cell 2 (v := .int .i64 u.a) rfl
  obtain ⟨e0, -⟩ := hb2.cell 0 (v := .int .i64 y.n) rfl
  obtain ⟨e1, -⟩ := hb2.cell 1 (v := .int .i64 y.o) rfl
  obtain ⟨e2, -⟩ := hb2.cell 2 (v := .int .i64 y.a) rfl
  have lx5 := HX0c.out.lt
  have lH1 := hb1.lt
  have lH2 := hb2.lt
  have lhc := Nat.lt_of_lt_of_le hlt HB2.out.size
  have lx6 : h5 + 1 < wc.heap.size := HX1c.out.lt
  clear hb1 hb2 hbw hl1 hl2 hu0 hu1 hu2 hy0 hy1 hy2
  obtain ⟨z0, g0⟩ := (HX1c.out).cell 0 (v := .int .i64 0) rfl
  obtain ⟨z1, g1⟩ := (HX1c.out).cell 1 (v := .int .i64 0) rfl
  obtain ⟨z2, g2⟩ := (HX1c.out).cell 2 (v := .int .i64 0) rfl
  go_wp2
  have HZ := hide (((HX1c.out.set 0 (.int .i64 (0))).set 1 (.int .i64 (u.o))).set 2 (.int .i64 (wrap64 (u.a + xn))))
  have y0 := (HZ.out.cell 0 (v := .int .i64 (0)) rfl).1
  have y1 := (HZ.out.cell 1 (v := .int .i64 (u.o)) rfl).1
  have y2 := (HZ.out.cell 2 (v := .int .i64 (wrap64 (u.a + xn))) rfl).1
  refine bodyPost_ret (v := .tuple #[.agg #[.int .i64 (0), .int .i64 (u.o), .int .i64 (wrap64 (u.a + xn))], .int .i64 0]) (by simp [results, Tryz.results90, go_sem, y0, y1, y2]) rfl ⟨rfl, ?_⟩
  exact ((HB2.out.setCell (p := ⟨h5 + 1, 0, none⟩) h5g _).setCell (p := ⟨h5 + 1, 1, none⟩) h5g _).setCell (p := ⟨h5 + 1, 2, none⟩) h5g _
theorem jlz (base hc : Nat) (vp va vh ve : Value) (P : List FunV) (s : StV) (L : List (FrV × ActW)) (S : Nat -> Prop) (d xn xm : Int) (i j gv nv cv : Nat) (u y : ValV) (A : Option Addr) (l c : Nat) (w : World) (hR : RunP w base hc vp P s va vh ve L S) (hl : s.heap.length <= 10000) (hbase : base <= w.heap.size)
  (hg : gv < w.heap.size) (hi : i < nv) (hj : j < nv) (hu : ValAt w gv i u) (hy : ValAt w gv j y) :
  Calls Tryz.prog 90 #[.pointer (some ⟨hc, 0, none⟩), .slice (some ⟨gv, 0, none⟩) nv cv, .agg #[.int .i64 2, .int .i64 d, .int .i64 (i : Int), .int .i64 (j : Int), .int .i64 xn, .int .i64 xm, .slice A l c]] w fun e w' => e = .returned (.tuple #[.agg #[.int .i64 u.n, .int .i64 u.o, .int .i64 u.a], .int .i64 0]) /\ Below w.heap.size w w' := by
 have hlt := hR.box.lt
 have hbh := hR.hb
 show Calls Tryz.prog 90 #[.pointer (some ⟨hc, 0, none⟩), .slice (some ⟨gv, 0, none⟩) nv cv, .agg #[.int .i64 2, .int .i64 d, .int .i64 (i : Int), .int .i64 (j : Int), .int .i64 xn, .int .i64 xm, .slice A l c]] w fun e w' => e = .returned (.tuple #[.agg #[.int .i64 (u.n), .int .i64 (u.o), .int .i64 (u.a)], .int .i64 0]) /\ Below w.heap.size w w'
 obtain ⟨hu0, hu1, hu2⟩ := hu
 obtain ⟨hy0, hy1, hy2⟩ := hy
 have i1 : (0 : Int) <= (i : Int) := by omega
 have i2 : (i : Int) < (nv : Int) := by omega
 have i3 : (0 : Int) <= (j : Int) := by omega
 have i4 : (j : Int) < (nv : Int) := by omega
 clear hR hl hi hj
 go_enter Tryz.func90, Tryz.ntmps90
 go_upto_region 1 with (fail)
 obtain ⟨w1, hw1⟩ := zr ((w.alloc (.cells #[.int .i64 2, .int .i64 d, .int .i64 (i : Int), .int .i64 (j : Int), .int .i64 xn, .int .i64 xm, .slice A l c] 57)).alloc (.cells #[.int .i64 0, .int .i64 0, .int .i64 0] 87))
 obtain ⟨h5, hh5⟩ := zl w.heap.size
 have HX0 := zy2 hw1 hh5
 have HX1 := zx2 hw1 hh5
 have HB1 := zb2 hw1
 have h5g : w.heap.size <= h5 + 1 := by omega
 have hg1 : gv < w1.heap.size := Nat.lt_of_lt_of_le hg HB1.out.size
 have lX1 := HX1.out.lt
 have lX0 := HX0.out.lt
 replace hu0 := (HB1.out.cell (p := ⟨gv, i * 3, none⟩) hg).trans hu0
 replace hu1 := (HB1.out.cell (p := ⟨gv, i * 3 + 1, none⟩) hg).trans hu1
 replace hu2 := (HB1.out.cell (p := ⟨gv, i * 3 + 2, none⟩) hg).trans hu2
 replace hy0 := (HB1.out.cell (p := ⟨gv, j * 3, none⟩) hg).trans hy0
 replace hy1 := (HB1.out.cell (p := ⟨gv, j * 3 + 1, none⟩) hg).trans hy1
 replace hy2 := (HB1.out.cell (p := ⟨gv, j * 3 + 2, none⟩) hg).trans hy2
 obtain ⟨q2, -⟩ := HX0.out.cell 2 (v := .int .i64 (i : Int)) rfl
 obtain ⟨q3, -⟩ := HX0.out.cell 3 (v := .int .i64 (j : Int)) rfl
 rw [<- hw1, hh5]
 clear hw1 hh5
 go_cut [8, 9] from 12 to 22 (fun p q wx => TwoV w1 u y p q wx)
 case first =>
  go_region
  all_goals
   go_wp2_with fail
   go_meet
  all_goals first
   | exact jdo w1 u y
   | exact jdn w1 u y
 case rest =>
  obtain ⟨H1, H2, rfl, rfl, hb1, hb2, hl1, hl2, hbw⟩ := hcut
  have HB2 := hide (HB1.out.trans (hbw.mono HB1.out.size))
  have HX0c := hide (HX0.out.below hbw)
  have HX1c := hide (HX1.out.below hbw)
  clear q2 q3
  obtain ⟨q0, -⟩ := HX0c.out.cell 0 (v := .int .i64 2) rfl
  obtain ⟨q1, -⟩ := HX0c.out.cell 1 (v := .int .i64 d) rfl
  obtain ⟨q2, -⟩ := HX0c.out.cell 2 (v := .int .i64 (i : Int)) rfl
  obtain ⟨q3, -⟩ := HX0c.out.cell 3 (v := .int .i64 (j : Int)) rfl
  obtain ⟨q4, -⟩ := HX0c.out.cell 4 (v := .int .i64 xn) rfl
  obtain ⟨q5, -⟩ := HX0c.out.cell 5 (v := .int .i64 xm) rfl
  obtain ⟨q6, -⟩ := HX0c.out.cell 6 (v := .slice A l c) rfl
  obtain ⟨b0, -⟩ := hb1.cell 0 (v := .int .i64 u.n) rfl
  obtain ⟨b1, -⟩ := hb1.cell 1 (v := .int .i64 u.o) rfl
  obtain ⟨b2, -⟩ := hb1.cell 2 (v := .int .i64 u.a) rfl
  obtain ⟨e0, -⟩ := hb2.cell 0 (v := .int .i64 y.n) rfl
  obtain ⟨e1, -⟩ := hb2.cell 1 (v := .int .i64 y.o) rfl
  obtain ⟨e2, -⟩ := hb2.cell 2 (v := .int .i64 y.a) rfl
  have lx5 := HX0c.out.lt
  have lH1 := hb1.lt
  have lH2 := hb2.lt
  have lhc := Nat.lt_of_lt_of_le hlt HB2.out.size
  have lx6 : h5 + 1 < wc.heap.size := HX1c.out.lt
  clear hb1 hb2 hbw hl1 hl2 hu0 hu1 hu2 hy0 hy1 hy2
  obtain ⟨z0, g0⟩ := (HX1c.out).cell 0 (v := .int .i64 0) rfl
  obtain ⟨z1, g1⟩ := (HX1c.out).cell 1 (v := .int .i64 0) rfl
  obtain ⟨z2, g2⟩ := (HX1c.out).cell 2 (v := .int .i64 0) rfl
  go_wp2
  have HZ := hide (((HX1c.out.set 0 (.int .i64 (u.n))).set 1 (.int .i64 (u.o))).set 2 (.int .i64 (u.a)))
  have y0 := (HZ.out.cell 0 (v := .int .i64 (u.n)) rfl).1
  have y1 := (HZ.out.cell 1 (v := .int .i64 (u.o)) rfl).1
  have y2 := (HZ.out.cell 2 (v := .int .i64 (u.a)) rfl).1
  refine bodyPost_ret (v := .tuple #[.agg #[.int .i64 (u.n), .int .i64 (u.o), .int .i64 (u.a)], .int .i64 0]) (by simp [results, Tryz.results90, go_sem, y0, y1, y2]) rfl ⟨rfl, ?_⟩
  exact ((HB2.out.setCell (p := ⟨h5 + 1, 0, none⟩) h5g _).setCell (p := ⟨h5 + 1, 1, none⟩) h5g _).setCell (p := ⟨h5 + 1, 2, none⟩) h5g _
theorem jly (base hc : Nat) (vp va vh ve : Value) (P : List FunV) (s : StV) (L : List (FrV × ActW)) (S : Nat -> Prop) (d xn xm : Int) (i j gv nv cv : Nat) (u y : ValV) (A : Option Addr) (l c : Nat) (w : World) (hR : RunP w base hc vp P s va vh ve L S) (hl : s.heap.length <= 10000) (hbase : base <= w.heap.size)
  (hg : gv < w.heap.size) (hi : i < nv) (hj : j < nv) (hu : ValAt w gv i u) (hy : ValAt w gv j y) :
  Calls Tryz.prog 90 #[.pointer (some ⟨hc, 0, none⟩), .slice (some ⟨gv, 0, none⟩) nv cv, .agg #[.int .i64 7, .int .i64 d, .int .i64 (i : Int), .int .i64 (j : Int), .int .i64 xn, .int .i64 xm, .slice A l c]] w fun e w' => e = .returned (.tuple #[.agg #[.int .i64 0, .int .i64 0, .int .i64 0], .int .i64 0]) /\ Below w.heap.size w w' := by
 have hlt := hR.box.lt
 have hbh := hR.hb
 show Calls Tryz.prog 90 #[.pointer (some ⟨hc, 0, none⟩), .slice (some ⟨gv, 0, none⟩) nv cv, .agg #[.int .i64 7, .int .i64 d, .int .i64 (i : Int), .int .i64 (j : Int), .int .i64 xn, .int .i64 xm, .slice A l c]] w fun e w' => e = .returned (.tuple #[.agg #[.int .i64 (0), .int .i64 (0), .int .i64 (0)], .int .i64 0]) /\ Below w.heap.size w w'
 obtain ⟨hu0, hu1, hu2⟩ := hu
 obtain ⟨hy0, hy1, hy2⟩ := hy
 have i1 : (0 : Int) <= (i : Int) := by omega
 have i2 : (i : Int) < (nv : Int) := by omega
 have i3 : (0 : Int) <= (j : Int) := by omega
 have i4 : (j : Int) < (nv : Int) := by omega
 clear hR hl hi hj
 go_enter Tryz.func90, Tryz.ntmps90
 go_upto_region 1 with (fail)
 obtain ⟨w1, hw1⟩ := zr ((w.alloc (.cells #[.int .i64 7, .int .i64 d, .int .i64 (i : Int), .int .i64 (j : Int), .int .i64 xn, .int .i64 xm, .slice A l c] 57)).alloc (.cells #[.int .i64 0, .int .i64 0, .int .i64 0] 87))
 obtain ⟨h5, hh5⟩ := zl w.heap.size
 have HX0 := zy2 hw1 hh5
 have HX1 := zx2 hw1 hh5
 have HB1 := zb2 hw1
 have h5g : w.heap.size <= h5 + 1 := by omega
 have hg1 : gv < w1.heap.size := Nat.lt_of_lt_of_le hg HB1.out.size
 have lX1 := HX1.out.lt
 have lX0 := HX0.out.lt
 replace hu0 := (HB1.out.cell (p := ⟨gv, i * 3, none⟩) hg).trans hu0
 replace hu1 := (HB1.out.cell (p := ⟨gv, i * 3 + 1, none⟩) hg).trans hu1
 replace hu2 := (HB1.out.cell (p := ⟨gv, i * 3 + 2, none⟩) hg).trans hu2
 replace hy0 := (HB1.out.cell (p := ⟨gv, j * 3, none⟩) hg).trans hy0
 replace hy1 := (HB1.out.cell (p := ⟨gv, j * 3 + 1, none⟩) hg).trans hy1
 replace hy2 := (HB1.out.cell (p := ⟨gv, j * 3 + 2, none⟩) hg).trans hy2
 obtain ⟨q2, -⟩ := HX0.out.cell 2 (v := .int .i64 (i : Int)) rfl
 obtain ⟨q3, -⟩ := HX0.out.cell 3 (v := .int .i64 (j : Int)) rfl
 rw [<- hw1, hh5]
 clear hw1 hh5
 go_cut [8, 9] from 12 to 22 (fun p q wx => TwoV w1 u y p q wx)
 case first =>
  go_region
  all_goals
   go_wp2_with fail
   go_meet
  all_goals first
   | exact jdo w1 u y
   | exact jdn w1 u y
 case rest =>
  obtain ⟨H1, H2, rfl, rfl, hb1, hb2, hl1, hl2, hbw⟩ := hcut
  have HB2 := hide (HB1.out.trans (hbw.mono HB1.out.size))
  have HX0c := hide (HX0.out.below hbw)
  have HX1c := hide (HX1.out.below hbw)
  clear q2 q3
  obtain ⟨q0, -⟩ := HX0c.out.cell 0 (v := .int .i64 7) rfl
  obtain ⟨q1, -⟩ := HX0c.out.cell 1 (v := .int .i64 d) rfl
  obtain ⟨q2, -⟩ := HX0c.out.cell 2 (v := .int .i64 (i : Int)) rfl
  obtain ⟨q3, -⟩ := HX0c.out.cell 3 (v := .int .i64 (j : Int)) rfl
  obtain ⟨q4, -⟩ := HX0c.out.cell 4 (v := .int .i64 xn) rfl
  obtain ⟨q5, -⟩ := HX0c.out.cell 5 (v := .int .i64 xm) rfl
  obtain ⟨q6, -⟩ := HX0c.out.cell 6 (v := .slice A l c) rfl
  obtain ⟨b0, -⟩ := hb1.cell 0 (v := .int .i64 u.n) rfl
  obtain ⟨b1, -⟩ := hb1.cell 1 (v := .int .i64 u.o) rfl
  obtain ⟨b2, -⟩ := hb1.cell 2 (v := .int .i64 u.a) rfl
  obtain ⟨e0, -⟩ := hb2.cell 0 (v := .int .i64 y.n) rfl
  obtain ⟨e1, -⟩ := hb2.cell 1 (v := .int .i64 y.o) rfl
  obtain ⟨e2, -⟩ := hb2.cell 2 (v := .int .i64 y.a) rfl
  have lx5 := HX0c.out.lt
  have lH1 := hb1.lt
  have lH2 := hb2.lt
  have lhc := Nat.lt_of_lt_of_le hlt HB2.out.size
  have lx6 : h5 + 1 < wc.heap.size := HX1c.out.lt
  clear hb1 hb2 hbw hl1 hl2 hu0 hu1 hu2 hy0 hy1 hy2
  obtain ⟨z0, g0⟩ := (HX1c.out).cell 0 (v := .int .i64 0) rfl
  obtain ⟨z1, g1⟩ := (HX1c.out).cell 1 (v := .int .i64 0) rfl
  obtain ⟨z2, g2⟩ := (HX1c.out).cell 2 (v := .int .i64 0) rfl
  go_wp2
  have HZ := hide (((HX1c.out.set 0 (.int .i64 (0))).set 1 (.int .i64 (0))).set 2 (.int .i64 (0)))
  have y0 := (HZ.out.cell 0 (v := .int .i64 (0)) rfl).1
  have y1 := (HZ.out.cell 1 (v := .int .i64 (0)) rfl).1
  have y2 := (HZ.out.cell 2 (v := .int .i64 (0)) rfl).1
  refine bodyPost_ret (v := .tuple #[.agg #[.int .i64 (0), .int .i64 (0), .int .i64 (0)], .int .i64 0]) (by simp [results, Tryz.results90, go_sem, y0, y1, y2]) rfl ⟨rfl, ?_⟩
  exact ((HB2.out.setCell (p := ⟨h5 + 1, 0, none⟩) h5g _).setCell (p := ⟨h5 + 1, 1, none⟩) h5g _).setCell (p := ⟨h5 + 1, 2, none⟩) h5g _
theorem jlx (base hc : Nat) (vp va vh ve : Value) (P : List FunV) (s : StV) (L : List (FrV × ActW)) (S : Nat -> Prop) (op d xn xm : Int) (i j gv nv cv : Nat) (u y : ValV) (A : Option Addr) (l c : Nat) (w : World) (hR : RunP w base hc vp P s va vh ve L S) (hl : s.heap.length <= 10000) (hbase : base <= w.heap.size)
  (hg : gv < w.heap.size) (hi : i < nv) (hj : j < nv) (hu : ValAt w gv i u) (hy : ValAt w gv j y) (hop : ¬ op = 10 /\ ¬ op = 11 /\ ¬ op = 17 /\ ¬ op = 13 /\ ¬ op = 15 /\ ¬ op = 16 /\ ¬ op = 2 /\ ¬ op = 7) :
  Calls Tryz.prog 90 #[.pointer (some ⟨hc, 0, none⟩), .slice (some ⟨gv, 0, none⟩) nv cv, .agg #[.int .i64 op, .int .i64 d, .int .i64 (i : Int), .int .i64 (j : Int), .int .i64 xn, .int .i64 xm, .slice A l c]] w fun e w' => e = .returned (.tuple #[.agg #[.int .i64 (numR u y ⟨op, d, (i : Int), (j : Int), xn, xm, []⟩), .int .i64 0, .int .i64 0], .int .i64 0]) /\ Below w.heap.size w w' := by
 have hlt := hR.box.lt
 have hbh := hR.hb
 have HC := hide (fun (W : World) => jlt u y ⟨op, d, (i : Int), (j : Int), xn, xm, []⟩ A l c W)
 obtain ⟨r, hr⟩ := zl (numR u y ⟨op, d, (i : Int), (j : Int), xn, xm, []⟩)
 rw [hr] at HC ⊢
 clear hr
 obtain ⟨o1, o2, o3, o4, o5, o6, o7, o8⟩ := hop
 have p1 : (op == 10) = false := by simpa using o1
 have p2 : (op == 11) = false := by simpa using o2
 have p3 : (op == 17) = false := by simpa using o3
 have p4 : (op == 13) = false := by simpa using o4
 have p5 : (op == 15) = false := by simpa using o5
 have p6 : (op == 16) = false := by simpa using o6
 have p7 : (op == 2) = false := by simpa using o7
 have p8 : (op == 7) = false := by simpa using o8
 clear o1 o2 o3 o4 o5 o6 o7 o8
 show Calls Tryz.prog 90 #[.pointer (some ⟨hc, 0, none⟩), .slice (some ⟨gv, 0, none⟩) nv cv, .agg #[.int .i64 op, .int .i64 d, .int .i64 (i : Int), .int .i64 (j : Int), .int .i64 xn, .int .i64 xm, .slice A l c]] w fun e w' => e = .returned (.tuple #[.agg #[.int .i64 (r), .int .i64 (0), .int .i64 (0)], .int .i64 0]) /\ Below w.heap.size w w'
 obtain ⟨hu0, hu1, hu2⟩ := hu
 obtain ⟨hy0, hy1, hy2⟩ := hy
 have i1 : (0 : Int) <= (i : Int) := by omega
 have i2 : (i : Int) < (nv : Int) := by omega
 have i3 : (0 : Int) <= (j : Int) := by omega
 have i4 : (j : Int) < (nv : Int) := by omega
 clear hR hl hi hj
 go_enter Tryz.func90, Tryz.ntmps90
 go_upto_region 1 with (fail)
 obtain ⟨w1, hw1⟩ := zr ((w.alloc (.cells #[.int .i64 op, .int .i64 d, .int .i64 (i : Int), .int .i64 (j : Int), .int .i64 xn, .int .i64 xm, .slice A l c] 57)).alloc (.cells #[.int .i64 0, .int .i64 0, .int .i64 0] 87))
 obtain ⟨h5, hh5⟩ := zl w.heap.size
 have HX0 := zy2 hw1 hh5
 have HX1 := zx2 hw1 hh5
 have HB1 := zb2 hw1
 have h5g : w.heap.size <= h5 + 1 := by omega
 have hg1 : gv < w1.heap.size := Nat.lt_of_lt_of_le hg HB1.out.size
 have lX1 := HX1.out.lt
 have lX0 := HX0.out.lt
 replace hu0 := (HB1.out.cell (p := ⟨gv, i * 3, none⟩) hg).trans hu0
 replace hu1 := (HB1.out.cell (p := ⟨gv, i * 3 + 1, none⟩) hg).trans hu1
 replace hu2 := (HB1.out.cell (p := ⟨gv, i * 3 + 2, none⟩) hg).trans hu2
 replace hy0 := (HB1.out.cell (p := ⟨gv, j * 3, none⟩) hg).trans hy0
 replace hy1 := (HB1.out.cell (p := ⟨gv, j * 3 + 1, none⟩) hg).trans hy1
 replace hy2 := (HB1.out.cell (p := ⟨gv, j * 3 + 2, none⟩) hg).trans hy2
 obtain ⟨q2, -⟩ := HX0.out.cell 2 (v := .int .i64 (i : Int)) rfl
 obtain ⟨q3, -⟩ := HX0.out.cell 3 (v := .int .i64 (j : Int)) rfl
 rw [<- hw1, hh5]
 clear hw1 hh5
 go_cut [8, 9] from 12 to 22 (fun p q wx => TwoV w1 u y p q wx)
 case first =>
  go_region
  all_goals
   go_wp2_with fail
   go_meet
  all_goals first
   | exact jdo w1 u y
   | exact jdn w1 u y
 case rest =>
  obtain ⟨H1, H2, rfl, rfl, hb1, hb2, hl1, hl2, hbw⟩ := hcut
  have HB2 := hide (HB1.out.trans (hbw.mono HB1.out.size))
  have HX0c := hide (HX0.out.below hbw)
  have HX1c := hide (HX1.out.below hbw)
  clear q2 q3
  obtain ⟨q0, -⟩ := HX0c.out.cell 0 (v := .int .i64 op) rfl
  obtain ⟨q1, -⟩ := HX0c.out.cell 1 (v := .int .i64 d) rfl
  obtain ⟨q2, -⟩ := HX0c.out.cell 2 (v := .int .i64 (i : Int)) rfl
  obtain ⟨q3, -⟩ := HX0c.out.cell 3 (v := .int .i64 (j : Int)) rfl
  obtain ⟨q4, -⟩ := HX0c.out.cell 4 (v := .int .i64 xn) rfl
  obtain ⟨q5, -⟩ := HX0c.out.cell 5 (v := .int .i64 xm) rfl
  obtain ⟨q6, -⟩ := HX0c.out.cell 6 (v := .slice A l c) rfl
  obtain ⟨b0, -⟩ := hb1.cell 0 (v := .int .i64 u.n) rfl
  obtain ⟨b1, -⟩ := hb1.cell 1 (v := .int .i64 u.o) rfl
  obtain ⟨b2, -⟩ := hb1.cell 2 (v := .int .i64 u.a) rfl
  obtain ⟨e0, -⟩ := hb2.cell 0 (v := .int .i64 y.n) rfl
  obtain ⟨e1, -⟩ := hb2.cell 1 (v := .int .i64 y.o) rfl
  obtain ⟨e2, -⟩ := hb2.cell 2 (v := .int .i64 y.a) rfl
  have lx5 := HX0c.out.lt
  have lH1 := hb1.lt
  have lH2 := hb2.lt
  have lhc := Nat.lt_of_lt_of_le hlt HB2.out.size
  have lx6 : h5 + 1 < wc.heap.size := HX1c.out.lt
  clear hb1 hb2 hbw hl1 hl2 hu0 hu1 hu2 hy0 hy1 hy2
  go_wp2_with (go_at_call 113; (with_reducible refine (HC.out wc).mono ?_); rintro e w2 ⟨rfl, hb2⟩; have HBC := hide (HB2.out.trans (hb2.mono HB2.out.size)); have HX2 := hide (HX1c.out.below hb2); obtain ⟨z0, g0⟩ := (HX1c.out.below hb2).cell 0 (v := .int .i64 0) rfl; obtain ⟨z1, g1⟩ := (HX1c.out.below hb2).cell 1 (v := .int .i64 0) rfl; obtain ⟨z2, g2⟩ := (HX1c.out.below hb2).cell 2 (v := .int .i64 0) rfl; clear hb2)
  have HZ := hide (((HX2.out.set 0 (.int .i64 (r))).set 1 (.int .i64 (0))).set 2 (.int .i64 (0)))
  have y0 := (HZ.out.cell 0 (v := .int .i64 (r)) rfl).1
  have y1 := (HZ.out.cell 1 (v := .int .i64 (0)) rfl).1
  have y2 := (HZ.out.cell 2 (v := .int .i64 (0)) rfl).1
  refine bodyPost_ret (v := .tuple #[.agg #[.int .i64 (r), .int .i64 (0), .int .i64 (0)], .int .i64 0]) (by simp [results, Tryz.results90, go_sem, y0, y1, y2]) rfl ⟨rfl, ?_⟩
  exact ((HBC.out.setCell (p := ⟨h5 + 1, 0, none⟩) h5g _).setCell (p := ⟨h5 + 1, 1, none⟩) h5g _).setCell (p := ⟨h5 + 1, 2, none⟩) h5g _
theorem jk4 (base hc : Nat) (vp va vh ve : Value) (P : List FunV) (s : StV) (L : List (FrV × ActW)) (S : Nat -> Prop) (d xn xm : Int) (i j gv nv cv : Nat) (u y : ValV) (A : Option Addr) (l c : Nat) (w : World) (hR : RunP w base hc vp P s va vh ve L S) (hl : s.heap.length <= 10000) (hbase : base <= w.heap.size)
  (hg : gv < w.heap.size) (hi : i < nv) (hj : j < nv) (hu : ValAt w gv i u) (hy : ValAt w gv j y) :
  Calls Tryz.prog 90 #[.pointer (some ⟨hc, 0, none⟩), .slice (some ⟨gv, 0, none⟩) nv cv, .agg #[.int .i64 10, .int .i64 d, .int .i64 (i : Int), .int .i64 (j : Int), .int .i64 xn, .int .i64 xm, .slice A l c]] w fun e w' => e = .returned (.tuple #[.agg #[.int .i64 0, .int .i64 (jb7 s.heap xn xm).2.1, .int .i64 0], .int .i64 ((((jb7 s.heap xn xm).2.2 : Nat) : Int))]) /\ (∃ vh' S', RunP w' base hc vp P { s with heap := (jb7 s.heap xn xm).1 } va vh' ve L S' /\ ∀ b, S' b -> S b \/ w.heap.size <= b) /\ Below base w w' /\ ∀ b, b < w.heap.size -> b ≠ hc -> w'.heap[b]? = w.heap[b]? := by
 have hlt := hR.box.lt
 have hbh := hR.hb
 have HC := hide (fun (W : World) (hW : Below w.heap.size w W) => jkd base hc vp va vh ve P s L S ⟨10, d, (i : Int), (j : Int), xn, xm, []⟩ A l c W (hR.below hW) hl (by have := hW.size; omega))
 have HML := hide hR.mlt
 have HSN := hide (fun b (hb : S b) => (hR.sin b hb).1)
 generalize jb7 s.heap xn xm = r at *
 obtain ⟨r1, r2, r3⟩ := r
 show Calls Tryz.prog 90 #[.pointer (some ⟨hc, 0, none⟩), .slice (some ⟨gv, 0, none⟩) nv cv, .agg #[.int .i64 10, .int .i64 d, .int .i64 (i : Int), .int .i64 (j : Int), .int .i64 xn, .int .i64 xm, .slice A l c]] w fun e w' => e = .returned (.tuple #[.agg #[.int .i64 (0), .int .i64 (r2), .int .i64 (0)], .int .i64 ((r3 : Nat) : Int)]) /\ (∃ vh' S', RunP w' base hc vp P { s with heap := r1 } va vh' ve L S' /\ ∀ b, S' b -> S b \/ w.heap.size <= b) /\ Below base w w' /\ ∀ b, b < w.heap.size -> b ≠ hc -> w'.heap[b]? = w.heap[b]?
 replace HC := hide (fun (W : World) (hW : Below w.heap.size w W) => (show Calls Tryz.prog 109 #[.pointer (some ⟨hc, 0, none⟩), .agg #[.int .i64 10, .int .i64 d, .int .i64 (i : Int), .int .i64 (j : Int), .int .i64 xn, .int .i64 xm, .slice A l c]] W fun e w' => e = .returned (.tuple #[.agg #[.int .i64 0, .int .i64 r2, .int .i64 0], .int .i64 ((r3 : Nat) : Int)]) /\ (∃ vh' S', RunP w' base hc vp P { s with heap := r1 } va vh' ve L S' /\ ∀ b, S' b -> S b \/ W.heap.size <= b) /\ Below base W w' /\ ∀ b, b < W.heap.size -> b ≠ hc -> w'.heap[b]? = W.heap[b]? from HC.out W hW))
 obtain ⟨hu0, hu1, hu2⟩ := hu
 obtain ⟨hy0, hy1, hy2⟩ := hy
 have i1 : (0 : Int) <= (i : Int) := by omega
 have i2 : (i : Int) < (nv : Int) := by omega
 have i3 : (0 : Int) <= (j : Int) := by omega
 have i4 : (j : Int) < (nv : Int) := by omega
 clear hR hl hi hj
 go_enter Tryz.func90, Tryz.ntmps90
 go_upto_region 1 with (fail)
 obtain ⟨w1, hw1⟩ := zr ((w.alloc (.cells #[.int .i64 10, .int .i64 d, .int .i64 (i : Int), .int .i64 (j : Int), .int .i64 xn, .int .i64 xm, .slice A l c] 57)).alloc (.cells #[.int .i64 0, .int .i64 0, .int .i64 0] 87))
 obtain ⟨h5, hh5⟩ := zl w.heap.size
 have HX0 := zy2 hw1 hh5
 have HX1 := zx2 hw1 hh5
 have HB1 := zb2 hw1
 have h5g : w.heap.size <= h5 + 1 := by omega
 have hg1 : gv < w1.heap.size := Nat.lt_of_lt_of_le hg HB1.out.size
 have lX1 := HX1.out.lt
 have lX0 := HX0.out.lt
 replace hu0 := (HB1.out.cell (p := ⟨gv, i * 3, none⟩) hg).trans hu0
 replace hu1 := (HB1.out.cell (p := ⟨gv, i * 3 + 1, none⟩) hg).trans hu1
 replace hu2 := (HB1.out.cell (p := ⟨gv, i * 3 + 2, none⟩) hg).trans hu2
 replace hy0 := (HB1.out.cell (p := ⟨gv, j * 3, none⟩) hg).trans hy0
 replace hy1 := (HB1.out.cell (p := ⟨gv, j * 3 + 1, none⟩) hg).trans hy1
 replace hy2 := (HB1.out.cell (p := ⟨gv, j * 3 + 2, none⟩) hg).trans hy2
 obtain ⟨q2, -⟩ := HX0.out.cell 2 (v := .int .i64 (i : Int)) rfl
 obtain ⟨q3, -⟩ := HX0.out.cell 3 (v := .int .i64 (j : Int)) rfl
 rw [<- hw1, hh5]
 clear hw1 hh5
 go_cut [8, 9] from 12 to 22 (fun p q wx => TwoV w1 u y p q wx)
 case first =>
  go_region
  all_goals
   go_wp2_with fail
   go_meet
  all_goals first
   | exact jdo w1 u y
   | exact jdn w1 u y
 case rest =>
  obtain ⟨H1, H2, rfl, rfl, hb1, hb2, hl1, hl2, hbw⟩ := hcut
  have HB2 := hide (HB1.out.trans (hbw.mono HB1.out.size))
  have HX0c := hide (HX0.out.below hbw)
  have HX1c := hide (HX1.out.below hbw)
  clear q2 q3
  obtain ⟨q0, -⟩ := HX0c.out.cell 0 (v := .int .i64 10) rfl
  obtain ⟨q1, -⟩ := HX0c.out.cell 1 (v := .int .i64 d) rfl
  obtain ⟨q2, -⟩ := HX0c.out.cell 2 (v := .int .i64 (i : Int)) rfl
  obtain ⟨q3, -⟩ := HX0c.out.cell 3 (v := .int .i64 (j : Int)) rfl
  obtain ⟨q4, -⟩ := HX0c.out.cell 4 (v := .int .i64 xn) rfl
  obtain ⟨q5, -⟩ := HX0c.out.cell 5 (v := .int .i64 xm) rfl
  obtain ⟨q6, -⟩ := HX0c.out.cell 6 (v := .slice A l c) rfl
  obtain ⟨b0, -⟩ := hb1.cell 0 (v := .int .i64 u.n) rfl
  obtain ⟨b1, -⟩ := hb1.cell 1 (v := .int .i64 u.o) rfl
  obtain ⟨b2, -⟩ := hb1.cell 2 (v := .int .i64 u.a) rfl
  obtain ⟨e0, -⟩ := hb2.cell 0 (v := .int .i64 y.n) rfl
  obtain ⟨e1, -⟩ := hb2.cell 1 (v := .int .i64 y.o) rfl
  obtain ⟨e2, -⟩ := hb2.cell 2 (v := .int .i64 y.a) rfl
  have lx5 := HX0c.out.lt
  have lH1 := hb1.lt
  have lH2 := hb2.lt
  have lhc := Nat.lt_of_lt_of_le hlt HB2.out.size
  have lx6 : h5 + 1 < wc.heap.size := HX1c.out.lt
  clear hb1 hb2 hbw hl1 hl2 hu0 hu1 hu2 hy0 hy1 hy2
  have HNS := hide (show ∀ S' : Nat -> Prop, (∀ b, S' b -> S b \/ wc.heap.size <= b) -> ¬ S' (h5 + 1) from fun S' h hs => by rcases h _ hs with h | h; have := HSN.out _ h; omega; omega)
  have HNM := hide (show ¬ MutR hc va ve L (h5 + 1) from fun h => by have := HML.out _ h; omega)
  go_wp2_with (go_at_call 109; (with_reducible refine (HC.out wc HB2.out).mono ?_); rintro e w2 ⟨rfl, ⟨vh', S', hr2, hs2⟩, hb2, hf2⟩; have HR2 := hide hr2; have HS2 := hide hs2; have HBC := hide ((HB2.out.mono hbase).trans hb2); have HX2 := hide (show Box w2 (h5 + 1) #[.int .i64 0, .int .i64 0, .int .i64 0] 87 from (hf2 (h5 + 1) lx6 (by omega)).trans HX1c.out); have HF2 := hide hf2; obtain ⟨z0, g0⟩ := (HX2.out).cell 0 (v := .int .i64 0) rfl; obtain ⟨z1, g1⟩ := (HX2.out).cell 1 (v := .int .i64 0) rfl; obtain ⟨z2, g2⟩ := (HX2.out).cell 2 (v := .int .i64 0) rfl; clear hb2 hr2 hs2 hf2)
  have HZ := hide (((HX2.out.set 0 (.int .i64 (0))).set 1 (.int .i64 (r2))).set 2 (.int .i64 (0)))
  have y0 := (HZ.out.cell 0 (v := .int .i64 (0)) rfl).1
  have y1 := (HZ.out.cell 1 (v := .int .i64 (r2)) rfl).1
  have y2 := (HZ.out.cell 2 (v := .int .i64 (0)) rfl).1
  refine bodyPost_ret (v := .tuple #[.agg #[.int .i64 (0), .int .i64 (r2), .int .i64 (0)], .int .i64 ((r3 : Nat) : Int)]) (by simp [results, Tryz.results90, go_sem, y0, y1, y2]) rfl ⟨rfl, ?_⟩
  exact ⟨⟨vh', S', ((HR2.out.off (HNS.out S' HS2.out) HNM.out (by omega)).off (HNS.out S' HS2.out) HNM.out (by omega)).off (HNS.out S' HS2.out) HNM.out (by omega), fun b hb => (HS2.out b hb).imp id (fun h => Nat.le_trans HB2.out.size h)⟩, ((HBC.out.setCell (p := ⟨h5 + 1, 0, none⟩) (by show base <= h5 + 1; omega) _).setCell (p := ⟨h5 + 1, 1, none⟩) (by show base <= h5 + 1; omega) _).setCell (p := ⟨h5 + 1, 2, none⟩) (by show base <= h5 + 1; omega) _, fun b hb hne => (heap_setCell_other _ _ _ _ (show b ≠ h5 + 1 by omega)).trans ((heap_setCell_other _ _ _ _ (show b ≠ h5 + 1 by omega)).trans ((heap_setCell_other _ _ _ _ (show b ≠ h5 + 1 by omega)).trans ((HF2.out b (Nat.lt_of_lt_of_le hb HB2.out.size) hne).trans (HB2.out.block b hb))))⟩
end Go.Proofs.YthbnbaikdcfbmaaGreatDoor
