/- Layer 10, the program: contracts of store. No condition but on lengths. -/
import Derived.Test.YthbnbaikdcfbmaaGreatDoorPmUH
set_option linter.unusedSimpArgs false
set_option linter.unusedVariables false
set_option maxHeartbeats 2000000
set_option maxRecDepth 100000
namespace Go.Proofs.YthbnbaikdcfbmaaGreatDoor
open Go.RowKit
structure ValAt (w : World) (g k : Nat) (u : ValV) : Prop where
 n : w.cell? ⟨g, k * 3, none⟩ = some (.int .i64 u.n)
 o : w.cell? ⟨g, k * 3 + 1, none⟩ = some (.int .i64 u.o)
 a : w.cell? ⟨g, k * 3 + 2, none⟩ = some (.int .i64 u.a)
theorem ValAt.below {w w' : World} {g k : Nat} {u : ValV} (h : ValAt w g k u) (hg : g < w.heap.size) (hb : Below w.heap.size w w') : ValAt w' g k u :=
 ⟨(hb.cell (p := ⟨g, k * 3, none⟩) hg).trans h.n, (hb.cell (p := ⟨g, k * 3 + 1, none⟩) hg).trans h.o, (hb.cell (p := ⟨g, k * 3 + 2, none⟩) hg).trans h.a⟩
def TwoV (w1 : World) (u y : ValV) (p q : Value) (wx : World) : Prop := ∃ H1 H2, p = .pointer (some ⟨H1, 0, none⟩) /\ q = .pointer (some ⟨H2, 0, none⟩) /\ Box wx H1 #[.int .i64 u.n, .int .i64 u.o, .int .i64 u.a] 87 /\ Box wx H2 #[.int .i64 y.n, .int .i64 y.o, .int .i64 y.a] 87 /\ w1.heap.size <= H1 /\ w1.heap.size <= H2 /\ Below w1.heap.size w1 wx
theorem jdo (w1 : World) (u y : ValV) : TwoV w1 u y (.pointer (some ⟨w1.heap.size, 0, none⟩)) (.pointer (some ⟨w1.heap.size + 1, 0, none⟩)) (((w1.alloc (.cells #[.int .i64 u.n, .int .i64 u.o, .int .i64 u.a] 87)).alloc (.cells #[.int .i64 y.n, .int .i64 y.o, .int .i64 y.a] 87)).drew) :=
 ⟨_, _, rfl, rfl, ((Box.new w1 _ _).alloc _).drewU, (by have t := Box.new (w1.alloc (.cells #[.int .i64 u.n, .int .i64 u.o, .int .i64 u.a] 87)) #[.int .i64 y.n, .int .i64 y.o, .int .i64 y.a] 87; rw [World.size_alloc] at t; exact t.drewU), Nat.le_refl _, by omega, ja7 (jbm w1 _ _)⟩
theorem jdn (w1 : World) (u y : ValV) : TwoV w1 u y (.pointer (some ⟨w1.heap.size + 1, 0, none⟩)) (.pointer (some ⟨w1.heap.size, 0, none⟩)) (((w1.alloc (.cells #[.int .i64 y.n, .int .i64 y.o, .int .i64 y.a] 87)).alloc (.cells #[.int .i64 u.n, .int .i64 u.o, .int .i64 u.a] 87)).drew) :=
 ⟨_, _, rfl, rfl, (by have t := Box.new (w1.alloc (.cells #[.int .i64 y.n, .int .i64 y.o, .int .i64 y.a] 87)) #[.int .i64 u.n, .int .i64 u.o, .int .i64 u.a] 87; rw [World.size_alloc] at t; exact t.drewU), ((Box.new w1 _ _).alloc _).drewU, by omega, Nat.le_refl _, ja7 (jbm w1 _ _)⟩
theorem jk7 (base hc : Nat) (vp va vh ve : Value) (P : List FunV) (s : StV) (L : List (FrV × ActW)) (S : Nat -> Prop) (d xn xm : Int) (i j gv nv cv : Nat) (u y : ValV) (A : Option Addr) (l c : Nat) (w : World) (hR : RunP w base hc vp P s va vh ve L S) (hl : s.heap.length <= 10000) (hbase : base <= w.heap.size)
  (hg : gv < w.heap.size) (hi : i < nv) (hj : j < nv) (hu : ValAt w gv i u) (hy : ValAt w gv j y) (hyr : i64R y.n) :
  Calls Tryz.prog 86 #[.pointer (some ⟨hc, 0, none⟩), .slice (some ⟨gv, 0, none⟩) nv cv, .agg #[.int .i64 12, .int .i64 d, .int .i64 (i : Int), .int .i64 (j : Int), .int .i64 xn, .int .i64 xm, .slice A l c]] w fun e w' => e = .returned (.int .i64 (((jb6 s.heap u.o xn y.n).2 : Nat) : Int)) /\ (∃ vh' S', RunP w' base hc vp P { s with heap := (jb6 s.heap u.o xn y.n).1 } va vh' ve L S' /\ ∀ b, S' b -> S b \/ w.heap.size <= b) /\ Below base w w' /\ ∀ b, b < w.heap.size -> b ≠ hc -> w'.heap[b]? = w.heap[b]? := by
 have hlt := hR.box.lt
 have HST := hide (fun (W : World) (hW : Below w.heap.size w W) => jh3 vh s.heap u.o xn y.n hyr W S (fun b hb => Nat.lt_of_lt_of_le (hR.sin b hb).1 hW.size) (hR.objs.keep (fun b o hb => hW.cell (p := ⟨b, o, none⟩) (hR.sin b hb).1) (fun _ h => h)) (by omega))
 have HKB := hide (fun (W : World) (hW : Below w.heap.size w W) => (hR.box.below hW).cell 2 (v := vh) rfl)
 have HRA := hide (fun (vh' : Value) (w1 w2 wF : World) => hR.heapAt (w1 := w1) (w2 := w2) (wF := wF) (vh' := vh') (H := (jb6 s.heap u.o xn y.n).1))
 obtain ⟨Ao, co, rfl, hco, hm⟩ := hR.objs.open'
 have hbh := hR.hb
 generalize jb6 s.heap u.o xn y.n = r at *
 obtain ⟨r1, r2⟩ := r
 show Calls Tryz.prog 86 #[.pointer (some ⟨hc, 0, none⟩), .slice (some ⟨gv, 0, none⟩) nv cv, .agg #[.int .i64 12, .int .i64 d, .int .i64 (i : Int), .int .i64 (j : Int), .int .i64 xn, .int .i64 xm, .slice A l c]] w fun e w' => e = .returned (.int .i64 ((r2 : Nat) : Int)) /\ (∃ vh' S', RunP w' base hc vp P { s with heap := r1 } va vh' ve L S' /\ ∀ b, S' b -> S b \/ w.heap.size <= b) /\ Below base w w' /\ ∀ b, b < w.heap.size -> b ≠ hc -> w'.heap[b]? = w.heap[b]?
 generalize s.heap.length = hn at *
 obtain ⟨hu0, hu1, hu2⟩ := hu
 obtain ⟨hy0, hy1, hy2⟩ := hy
 have i1 : (0 : Int) <= (i : Int) := by omega
 have i2 : (i : Int) < (nv : Int) := by omega
 have i3 : (0 : Int) <= (j : Int) := by omega
 have i4 : (j : Int) < (nv : Int) := by omega
 clear hR hco hm hl hyr hi hj
 go_enter Tryz.func86, Tryz.ntmps86
 go_upto_region 2 with (fail)
 obtain ⟨w1, hw1⟩ := zr (w.alloc (.cells #[.int .i64 12, .int .i64 d, .int .i64 (i : Int), .int .i64 (j : Int), .int .i64 xn, .int .i64 xm, .slice A l c] 57))
 obtain ⟨h5, hh5⟩ := zl w.heap.size
 have HX0 := zx1 hw1 hh5
 have HB1 := zb1 hw1
 have h5g : w.heap.size <= h5 := by omega
 have lX0 := HX0.out.lt
 have hg1 : gv < w1.heap.size := Nat.lt_of_lt_of_le hg HB1.out.size
 replace hu0 := (HB1.out.cell (p := ⟨gv, i * 3, none⟩) hg).trans hu0
 replace hu1 := (HB1.out.cell (p := ⟨gv, i * 3 + 1, none⟩) hg).trans hu1
 replace hu2 := (HB1.out.cell (p := ⟨gv, i * 3 + 2, none⟩) hg).trans hu2
 replace hy0 := (HB1.out.cell (p := ⟨gv, j * 3, none⟩) hg).trans hy0
 replace hy1 := (HB1.out.cell (p := ⟨gv, j * 3 + 1, none⟩) hg).trans hy1
 replace hy2 := (HB1.out.cell (p := ⟨gv, j * 3 + 2, none⟩) hg).trans hy2
 obtain ⟨q2, -⟩ := HX0.out.cell 2 (v := .int .i64 (i : Int)) rfl
 obtain ⟨q3, -⟩ := HX0.out.cell 3 (v := .int .i64 (j : Int)) rfl
 rw [<- hw1, hh5]
 clear hw1 hh5
 go_cut [8, 9] from 10 to 20 (fun p q wx => TwoV w1 u y p q wx)
 case first =>
  go_region
  all_goals
   go_wp2_with fail
   go_meet
  all_goals first
   | exact jdo w1 u y
   | exact jdn w1 u y
 case rest =>
  obtain ⟨H1, H2, rfl, rfl, hb1, hb2, hl1, hl2, hbw⟩ := hcut
  have HB2 := hide (HB1.out.trans (hbw.mono HB1.out.size))
  have HX0c := hide (HX0.out.below hbw)
  obtain ⟨q0, -⟩ := HX0c.out.cell 0 (v := .int .i64 12) rfl
  obtain ⟨q4, -⟩ := HX0c.out.cell 4 (v := .int .i64 xn) rfl
  obtain ⟨b0, -⟩ := hb1.cell 0 (v := .int .i64 u.n) rfl
  obtain ⟨b1, -⟩ := hb1.cell 1 (v := .int .i64 u.o) rfl
  obtain ⟨b2, -⟩ := hb1.cell 2 (v := .int .i64 u.a) rfl
  obtain ⟨e0, -⟩ := hb2.cell 0 (v := .int .i64 y.n) rfl
  obtain ⟨e1, -⟩ := hb2.cell 1 (v := .int .i64 y.o) rfl
  obtain ⟨k2, -⟩ := HKB.out wc HB2.out
  have lx5 := HX0c.out.lt
  have lH1 := hb1.lt
  have lH2 := hb2.lt
  have lhc := Nat.lt_of_lt_of_le hlt HB2.out.size
  clear hb1 hb2 hbw hl1 hl2 hu0 hu1 hu2 hy0 hy1 hy2 q2 q3
  go_upto_region 5 with (fail)
  have HKS := hide (fun (W : World) (hW : Below wc.heap.size wc W) => (And.intro ((hW.cell (p := ⟨hc, 2, none⟩) lhc).trans k2) (And.intro ((hW.cell (p := ⟨h5, 4, none⟩) lx5).trans q4) (And.intro ((hW.cell (p := ⟨H1, 1, none⟩) lH1).trans b1) ((hW.cell (p := ⟨H2, 0, none⟩) lH2).trans e0)))))
  have BE0 := hide (show Below wc.heap.size wc wc.drew from ja7 (Below.refl _ _))
  clear q0 q4 b0 b1 b2 e0 e1 k2
  refine jaa (fun w' => w'.cell? ⟨hc, 2, none⟩ = some (.slice Ao hn co) /\ w'.cell? ⟨h5, 4, none⟩ = some (.int .i64 xn) /\ w'.cell? ⟨H1, 1, none⟩ = some (.int .i64 u.o) /\ w'.cell? ⟨H2, 0, none⟩ = some (.int .i64 y.n)) 17 (by kernel_rfl) (HKS.out _ BE0.out) ?_
  obtain ⟨w100, hw100⟩ := zr wc.drew
  have BE100 := hide (show Below wc.heap.size wc w100 by rw [hw100]; exact BE0.out)
  rw [<- hw100]
  have hSd := HKS.out w100 BE100.out
  clear hw100
  refine tilM 0 (Or.inr hSd) ?_
  refine tilM 1 (Or.inr hSd) ?_
  refine tilM 2 (Or.inr hSd) ?_
  refine tilM 3 (Or.inr hSd) ?_
  refine tilM 5 (Or.inr hSd) ?_
  refine tilM 7 (Or.inr hSd) ?_
  refine tilM 9 (Or.inr hSd) ?_
  refine tilT 4 hSd ?_
  refine tilT 6 hSd ?_
  refine tilT 8 hSd ?_
  refine tilT 10 hSd ?_
  refine ja2 (rs := [11]) (by kernel_rfl) (by simp) ?_
  refine AllTil.cons rfl (fun K hK => ?_) ?_
  ·skip
   rw [if_pos (by rfl)]
   go_simp
   go_at_call 107
   refine (HST.out w100 (HB2.out.trans (BE100.out.mono HB2.out.size))).mono ?_
   rintro e w101 ⟨v2, rfl, ho2, hb2⟩
   have BE101 := hide (BE100.out.trans (hb2.mono BE100.out.size))
   have HRB := hide (fun (wF : World) (hk : KeptR w w100 w101 hc v2 wF) => HRA.out v2 w100 w101 wF (HB2.out.trans (BE100.out.mono HB2.out.size)) hb2 ho2 hk)
   obtain ⟨A2, c2, rfl, -, -⟩ := ho2.open'
   have HBW := hide (HB2.out.trans (BE100.out.mono HB2.out.size))
   clear ho2 hb2
   refine hK.out _ _ (HKS.out w101 BE101.out) ?_
   clear hK K
   try clear hSd
   have hSd := HKS.out w101 BE101.out
   try simp only [tilS, Act.put]
   refine tilM 12 (Or.inr hSd) ?_
   refine tilM 13 (Or.inr hSd) ?_
   refine tilM 14 (Or.inr hSd) ?_
   refine tilM 15 (Or.inr hSd) ?_
   refine tilM 16 (Or.inr hSd) ?_
   refine ja2 (rs := [17]) (by kernel_rfl) (by simp) ?_
   refine AllTil.last rfl (by rfl) (fun K hK => ?_)
   obtain ⟨z0, g0⟩ := HKB.out w101 (HB2.out.trans (BE101.out.mono HB2.out.size))
   rw [if_pos (by rfl)]
   go_simp
   clear z0 g0
   refine hK.out _ _ ?_
   clear hK K hSd
   try simp only [tilS, Act.put]
   refine tilM 18 (Or.inl (by rfl)) ?_
   refine jac (by kernel_rfl) ?_ _
   go_wp2_with fail
   go_ret
   exact ⟨rfl, ⟨_, _, HRB.out _ (KeptR.start hlt HBW.out.size), fun b hb => hb.imp id (fun h => Nat.le_trans HBW.out.size h.1)⟩, ((HB2.out.trans (BE101.out.mono HB2.out.size)).mono hbase).setCell (p := ⟨hc, 2, none⟩) hbh _, fun b hb hne => (heap_setCell_other _ _ _ _ (show b ≠ hc from hne)).trans ((HB2.out.trans (BE101.out.mono HB2.out.size)).block b hb)⟩
  exact AllTil.nil
theorem jk5 (base hc : Nat) (vp va vh ve : Value) (P : List FunV) (s : StV) (L : List (FrV × ActW)) (S : Nat -> Prop) (d xn xm : Int) (i j gv nv cv : Nat) (u y : ValV) (A : Option Addr) (l c : Nat) (w : World) (hR : RunP w base hc vp P s va vh ve L S) (hl : s.heap.length <= 10000) (hbase : base <= w.heap.size)
  (hg : gv < w.heap.size) (hi : i < nv) (hj : j < nv) (hu : ValAt w gv i u) (hy : ValAt w gv j y) (hyr : i64R y.n) :
  Calls Tryz.prog 86 #[.pointer (some ⟨hc, 0, none⟩), .slice (some ⟨gv, 0, none⟩) nv cv, .agg #[.int .i64 18, .int .i64 d, .int .i64 (i : Int), .int .i64 (j : Int), .int .i64 xn, .int .i64 xm, .slice A l c]] w fun e w' => e = .returned (.int .i64 (((jb6 s.heap u.o u.a y.n).2 : Nat) : Int)) /\ (∃ vh' S', RunP w' base hc vp P { s with heap := (jb6 s.heap u.o u.a y.n).1 } va vh' ve L S' /\ ∀ b, S' b -> S b \/ w.heap.size <= b) /\ Below base w w' /\ ∀ b, b < w.heap.size -> b ≠ hc -> w'.heap[b]? = w.heap[b]? := by
 have hlt := hR.box.lt
 have HST := hide (fun (W : World) (hW : Below w.heap.size w W) => jh3 vh s.heap u.o u.a y.n hyr W S (fun b hb => Nat.lt_of_lt_of_le (hR.sin b hb).1 hW.size) (hR.objs.keep (fun b o hb => hW.cell (p := ⟨b, o, none⟩) (hR.sin b hb).1) (fun _ h => h)) (by omega))
 have HKB := hide (fun (W : World) (hW : Below w.heap.size w W) => (hR.box.below hW).cell 2 (v := vh) rfl)
 have HRA := hide (fun (vh' : Value) (w1 w2 wF : World) => hR.heapAt (w1 := w1) (w2 := w2) (wF := wF) (vh' := vh') (H := (jb6 s.heap u.o u.a y.n).1))
 obtain ⟨Ao, co, rfl, hco, hm⟩ := hR.objs.open'
 have hbh := hR.hb
 generalize jb6 s.heap u.o u.a y.n = r at *
 obtain ⟨r1, r2⟩ := r
 show Calls Tryz.prog 86 #[.pointer (some ⟨hc, 0, none⟩), .slice (some ⟨gv, 0, none⟩) nv cv, .agg #[.int .i64 18, .int .i64 d, .int .i64 (i : Int), .int .i64 (j : Int), .int .i64 xn, .int .i64 xm, .slice A l c]] w fun e w' => e = .returned (.int .i64 ((r2 : Nat) : Int)) /\ (∃ vh' S', RunP w' base hc vp P { s with heap := r1 } va vh' ve L S' /\ ∀ b, S' b -> S b \/ w.heap.size <= b) /\ Below base w w' /\ ∀ b, b < w.heap.size -> b ≠ hc -> w'.heap[b]? = w.heap[b]?
 generalize s.heap.length = hn at *
 obtain ⟨hu0, hu1, hu2⟩ := hu
 obtain ⟨hy0, hy1, hy2⟩ := hy
 have i1 : (0 : Int) <= (i : Int) := by omega
 have i2 : (i : Int) < (nv : Int) := by omega
 have i3 : (0 : Int) <= (j : Int) := by omega
 have i4 : (j : Int) < (nv : Int) := by omega
 clear hR hco hm hl hyr hi hj
 go_enter Tryz.func86, Tryz.ntmps86
 go_upto_region 2 with (fail)
 obtain ⟨w1, hw1⟩ := zr (w.alloc (.cells #[.int .i64 18, .int .i64 d, .int .i64 (i : Int), .int .i64 (j : Int), .int .i64 xn, .int .i64 xm, .slice A l c] 57))
 obtain ⟨h5, hh5⟩ := zl w.heap.size
 have HX0 := zx1 hw1 hh5
 have HB1 := zb1 hw1
 have h5g : w.heap.size <= h5 := by omega
 have lX0 := HX0.out.lt
 have hg1 : gv < w1.heap.size := Nat.lt_of_lt_of_le hg HB1.out.size
 replace hu0 := (HB1.out.cell (p := ⟨gv, i * 3, none⟩) hg).trans hu0
 replace hu1 := (HB1.out.cell (p := ⟨gv, i * 3 + 1, none⟩) hg).trans hu1
 replace hu2 := (HB1.out.cell (p := ⟨gv, i * 3 + 2, none⟩) hg).trans hu2
 replace hy0 := (HB1.out.cell (p := ⟨gv, j * 3, none⟩) hg).trans hy0
 replace hy1 := (HB1.out.cell (p := ⟨gv, j * 3 + 1, none⟩) hg).trans hy1
 replace hy2 := (HB1.out.cell (p := ⟨gv, j * 3 + 2, none⟩) hg).trans hy2
 obtain ⟨q2, -⟩ := HX0.out.cell 2 (v := .int .i64 (i : Int)) rfl
 obtain ⟨q3, -⟩ := HX0.out.cell 3 (v := .int .i64 (j : Int)) rfl
 rw [<- hw1, hh5]
 clear hw1 hh5
 go_cut [8, 9] from 10 to 20 (fun p q wx => TwoV w1 u y p q wx)
 case first =>
  go_region
  all_goals
   go_wp2_with fail
   go_meet
  all_goals first
   | exact jdo w1 u y
   | exact jdn w1 u y
 case rest =>
  obtain ⟨H1, H2, rfl, rfl, hb1, hb2, hl1, hl2, hbw⟩ := hcut
  have HB2 := hide (HB1.out.trans (hbw.mono HB1.out.size))
  have HX0c := hide (HX0.out.below hbw)
  obtain ⟨q0, -⟩ := HX0c.out.cell 0 (v := .int .i64 18) rfl
  obtain ⟨q4, -⟩ := HX0c.out.cell 4 (v := .int .i64 xn) rfl
  obtain ⟨b0, -⟩ := hb1.cell 0 (v := .int .i64 u.n) rfl
  obtain ⟨b1, -⟩ := hb1.cell 1 (v := .int .i64 u.o) rfl
  obtain ⟨b2, -⟩ := hb1.cell 2 (v := .int .i64 u.a) rfl
  obtain ⟨e0, -⟩ := hb2.cell 0 (v := .int .i64 y.n) rfl
  obtain ⟨e1, -⟩ := hb2.cell 1 (v := .int .i64 y.o) rfl
  obtain ⟨k2, -⟩ := HKB.out wc HB2.out
  have lx5 := HX0c.out.lt
  have lH1 := hb1.lt
  have lH2 := hb2.lt
  have lhc := Nat.lt_of_lt_of_le hlt HB2.out.size
  clear hb1 hb2 hbw hl1 hl2 hu0 hu1 hu2 hy0 hy1 hy2 q2 q3
  go_upto_region 7 with (fail)
  have HKS := hide (fun (W : World) (hW : Below wc.heap.size wc W) => (And.intro ((hW.cell (p := ⟨hc, 2, none⟩) lhc).trans k2) (And.intro ((hW.cell (p := ⟨H1, 1, none⟩) lH1).trans b1) (And.intro ((hW.cell (p := ⟨H1, 2, none⟩) lH1).trans b2) ((hW.cell (p := ⟨H2, 0, none⟩) lH2).trans e0)))))
  have BE0 := hide (show Below wc.heap.size wc wc.drew from ja7 (Below.refl _ _))
  clear q0 q4 b0 b1 b2 e0 e1 k2
  refine jaa (fun w' => w'.cell? ⟨hc, 2, none⟩ = some (.slice Ao hn co) /\ w'.cell? ⟨H1, 1, none⟩ = some (.int .i64 u.o) /\ w'.cell? ⟨H1, 2, none⟩ = some (.int .i64 u.a) /\ w'.cell? ⟨H2, 0, none⟩ = some (.int .i64 y.n)) 17 (by kernel_rfl) (HKS.out _ BE0.out) ?_
  obtain ⟨w100, hw100⟩ := zr wc.drew
  have BE100 := hide (show Below wc.heap.size wc w100 by rw [hw100]; exact BE0.out)
  rw [<- hw100]
  have hSd := HKS.out w100 BE100.out
  clear hw100
  refine tilM 0 (Or.inr hSd) ?_
  refine tilM 1 (Or.inr hSd) ?_
  refine tilM 2 (Or.inr hSd) ?_
  refine tilM 3 (Or.inr hSd) ?_
  refine tilM 5 (Or.inr hSd) ?_
  refine tilM 7 (Or.inr hSd) ?_
  refine tilM 9 (Or.inr hSd) ?_
  refine tilT 4 hSd ?_
  refine tilT 6 hSd ?_
  refine tilT 8 hSd ?_
  refine tilT 10 hSd ?_
  refine ja2 (rs := [11]) (by kernel_rfl) (by simp) ?_
  refine AllTil.cons rfl (fun K hK => ?_) ?_
  ·skip
   rw [if_pos (by rfl)]
   go_simp
   go_at_call 107
   refine (HST.out w100 (HB2.out.trans (BE100.out.mono HB2.out.size))).mono ?_
   rintro e w101 ⟨v2, rfl, ho2, hb2⟩
   have BE101 := hide (BE100.out.trans (hb2.mono BE100.out.size))
   have HRB := hide (fun (wF : World) (hk : KeptR w w100 w101 hc v2 wF) => HRA.out v2 w100 w101 wF (HB2.out.trans (BE100.out.mono HB2.out.size)) hb2 ho2 hk)
   obtain ⟨A2, c2, rfl, -, -⟩ := ho2.open'
   have HBW := hide (HB2.out.trans (BE100.out.mono HB2.out.size))
   clear ho2 hb2
   refine hK.out _ _ (HKS.out w101 BE101.out) ?_
   clear hK K
   try clear hSd
   have hSd := HKS.out w101 BE101.out
   try simp only [tilS, Act.put]
   refine tilM 12 (Or.inr hSd) ?_
   refine tilM 13 (Or.inr hSd) ?_
   refine tilM 14 (Or.inr hSd) ?_
   refine tilM 15 (Or.inr hSd) ?_
   refine tilM 16 (Or.inr hSd) ?_
   refine ja2 (rs := [17]) (by kernel_rfl) (by simp) ?_
   refine AllTil.last rfl (by rfl) (fun K hK => ?_)
   obtain ⟨z0, g0⟩ := HKB.out w101 (HB2.out.trans (BE101.out.mono HB2.out.size))
   rw [if_pos (by rfl)]
   go_simp
   clear z0 g0
   refine hK.out _ _ ?_
   clear hK K hSd
   try simp only [tilS, Act.put]
   refine tilM 18 (Or.inl (by rfl)) ?_
   refine jac (by kernel_rfl) ?_ _
   go_wp2_with fail
   go_ret
   exact ⟨rfl, ⟨_, _, HRB.out _ (KeptR.start hlt HBW.out.size), fun b hb => hb.imp id (fun h => Nat.le_trans HBW.out.size h.1)⟩, ((HB2.out.trans (BE101.out.mono HB2.out.size)).mono hbase).setCell (p := ⟨hc, 2, none⟩) hbh _, fun b hb hne => (heap_setCell_other _ _ _ _ (show b ≠ hc from hne)).trans ((HB2.out.trans (BE101.out.mono HB2.out.size)).block b hb)⟩
  exact AllTil.nil
theorem jk6 (base hc : Nat) (vp va vh ve : Value) (P : List FunV) (s : StV) (L : List (FrV × ActW)) (S : Nat -> Prop) (d xn xm : Int) (i j gv nv cv : Nat) (u y : ValV) (A : Option Addr) (l c : Nat) (w : World) (hR : RunP w base hc vp P s va vh ve L S) (hl : s.heap.length <= 10000) (hbase : base <= w.heap.size)
  (hg : gv < w.heap.size) (hi : i < nv) (hj : j < nv) (hu : ValAt w gv i u) (hy : ValAt w gv j y) (hyr : i64R y.o) :
  Calls Tryz.prog 86 #[.pointer (some ⟨hc, 0, none⟩), .slice (some ⟨gv, 0, none⟩) nv cv, .agg #[.int .i64 14, .int .i64 d, .int .i64 (i : Int), .int .i64 (j : Int), .int .i64 xn, .int .i64 xm, .slice A l c]] w fun e w' => e = .returned (.int .i64 (((jcr s.heap u.o xn y.o).2 : Nat) : Int)) /\ (∃ vh' S', RunP w' base hc vp P { s with heap := (jcr s.heap u.o xn y.o).1 } va vh' ve L S' /\ ∀ b, S' b -> S b \/ w.heap.size <= b) /\ Below base w w' /\ ∀ b, b < w.heap.size -> b ≠ hc -> w'.heap[b]? = w.heap[b]? := by
 have hlt := hR.box.lt
 have HST := hide (fun (W : World) (hW : Below w.heap.size w W) => jov vh s.heap u.o xn y.o hyr W S (fun b hb => Nat.lt_of_lt_of_le (hR.sin b hb).1 hW.size) (hR.objs.keep (fun b o hb => hW.cell (p := ⟨b, o, none⟩) (hR.sin b hb).1) (fun _ h => h)) (by omega))
 have HKB := hide (fun (W : World) (hW : Below w.heap.size w W) => (hR.box.below hW).cell 2 (v := vh) rfl)
 have HRA := hide (fun (vh' : Value) (w1 w2 wF : World) => hR.heapAt (w1 := w1) (w2 := w2) (wF := wF) (vh' := vh') (H := (jcr s.heap u.o xn y.o).1))
 obtain ⟨Ao, co, rfl, hco, hm⟩ := hR.objs.open'
 have hbh := hR.hb
 generalize jcr s.heap u.o xn y.o = r at *
 obtain ⟨r1, r2⟩ := r
 show Calls Tryz.prog 86 #[.pointer (some ⟨hc, 0, none⟩), .slice (some ⟨gv, 0, none⟩) nv cv, .agg #[.int .i64 14, .int .i64 d, .int .i64 (i : Int), .int .i64 (j : Int), .int .i64 xn, .int .i64 xm, .slice A l c]] w fun e w' => e = .returned (.int .i64 ((r2 : Nat) : Int)) /\ (∃ vh' S', RunP w' base hc vp P { s with heap := r1 } va vh' ve L S' /\ ∀ b, S' b -> S b \/ w.heap.size <= b) /\ Below base w w' /\ ∀ b, b < w.heap.size -> b ≠ hc -> w'.heap[b]? = w.heap[b]?
 generalize s.heap.length = hn at *
 obtain ⟨hu0, hu1, hu2⟩ := hu
 obtain ⟨hy0, hy1, hy2⟩ := hy
 have i1 : (0 : Int) <= (i : Int) := by omega
 have i2 : (i : Int) < (nv : Int) := by omega
 have i3 : (0 : Int) <= (j : Int) := by omega
 have i4 : (j : Int) < (nv : Int) := by omega
 clear hR hco hm hl hyr hi hj
 go_enter Tryz.func86, Tryz.ntmps86
 go_upto_region 2 with (fail)
 obtain ⟨w1, hw1⟩ := zr (w.alloc (.cells #[.int .i64 14, .int .i64 d, .int .i64 (i : Int), .int .i64 (j : Int), .int .i64 xn, .int .i64 xm, .slice A l c] 57))
 obtain ⟨h5, hh5⟩ := zl w.heap.size
 have HX0 := zx1 hw1 hh5
 have HB1 := zb1 hw1
 have h5g : w.heap.size <= h5 := by omega
 have lX0 := HX0.out.lt
 have hg1 : gv < w1.heap.size := Nat.lt_of_lt_of_le hg HB1.out.size
 replace hu0 := (HB1.out.cell (p := ⟨gv, i * 3, none⟩) hg).trans hu0
 replace hu1 := (HB1.out.cell (p := ⟨gv, i * 3 + 1, none⟩) hg).trans hu1
 replace hu2 := (HB1.out.cell (p := ⟨gv, i * 3 + 2, none⟩) hg).trans hu2
 replace hy0 := (HB1.out.cell (p := ⟨gv, j * 3, none⟩) hg).trans hy0
 replace hy1 := (HB1.out.cell (p := ⟨gv, j * 3 + 1, none⟩) hg).trans hy1
 replace hy2 := (HB1.out.cell (p := ⟨gv, j * 3 + 2, none⟩) hg).trans hy2
 obtain ⟨q2, -⟩ := HX0.out.cell 2 (v := .int .i64 (i : Int)) rfl
 obtain ⟨q3, -⟩ := HX0.out.cell 3 (v := .int .i64 (j : Int)) rfl
 rw [<- hw1, hh5]
 clear hw1 hh5
 go_cut [8, 9] from 10 to 20 (fun p q wx => TwoV w1 u y p q wx)
 case first =>
  go_region
  all_goals
   go_wp2_with fail
   go_meet
  all_goals first
   | exact jdo w1 u y
   | exact jdn w1 u y
 case rest =>
  obtain ⟨H1, H2, rfl, rfl, hb1, hb2, hl1, hl2, hbw⟩ := hcut
  have HB2 := hide (HB1.out.trans (hbw.mono HB1.out.size))
  have HX0c := hide (HX0.out.below hbw)
  obtain ⟨q0, -⟩ := HX0c.out.cell 0 (v := .int .i64 14) rfl
  obtain ⟨q4, -⟩ := HX0c.out.cell 4 (v := .int .i64 xn) rfl
  obtain ⟨b0, -⟩ := hb1.cell 0 (v := .int .i64 u.n) rfl
  obtain ⟨b1, -⟩ := hb1.cell 1 (v := .int .i64 u.o) rfl
  obtain ⟨b2, -⟩ := hb1.cell 2 (v := .int .i64 u.a) rfl
  obtain ⟨e0, -⟩ := hb2.cell 0 (v := .int .i64 y.n) rfl
  obtain ⟨e1, -⟩ := hb2.cell 1 (v := .int .i64 y.o) rfl
  obtain ⟨k2, -⟩ := HKB.out wc HB2.out
  have lx5 := HX0c.out.lt
  have lH1 := hb1.lt
  have lH2 := hb2.lt
  have lhc := Nat.lt_of_lt_of_le hlt HB2.out.size
  clear hb1 hb2 hbw hl1 hl2 hu0 hu1 hu2 hy0 hy1 hy2 q2 q3
  go_upto_region 9 with (fail)
  have HKS := hide (fun (W : World) (hW : Below wc.heap.size wc W) => (And.intro ((hW.cell (p := ⟨hc, 2, none⟩) lhc).trans k2) (And.intro ((hW.cell (p := ⟨h5, 4, none⟩) lx5).trans q4) (And.intro ((hW.cell (p := ⟨H1, 1, none⟩) lH1).trans b1) ((hW.cell (p := ⟨H2, 1, none⟩) lH2).trans e1)))))
  have BE0 := hide (show Below wc.heap.size wc wc.drew from ja7 (Below.refl _ _))
  clear q0 q4 b0 b1 b2 e0 e1 k2
  refine jaa (fun w' => w'.cell? ⟨hc, 2, none⟩ = some (.slice Ao hn co) /\ w'.cell? ⟨h5, 4, none⟩ = some (.int .i64 xn) /\ w'.cell? ⟨H1, 1, none⟩ = some (.int .i64 u.o) /\ w'.cell? ⟨H2, 1, none⟩ = some (.int .i64 y.o)) 17 (by kernel_rfl) (HKS.out _ BE0.out) ?_
  obtain ⟨w100, hw100⟩ := zr wc.drew
  have BE100 := hide (show Below wc.heap.size wc w100 by rw [hw100]; exact BE0.out)
  rw [<- hw100]
  have hSd := HKS.out w100 BE100.out
  clear hw100
  refine tilM 0 (Or.inr hSd) ?_
  refine tilM 1 (Or.inr hSd) ?_
  refine tilM 2 (Or.inr hSd) ?_
  refine tilM 3 (Or.inr hSd) ?_
  refine tilM 5 (Or.inr hSd) ?_
  refine tilM 7 (Or.inr hSd) ?_
  refine tilM 9 (Or.inr hSd) ?_
  refine tilT 4 hSd ?_
  refine tilT 6 hSd ?_
  refine tilT 8 hSd ?_
  refine tilT 10 hSd ?_
  refine ja2 (rs := [11]) (by kernel_rfl) (by simp) ?_
  refine AllTil.cons rfl (fun K hK => ?_) ?_
  ·skip
   rw [if_pos (by rfl)]
   go_simp
   go_at_call 108
   refine (HST.out w100 (HB2.out.trans (BE100.out.mono HB2.out.size))).mono ?_
   rintro e w101 ⟨v2, rfl, ho2, hb2⟩
   have BE101 := hide (BE100.out.trans (hb2.mono BE100.out.size))
   have HRB := hide (fun (wF : World) (hk : KeptR w w100 w101 hc v2 wF) => HRA.out v2 w100 w101 wF (HB2.out.trans (BE100.out.mono HB2.out.size)) hb2 ho2 hk)
   obtain ⟨A2, c2, rfl, -, -⟩ := ho2.open'
   have HBW := hide (HB2.out.trans (BE100.out.mono HB2.out.size))
   clear ho2 hb2
   refine hK.out _ _ (HKS.out w101 BE101.out) ?_
   clear hK K
   try clear hSd
   have hSd := HKS.out w101 BE101.out
   try simp only [tilS, Act.put]
   refine tilM 12 (Or.inr hSd) ?_
   refine tilM 13 (Or.inr hSd) ?_
   refine tilM 14 (Or.inr hSd) ?_
   refine tilM 15 (Or.inr hSd) ?_
   refine tilM 16 (Or.inr hSd) ?_
   refine ja2 (rs := [17]) (by kernel_rfl) (by simp) ?_
   refine AllTil.last rfl (by rfl) (fun K hK => ?_)
   obtain ⟨z0, g0⟩ := HKB.out w101 (HB2.out.trans (BE101.out.mono HB2.out.size))
   rw [if_pos (by rfl)]
   go_simp
   clear z0 g0
   refine hK.out _ _ ?_
   clear hK K hSd
   try simp only [tilS, Act.put]
   refine tilM 18 (Or.inl (by rfl)) ?_
   refine jac (by kernel_rfl) ?_ _
   go_wp2_with fail
   go_ret
   exact ⟨rfl, ⟨_, _, HRB.out _ (KeptR.start hlt HBW.out.size), fun b hb => hb.imp id (fun h => Nat.le_trans HBW.out.size h.1)⟩, ((HB2.out.trans (BE101.out.mono HB2.out.size)).mono hbase).setCell (p := ⟨hc, 2, none⟩) hbh _, fun b hb hne => (heap_setCell_other _ _ _ _ (show b ≠ hc from hne)).trans ((HB2.out.trans (BE101.out.mono HB2.out.size)).block b hb)⟩
  exact AllTil.nil
end Go.Proofs.YthbnbaikdcfbmaaGreatDoor
