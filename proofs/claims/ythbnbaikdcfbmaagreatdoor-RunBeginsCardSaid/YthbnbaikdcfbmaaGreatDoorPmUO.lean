/- Layer 10, the program: contracts of do, a kind of instruction at a time. No condition but on lengths. -/
import Derived.Test.YthbnbaikdcfbmaaGreatDoorPmUN
set_option linter.unusedSimpArgs false
set_option linter.unusedVariables false
set_option maxHeartbeats 4000000
set_option maxRecDepth 100000
namespace Go.Proofs.YthbnbaikdcfbmaaGreatDoor
open Go.RowKit
def DoA (w : World) (base hc : Nat) (vp : Value) (P : List FunV) (S : Nat -> Prop) (r : StV × Nat) (e : Ending) (w' : World) : Prop :=
 e = .returned (.int .i64 ((r.2 : Nat) : Int)) /\ (∃ va' vh' ve' L' S', RunP w' base hc vp P r.1 va' vh' ve' L' S' /\ ∀ b, S' b -> S b \/ base <= b) /\ Below base w w'
theorem jmz {s : StV} {l : List FrV} (h : s.stk = l) (k : List ObjV) : ({ s with heap := k } : StV) = { s with stk := l, heap := k } := by subst h; rfl
theorem jg6 {w : World} {g i : Nat} {x : ValV} (h : w.cell? ⟨g, i * 3, none⟩ = some (.int .i64 x.n) /\ w.cell? ⟨g, i * 3 + 1, none⟩ = some (.int .i64 x.o) /\ w.cell? ⟨g, i * 3 + 2, none⟩ = some (.int .i64 x.a)) : ValAt w g i x := ⟨h.1, h.2.1, h.2.2⟩
theorem RunP.jump {w : World} {base hc g n cap : Nat} {vp vh ve : Value} {P : List FunV} {s : StV} {L : List (FrV × ActW)} {S : Nat -> Prop} {f : FrV} {a : ActW} (h : RunP w base hc vp P s (.slice (some ⟨g, 0, none⟩) n cap) vh ve (L ++ [(f, a)]) S) (k : Nat) :
  RunP ((w.setCell ⟨g, L.length * 9 + 5, none⟩ (.int .i64 (k : Int))).setCell ⟨g, L.length * 9 + 5 + 1, none⟩ (.int .i64 0)) base hc vp P { s with stk := L.map Prod.fst ++ [{ f with bl := k, pl := 0 }] } (.slice (some ⟨g, 0, none⟩) n cap) vh ve (L ++ [({ f with bl := k, pl := 0 }, a)]) S := by
 have h1 := h.top 5 (.int .i64 (k : Int)) { f with bl := k } (by omega) rfl rfl rfl
 have h2 := h1.top 6 (.int .i64 0) { f with bl := k, pl := 0 } (by omega) rfl rfl rfl
 exact h2
theorem ransAll (base hc : Nat) (vp va vh ve : Value) (P : List FunV) (s : StV) (L : List (FrV × ActW)) (f : FrV) (a : ActW) (S : Nat -> Prop) (v : ValV) (w : World) (hR : RunP w base hc vp P s va vh ve (L ++ [(f, a)]) S) (hw : ∀ p ∈ L, 0 <= p.1.want /\ p.1.want < p.1.vars.length) (hL : L.length < 60) (hbase : base <= w.heap.size) :
  Calls Tryz.prog 89 #[.pointer (some ⟨hc, 0, none⟩), .agg #[.int .i64 v.n, .int .i64 v.o, .int .i64 v.a]] w fun e w' => e = .returned (.tuple #[]) /\ (∃ va' L', RunP w' base hc vp P (ansS (L.map Prod.fst) v s) va' vh ve L' S) /\ Below base w w' := by
 rcases List.eq_nil_or_concat L with rfl | ⟨L0, ⟨g0, b⟩, rfl⟩
 ·refine (jkb base hc vp va vh ve P s f a S v w hR hbase).mono fun e w' ⟨he, ⟨va', h⟩, hb, _⟩ => ⟨he, ⟨va', [], h⟩, hb⟩
 ·rw [List.concat_eq_append] at *
  have h0 : 0 <= g0.want /\ g0.want < g0.vars.length := hw (g0, b) (by simp)
  obtain ⟨i, hi⟩ : ∃ i : Nat, g0.want = i := ⟨g0.want.toNat, by omega⟩
  have hlt : i < g0.vars.length := by have := h0.2; omega
  refine (jka base hc vp va vh ve P s L0 g0 b i f a S v w hR hlt hi (by simp at hL; omega) hbase).mono fun e w' ⟨he, ⟨va', h⟩, hb, _⟩ => ⟨he, ⟨va', _, h.cast ?_⟩, hb⟩
  unfold ansS
  rw [List.map_append, List.map_cons, List.map_nil, (je6 _ _).1, (je6 _ _).2]
  have : g0.want.toNat = i := by rw [hi, Int.toNat_natCast]
  simp only [this]
theorem rdoA_any (base hc : Nat) (vp va vh ve : Value) (P : List FunV) (s : StV) (L : List (FrV × ActW)) (f : FrV) (a : ActW) (S : Nat -> Prop) (x : InsV) (A : Option Addr) (m c : Nat) (w : World) (hR : RunP w base hc vp P s va vh ve (L ++ [(f, a)]) S) (hst : s.stk = L.map Prod.fst ++ [f]) (hL : L.length < 60) (hbase : base <= w.heap.size) (hv0 : 0 < f.vars.length) (hop : x.op = 12 \/ x.op = 14 \/ x.op = 18) (ha : 0 <= x.a /\ x.a < f.vars.length) (hb : 0 <= x.b /\ x.b < f.vars.length) (hr : ∀ u ∈ f.vars, i64R u.n /\ i64R u.o) (hl : s.heap.length <= 10000) :
  Calls Tryz.prog 67 #[.pointer (some ⟨hc, 0, none⟩), .agg #[.int .i64 x.op, .int .i64 x.d, .int .i64 x.a, .int .i64 x.b, .int .i64 x.n, .int .i64 x.m, .slice A m c]] w (DoA w base hc vp P S (doS P (L.map Prod.fst) f x s)) := by
 obtain ⟨g, cap, rfl, hcap, hcm, hgb, hgl, hgne, hcell⟩ := hR.last
 have hhc := hR.box.lt
 have hbh := hR.hb
 simp only [maxLen] at hcm
 obtain ⟨gv', cv, hv, hcv, hcvm, hgvb, hgvl, hval⟩ := (hR.all (f, a) (by simp)).vals hv0
 have hv' : a.vv = .slice (some ⟨gv', 0, none⟩) f.vars.length cv := hv
 obtain ⟨i, hi⟩ : ∃ i : Nat, x.a = i := ⟨x.a.toNat, by omega⟩
 obtain ⟨j, hj⟩ : ∃ j : Nat, x.b = j := ⟨x.b.toNat, by omega⟩
 obtain ⟨u, hu⟩ : ∃ u, f.vars[i]? = some u := ⟨_, List.getElem?_eq_getElem (by omega)⟩
 obtain ⟨y, hy⟩ : ∃ y, f.vars[j]? = some y := ⟨_, List.getElem?_eq_getElem (by omega)⟩
 have hyr := hr y (List.mem_of_getElem? hy)
 have HST := hide (fun (W : World) (hW : Below w.heap.size w W) => jm0 base hc vp _ vh ve P s _ S x i j gv' f.vars.length cv u y f.vars A m c W (hR.below hW) hl (Nat.le_trans hbase hW.size) (Nat.lt_of_lt_of_le hgvl hW.size) (by omega) (by omega) ((jg6 (hval i u hu).1).below hgvl hW) ((jg6 (hval j y hy).1).below hgvl hW) hi hj hu hy hyr.1 hyr.2 hop)
 have e : doS P (L.map Prod.fst) f x s = ({ s with stk := L.map Prod.fst ++ [f], heap := (jdf s.heap f.vars x).1 }, (jdf s.heap f.vars x).2) := by unfold doS; rw [if_pos hop]
 rw [e]
 have HSS := hide (fun k => jmz hst k)
 obtain ⟨r, hrr⟩ := zl (jdf s.heap f.vars x)
 rw [hrr] at HST ⊢
 obtain ⟨r1, r2⟩ := r
 clear e hrr
 obtain ⟨op, d, xa, xb, xn, xm, args⟩ := x
 rcases hop with h | h | h
 ·have h' : op = 12 := h
  subst h'
  have t7 := (hcell 7 (.slice (some ⟨gv', 0, none⟩) f.vars.length cv) (by omega) (by rw [<- hv']; rfl)).1
  have c1 := (hR.box.cell 1 (v := .slice (some ⟨g, 0, none⟩) (L.length + 1) cap) rfl).1
  have HRB := hide (fun (W : World) (hW : Below w.heap.size w W) => hR.below hW)
  obtain ⟨n, hn⟩ := zl L.length
  have HN := hide hn
  rw [hn] at hcap c1 hL t7
  generalize f.vars.length = nv at *
  clear hR hn hcell hv hv' hval hi hj hu hy hyr hr ha hb hst hl h
  go_enter Tryz.func67, Tryz.ntmps67
  go_upto_region 1 with (fail)
  obtain ⟨w1, hw1⟩ := zr (w.alloc (.cells #[.int .i64 12, .int .i64 d, .int .i64 xa, .int .i64 xb, .int .i64 xn, .int .i64 xm, .slice A m c] 57))
  obtain ⟨h5, hh5⟩ := zl w.heap.size
  have HX0 := zx1 hw1 hh5
  have HB1 := zb1 hw1
  have h5g : w.heap.size <= h5 := by omega
  have hhc1 : hc < w1.heap.size := Nat.lt_of_lt_of_le hhc HB1.out.size
  have HL := hide (jba hc g n cap w1 hhc1 ((HB1.out.cell (p := ⟨hc, 1, none⟩) hhc).trans c1) (by omega) hcap)
  rw [<- hw1, hh5]
  clear hw1 hh5
  go_upto_region 2 with (go_at_call 85; (with_reducible refine HL.out.mono ?_); rintro e w2 ⟨rfl, q, hw2⟩; have HB2 := hide (show Below w1.heap.size w1 w2 by rw [hw2]; exact jar q); clear hw2)
  have HC2 := hide (HB1.out.trans (HB2.out.mono HB1.out.size))
  have gl2 : g < w2.heap.size := Nat.lt_of_lt_of_le hgl HC2.out.size
  have hc2 : hc < w2.heap.size := Nat.lt_of_lt_of_le hhc HC2.out.size
  have HX2 := hide (HX0.out.below HB2.out)
  have lx2 : h5 < w2.heap.size := HX2.out.lt
  replace t7 := (HC2.out.cell (p := ⟨g, n * 9 + 7, none⟩) hgl).trans t7
  have hgv2 : gv' < w2.heap.size := Nat.lt_of_lt_of_le hgvl HC2.out.size
  obtain ⟨q0, -⟩ := HX2.out.cell 0 (v := .int .i64 12) rfl
  obtain ⟨q1, -⟩ := HX2.out.cell 1 (v := .int .i64 d) rfl
  obtain ⟨q2, -⟩ := HX2.out.cell 2 (v := .int .i64 xa) rfl
  obtain ⟨q3, -⟩ := HX2.out.cell 3 (v := .int .i64 xb) rfl
  obtain ⟨q4, -⟩ := HX2.out.cell 4 (v := .int .i64 xn) rfl
  obtain ⟨q5, -⟩ := HX2.out.cell 5 (v := .int .i64 xm) rfl
  obtain ⟨q6, -⟩ := HX2.out.cell 6 (v := .slice A m c) rfl
  go_upto_region 10 with (fail)
  have HKS := hide (fun (W : World) (hW : Below w2.heap.size w2 W) => (And.intro ((hW.cell (p := ⟨g, n * 9 + 7, none⟩) gl2).trans t7) (And.intro ((hW.cell (p := ⟨h5, 0, none⟩) lx2).trans q0) (And.intro ((hW.cell (p := ⟨h5, 1, none⟩) lx2).trans q1) (And.intro ((hW.cell (p := ⟨h5, 2, none⟩) lx2).trans q2) (And.intro ((hW.cell (p := ⟨h5, 3, none⟩) lx2).trans q3) (And.intro ((hW.cell (p := ⟨h5, 4, none⟩) lx2).trans q4) (And.intro ((hW.cell (p := ⟨h5, 5, none⟩) lx2).trans q5) ((hW.cell (p := ⟨h5, 6, none⟩) lx2).trans q6)))))))))
  have BE0 := hide (show Below w2.heap.size w2 w2.drew from ja7 (Below.refl _ _))
  clear q0 q1 q2 q3 q4 q5 q6 t7
  refine jaa (fun w' => w'.cell? ⟨g, n * 9 + 7, none⟩ = some (.slice (some ⟨gv', 0, none⟩) nv cv) /\ w'.cell? ⟨h5, 0, none⟩ = some (.int .i64 12) /\ w'.cell? ⟨h5, 1, none⟩ = some (.int .i64 d) /\ w'.cell? ⟨h5, 2, none⟩ = some (.int .i64 xa) /\ w'.cell? ⟨h5, 3, none⟩ = some (.int .i64 xb) /\ w'.cell? ⟨h5, 4, none⟩ = some (.int .i64 xn) /\ w'.cell? ⟨h5, 5, none⟩ = some (.int .i64 xm) /\ w'.cell? ⟨h5, 6, none⟩ = some (.slice A m c)) 6 (by kernel_rfl) (HKS.out _ BE0.out) ?_
  obtain ⟨w100, hw100⟩ := zr w2.drew
  have BE100 := hide (show Below w2.heap.size w2 w100 by rw [hw100]; exact BE0.out)
  rw [<- hw100]
  have hSd := HKS.out w100 BE100.out
  clear hw100
  refine tilM 0 (Or.inr hSd) ?_
  refine tilM 1 (Or.inr hSd) ?_
  refine tilM 2 (Or.inr hSd) ?_
  refine tilM 3 (Or.inr hSd) ?_
  refine tilT 4 hSd ?_
  refine tilT 5 hSd ?_
  refine ja2 (rs := [6]) (by kernel_rfl) (by simp) ?_
  refine AllTil.last rfl (by rfl) (fun K hK => ?_)
  rw [if_pos (by rfl)]
  go_simp
  go_at_call 86
  refine (HST.out w100 (HC2.out.trans (BE100.out.mono HC2.out.size))).mono ?_
  rintro e w101 ⟨rfl, ⟨vh', S', hr', hs'⟩, hb', -⟩
  have HR' := hide hr'
  have HS' := hide hs'
  have HBB := hide (((HC2.out.trans (BE100.out.mono HC2.out.size)).mono hbase).trans hb')
  have HSZ := hide (Nat.le_trans hbase (HC2.out.trans (BE100.out.mono HC2.out.size)).size)
  clear hr' hs' hb'
  refine hK.out _ _ ?_
  clear hK K hSd
  try simp only [tilS, Act.put]
  refine tilM 7 (Or.inl (by rfl)) ?_
  refine jac (by kernel_rfl) ?_ _
  go_wp2_with fail
  go_ret
  exact ⟨rfl, ⟨_, vh', _, _, S', HR'.out.cast (HSS.out r1), fun b hb => (HS'.out b hb).imp id (fun h => Nat.le_trans HSZ.out h)⟩, HBB.out⟩
 ·have h' : op = 14 := h
  subst h'
  have t7 := (hcell 7 (.slice (some ⟨gv', 0, none⟩) f.vars.length cv) (by omega) (by rw [<- hv']; rfl)).1
  have c1 := (hR.box.cell 1 (v := .slice (some ⟨g, 0, none⟩) (L.length + 1) cap) rfl).1
  have HRB := hide (fun (W : World) (hW : Below w.heap.size w W) => hR.below hW)
  obtain ⟨n, hn⟩ := zl L.length
  have HN := hide hn
  rw [hn] at hcap c1 hL t7
  generalize f.vars.length = nv at *
  clear hR hn hcell hv hv' hval hi hj hu hy hyr hr ha hb hst hl h
  go_enter Tryz.func67, Tryz.ntmps67
  go_upto_region 1 with (fail)
  obtain ⟨w1, hw1⟩ := zr (w.alloc (.cells #[.int .i64 14, .int .i64 d, .int .i64 xa, .int .i64 xb, .int .i64 xn, .int .i64 xm, .slice A m c] 57))
  obtain ⟨h5, hh5⟩ := zl w.heap.size
  have HX0 := zx1 hw1 hh5
  have HB1 := zb1 hw1
  have h5g : w.heap.size <= h5 := by omega
  have hhc1 : hc < w1.heap.size := Nat.lt_of_lt_of_le hhc HB1.out.size
  have HL := hide (jba hc g n cap w1 hhc1 ((HB1.out.cell (p := ⟨hc, 1, none⟩) hhc).trans c1) (by omega) hcap)
  rw [<- hw1, hh5]
  clear hw1 hh5
  go_upto_region 2 with (go_at_call 85; (with_reducible refine HL.out.mono ?_); rintro e w2 ⟨rfl, q, hw2⟩; have HB2 := hide (show Below w1.heap.size w1 w2 by rw [hw2]; exact jar q); clear hw2)
  have HC2 := hide (HB1.out.trans (HB2.out.mono HB1.out.size))
  have gl2 : g < w2.heap.size := Nat.lt_of_lt_of_le hgl HC2.out.size
  have hc2 : hc < w2.heap.size := Nat.lt_of_lt_of_le hhc HC2.out.size
  have HX2 := hide (HX0.out.below HB2.out)
  have lx2 : h5 < w2.heap.size := HX2.out.lt
  replace t7 := (HC2.out.cell (p := ⟨g, n * 9 + 7, none⟩) hgl).trans t7
  have hgv2 : gv' < w2.heap.size := Nat.lt_of_lt_of_le hgvl HC2.out.size
  obtain ⟨q0, -⟩ := HX2.out.cell 0 (v := .int .i64 14) rfl
  obtain ⟨q1, -⟩ := HX2.out.cell 1 (v := .int .i64 d) rfl
  obtain ⟨q2, -⟩ := HX2.out.cell 2 (v := .int .i64 xa) rfl
  obtain ⟨q3, -⟩ := HX2.out.cell 3 (v := .int .i64 xb) rfl
  obtain ⟨q4, -⟩ := HX2.out.cell 4 (v := .int .i64 xn) rfl
  obtain ⟨q5, -⟩ := HX2.out.cell 5 (v := .int .i64 xm) rfl
  obtain ⟨q6, -⟩ := HX2.out.cell 6 (v := .slice A m c) rfl
  go_upto_region 10 with (fail)
  have HKS := hide (fun (W : World) (hW : Below w2.heap.size w2 W) => (And.intro ((hW.cell (p := ⟨g, n * 9 + 7, none⟩) gl2).trans t7) (And.intro ((hW.cell (p := ⟨h5, 0, none⟩) lx2).trans q0) (And.intro ((hW.cell (p := ⟨h5, 1, none⟩) lx2).trans q1) (And.intro ((hW.cell (p := ⟨h5, 2, none⟩) lx2).trans q2) (And.intro ((hW.cell (p := ⟨h5, 3, none⟩) lx2).trans q3) (And.intro ((hW.cell (p := ⟨h5, 4, none⟩) lx2).trans q4) (And.intro ((hW.cell (p := ⟨h5, 5, none⟩) lx2).trans q5) ((hW.cell (p := ⟨h5, 6, none⟩) lx2).trans q6)))))))))
  have BE0 := hide (show Below w2.heap.size w2 w2.drew from ja7 (Below.refl _ _))
  clear q0 q1 q2 q3 q4 q5 q6 t7
  refine jaa (fun w' => w'.cell? ⟨g, n * 9 + 7, none⟩ = some (.slice (some ⟨gv', 0, none⟩) nv cv) /\ w'.cell? ⟨h5, 0, none⟩ = some (.int .i64 14) /\ w'.cell? ⟨h5, 1, none⟩ = some (.int .i64 d) /\ w'.cell? ⟨h5, 2, none⟩ = some (.int .i64 xa) /\ w'.cell? ⟨h5, 3, none⟩ = some (.int .i64 xb) /\ w'.cell? ⟨h5, 4, none⟩ = some (.int .i64 xn) /\ w'.cell? ⟨h5, 5, none⟩ = some (.int .i64 xm) /\ w'.cell? ⟨h5, 6, none⟩ = some (.slice A m c)) 6 (by kernel_rfl) (HKS.out _ BE0.out) ?_
  obtain ⟨w100, hw100⟩ := zr w2.drew
  have BE100 := hide (show Below w2.heap.size w2 w100 by rw [hw100]; exact BE0.out)
  rw [<- hw100]
  have hSd := HKS.out w100 BE100.out
  clear hw100
  refine tilM 0 (Or.inr hSd) ?_
  refine tilM 1 (Or.inr hSd) ?_
  refine tilM 2 (Or.inr hSd) ?_
  refine tilM 3 (Or.inr hSd) ?_
  refine tilT 4 hSd ?_
  refine tilT 5 hSd ?_
  refine ja2 (rs := [6]) (by kernel_rfl) (by simp) ?_
  refine AllTil.last rfl (by rfl) (fun K hK => ?_)
  rw [if_pos (by rfl)]
  go_simp
  go_at_call 86
  refine (HST.out w100 (HC2.out.trans (BE100.out.mono HC2.out.size))).mono ?_
  rintro e w101 ⟨rfl, ⟨vh', S', hr', hs'⟩, hb', -⟩
  have HR' := hide hr'
  have HS' := hide hs'
  have HBB := hide (((HC2.out.trans (BE100.out.mono HC2.out.size)).mono hbase).trans hb')
  have HSZ := hide (Nat.le_trans hbase (HC2.out.trans (BE100.out.mono HC2.out.size)).size)
  clear hr' hs' hb'
  refine hK.out _ _ ?_
  clear hK K hSd
  try simp only [tilS, Act.put]
  refine tilM 7 (Or.inl (by rfl)) ?_
  refine jac (by kernel_rfl) ?_ _
  go_wp2_with fail
  go_ret
  exact ⟨rfl, ⟨_, vh', _, _, S', HR'.out.cast (HSS.out r1), fun b hb => (HS'.out b hb).imp id (fun h => Nat.le_trans HSZ.out h)⟩, HBB.out⟩
 ·have h' : op = 18 := h
  subst h'
  have t7 := (hcell 7 (.slice (some ⟨gv', 0, none⟩) f.vars.length cv) (by omega) (by rw [<- hv']; rfl)).1
  have c1 := (hR.box.cell 1 (v := .slice (some ⟨g, 0, none⟩) (L.length + 1) cap) rfl).1
  have HRB := hide (fun (W : World) (hW : Below w.heap.size w W) => hR.below hW)
  obtain ⟨n, hn⟩ := zl L.length
  have HN := hide hn
  rw [hn] at hcap c1 hL t7
  generalize f.vars.length = nv at *
  clear hR hn hcell hv hv' hval hi hj hu hy hyr hr ha hb hst hl h
  go_enter Tryz.func67, Tryz.ntmps67
  go_upto_region 1 with (fail)
  obtain ⟨w1, hw1⟩ := zr (w.alloc (.cells #[.int .i64 18, .int .i64 d, .int .i64 xa, .int .i64 xb, .int .i64 xn, .int .i64 xm, .slice A m c] 57))
  obtain ⟨h5, hh5⟩ := zl w.heap.size
  have HX0 := zx1 hw1 hh5
  have HB1 := zb1 hw1
  have h5g : w.heap.size <= h5 := by omega
  have hhc1 : hc < w1.heap.size := Nat.lt_of_lt_of_le hhc HB1.out.size
  have HL := hide (jba hc g n cap w1 hhc1 ((HB1.out.cell (p := ⟨hc, 1, none⟩) hhc).trans c1) (by omega) hcap)
  rw [<- hw1, hh5]
  clear hw1 hh5
  go_upto_region 2 with (go_at_call 85; (with_reducible refine HL.out.mono ?_); rintro e w2 ⟨rfl, q, hw2⟩; have HB2 := hide (show Below w1.heap.size w1 w2 by rw [hw2]; exact jar q); clear hw2)
  have HC2 := hide (HB1.out.trans (HB2.out.mono HB1.out.size))
  have gl2 : g < w2.heap.size := Nat.lt_of_lt_of_le hgl HC2.out.size
  have hc2 : hc < w2.heap.size := Nat.lt_of_lt_of_le hhc HC2.out.size
  have HX2 := hide (HX0.out.below HB2.out)
  have lx2 : h5 < w2.heap.size := HX2.out.lt
  replace t7 := (HC2.out.cell (p := ⟨g, n * 9 + 7, none⟩) hgl).trans t7
  have hgv2 : gv' < w2.heap.size := Nat.lt_of_lt_of_le hgvl HC2.out.size
  obtain ⟨q0, -⟩ := HX2.out.cell 0 (v := .int .i64 18) rfl
  obtain ⟨q1, -⟩ := HX2.out.cell 1 (v := .int .i64 d) rfl
  obtain ⟨q2, -⟩ := HX2.out.cell 2 (v := .int .i64 xa) rfl
  obtain ⟨q3, -⟩ := HX2.out.cell 3 (v := .int .i64 xb) rfl
  obtain ⟨q4, -⟩ := HX2.out.cell 4 (v := .int .i64 xn) rfl
  obtain ⟨q5, -⟩ := HX2.out.cell 5 (v := .int .i64 xm) rfl
  obtain ⟨q6, -⟩ := HX2.out.cell 6 (v := .slice A m c) rfl
  go_upto_region 10 with (fail)
  have HKS := hide (fun (W : World) (hW : Below w2.heap.size w2 W) => (And.intro ((hW.cell (p := ⟨g, n * 9 + 7, none⟩) gl2).trans t7) (And.intro ((hW.cell (p := ⟨h5, 0, none⟩) lx2).trans q0) (And.intro ((hW.cell (p := ⟨h5, 1, none⟩) lx2).trans q1) (And.intro ((hW.cell (p := ⟨h5, 2, none⟩) lx2).trans q2) (And.intro ((hW.cell (p := ⟨h5, 3, none⟩) lx2).trans q3) (And.intro ((hW.cell (p := ⟨h5, 4, none⟩) lx2).trans q4) (And.intro ((hW.cell (p := ⟨h5, 5, none⟩) lx2).trans q5) ((hW.cell (p := ⟨h5, 6, none⟩) lx2).trans q6)))))))))
  have BE0 := hide (show Below w2.heap.size w2 w2.drew from ja7 (Below.refl _ _))
  clear q0 q1 q2 q3 q4 q5 q6 t7
  refine jaa (fun w' => w'.cell? ⟨g, n * 9 + 7, none⟩ = some (.slice (some ⟨gv', 0, none⟩) nv cv) /\ w'.cell? ⟨h5, 0, none⟩ = some (.int .i64 18) /\ w'.cell? ⟨h5, 1, none⟩ = some (.int .i64 d) /\ w'.cell? ⟨h5, 2, none⟩ = some (.int .i64 xa) /\ w'.cell? ⟨h5, 3, none⟩ = some (.int .i64 xb) /\ w'.cell? ⟨h5, 4, none⟩ = some (.int .i64 xn) /\ w'.cell? ⟨h5, 5, none⟩ = some (.int .i64 xm) /\ w'.cell? ⟨h5, 6, none⟩ = some (.slice A m c)) 6 (by kernel_rfl) (HKS.out _ BE0.out) ?_
  obtain ⟨w100, hw100⟩ := zr w2.drew
  have BE100 := hide (show Below w2.heap.size w2 w100 by rw [hw100]; exact BE0.out)
  rw [<- hw100]
  have hSd := HKS.out w100 BE100.out
  clear hw100
  refine tilM 0 (Or.inr hSd) ?_
  refine tilM 1 (Or.inr hSd) ?_
  refine tilM 2 (Or.inr hSd) ?_
  refine tilM 3 (Or.inr hSd) ?_
  refine tilT 4 hSd ?_
  refine tilT 5 hSd ?_
  refine ja2 (rs := [6]) (by kernel_rfl) (by simp) ?_
  refine AllTil.last rfl (by rfl) (fun K hK => ?_)
  rw [if_pos (by rfl)]
  go_simp
  go_at_call 86
  refine (HST.out w100 (HC2.out.trans (BE100.out.mono HC2.out.size))).mono ?_
  rintro e w101 ⟨rfl, ⟨vh', S', hr', hs'⟩, hb', -⟩
  have HR' := hide hr'
  have HS' := hide hs'
  have HBB := hide (((HC2.out.trans (BE100.out.mono HC2.out.size)).mono hbase).trans hb')
  have HSZ := hide (Nat.le_trans hbase (HC2.out.trans (BE100.out.mono HC2.out.size)).size)
  clear hr' hs' hb'
  refine hK.out _ _ ?_
  clear hK K hSd
  try simp only [tilS, Act.put]
  refine tilM 7 (Or.inl (by rfl)) ?_
  refine jac (by kernel_rfl) ?_ _
  go_wp2_with fail
  go_ret
  exact ⟨rfl, ⟨_, vh', _, _, S', HR'.out.cast (HSS.out r1), fun b hb => (HS'.out b hb).imp id (fun h => Nat.le_trans HSZ.out h)⟩, HBB.out⟩
theorem rdoC_any (base hc : Nat) (vp va vh ve : Value) (P : List FunV) (s : StV) (L : List (FrV × ActW)) (f : FrV) (a : ActW) (S : Nat -> Prop) (x : InsV) (A : Option Addr) (m c : Nat) (w : World) (hR : RunP w base hc vp P s va vh ve (L ++ [(f, a)]) S) (hst : s.stk = L.map Prod.fst ++ [f]) (hL : L.length < 60) (hbase : base <= w.heap.size) (hv0 : 0 < f.vars.length) (hop : x.op = 20) (ha : 0 <= x.a /\ x.a < f.vars.length) (hel : s.ev.length <= 10000) :
  Calls Tryz.prog 67 #[.pointer (some ⟨hc, 0, none⟩), .agg #[.int .i64 x.op, .int .i64 x.d, .int .i64 x.a, .int .i64 x.b, .int .i64 x.n, .int .i64 x.m, .slice A m c]] w (DoA w base hc vp P S (doS P (L.map Prod.fst) f x s)) := by
 obtain ⟨g, cap, rfl, hcap, hcm, hgb, hgl, hgne, hcell⟩ := hR.last
 have hhc := hR.box.lt
 have hbh := hR.hb
 simp only [maxLen] at hcm
 obtain ⟨gv', cv, hv, hcv, hcvm, hgvb, hgvl, hval⟩ := (hR.all (f, a) (by simp)).vals hv0
 have hv' : a.vv = .slice (some ⟨gv', 0, none⟩) f.vars.length cv := hv
 obtain ⟨i, hi⟩ : ∃ i : Nat, x.a = i := ⟨x.a.toNat, by omega⟩
 obtain ⟨u, hu⟩ : ∃ u, f.vars[i]? = some u := ⟨_, List.getElem?_eq_getElem (by omega)⟩
 have hgu : gv f.vars x.a = u := by rw [hi]; exact jmk hu
 have e : doS P (L.map Prod.fst) f x s = ({ s with stk := L.map Prod.fst ++ [f], ev := s.ev ++ [u.n] }, 0) := by unfold doS; rw [if_neg (by omega), if_neg (by omega), if_pos hop, hgu]
 rw [e]
 have HSS := hide (show ({ s with ev := s.ev ++ [u.n] } : StV) = { s with stk := L.map Prod.fst ++ [f], ev := s.ev ++ [u.n] } by rw [<- hst])
 obtain ⟨⟨t0, -, -⟩, -, -, -⟩ := hval i u hu
 have hev := hR.evs
 obtain ⟨Ae, ce, rfl, hce, hcem, hse⟩ := hev.sl
 have HTE := hide (fun (w4 w5 : World) (ve' : Value) => hR.tell (w4 := w4) (w5 := w5) (ve' := ve') (z := u.n))
 have HEV := hide hR.evs
 have HBX := hide hR.box
 have hne := hR.ne.e
 have hea : ∀ b, (Value.slice Ae s.ev.length ce).ownBlock = some b -> b ≠ g /\ b ≠ gv' := fun b hb => ⟨fun e' => hR.ne.ae g rfl (by rw [<- e']; exact hb), fun e' => hR.ne.ev (f, a) (by simp) b hb (by show a.vv.ownBlock = some b; rw [hv', e']; rfl)⟩
 have HEA := hide hea
 have c3 := (hR.box.cell 3 (v := .slice Ae s.ev.length ce) rfl).1
 obtain ⟨i0, hi0, iz0, iz1, iz2⟩ := info_parts jc5
 have HI := hide hi0
 obtain ⟨op, d, xa, xb, xn, xm, args⟩ := x
 have h' : op = 20 := hop
 subst h'
 have hi' : xa = (i : Int) := hi
 subst hi'
 obtain ⟨en, hen⟩ := zl s.ev.length
 have HEN := hide hen
 have i1 : (0 : Int) <= (i : Int) := by omega
 have i2 : (i : Int) < (f.vars.length : Int) := by have := ha.2; exact this
 rw [hen] at c3 hel
 have t7 := (hcell 7 (.slice (some ⟨gv', 0, none⟩) f.vars.length cv) (by omega) (by rw [<- hv']; rfl)).1
 have c1 := (hR.box.cell 1 (v := .slice (some ⟨g, 0, none⟩) (L.length + 1) cap) rfl).1
 have HRB := hide (fun (W : World) (hW : Below w.heap.size w W) => hR.below hW)
 obtain ⟨n, hn⟩ := zl L.length
 have HN := hide hn
 rw [hn] at hcap c1 hL t7
 generalize f.vars.length = nv at *
 clear hR hn hcell hv hv' hval hi hu ha hst hgu e hev hi0 hen hea hse
 go_enter Tryz.func67, Tryz.ntmps67
 go_upto_region 1 with (fail)
 obtain ⟨w1, hw1⟩ := zr (w.alloc (.cells #[.int .i64 20, .int .i64 d, .int .i64 (i : Int), .int .i64 xb, .int .i64 xn, .int .i64 xm, .slice A m c] 57))
 obtain ⟨h5, hh5⟩ := zl w.heap.size
 have HX0 := zx1 hw1 hh5
 have HB1 := zb1 hw1
 have h5g : w.heap.size <= h5 := by omega
 have hhc1 : hc < w1.heap.size := Nat.lt_of_lt_of_le hhc HB1.out.size
 have HL := hide (jba hc g n cap w1 hhc1 ((HB1.out.cell (p := ⟨hc, 1, none⟩) hhc).trans c1) (by omega) hcap)
 rw [<- hw1, hh5]
 clear hw1 hh5
 go_upto_region 2 with (go_at_call 85; (with_reducible refine HL.out.mono ?_); rintro e w2 ⟨rfl, q, hw2⟩; have HB2 := hide (show Below w1.heap.size w1 w2 by rw [hw2]; exact jar q); clear hw2)
 have HC2 := hide (HB1.out.trans (HB2.out.mono HB1.out.size))
 have gl2 : g < w2.heap.size := Nat.lt_of_lt_of_le hgl HC2.out.size
 have hc2 : hc < w2.heap.size := Nat.lt_of_lt_of_le hhc HC2.out.size
 have HX2 := hide (HX0.out.below HB2.out)
 have lx2 : h5 < w2.heap.size := HX2.out.lt
 replace t7 := (HC2.out.cell (p := ⟨g, n * 9 + 7, none⟩) hgl).trans t7
 have hgv2 : gv' < w2.heap.size := Nat.lt_of_lt_of_le hgvl HC2.out.size
 obtain ⟨q0, -⟩ := HX2.out.cell 0 (v := .int .i64 20) rfl
 obtain ⟨q1, -⟩ := HX2.out.cell 1 (v := .int .i64 d) rfl
 obtain ⟨q2, -⟩ := HX2.out.cell 2 (v := .int .i64 (i : Int)) rfl
 obtain ⟨q3, -⟩ := HX2.out.cell 3 (v := .int .i64 xb) rfl
 obtain ⟨q4, -⟩ := HX2.out.cell 4 (v := .int .i64 xn) rfl
 obtain ⟨q5, -⟩ := HX2.out.cell 5 (v := .int .i64 xm) rfl
 obtain ⟨q6, -⟩ := HX2.out.cell 6 (v := .slice A m c) rfl
 replace t0 := (HC2.out.cell (p := ⟨gv', i * 3, none⟩) hgvl).trans t0
 replace c3 := (HC2.out.cell (p := ⟨hc, 3, none⟩) hhc).trans c3
 go_upto_region 14 with (fail)
 have hn5 : (Value.slice Ae s.ev.length ce).ownBlock ≠ some h5 := fun e => by have := (HEV.out.row' h5 e).2.1; omega
 have HKS := hide (fun (W : World) (hW : ∀ b, b < w2.heap.size -> (Value.slice Ae s.ev.length ce).ownBlock ≠ some b -> W.heap[b]? = w2.heap[b]?) => (show W.cell? ⟨hc, 3, none⟩ = some (.slice Ae en ce) /\ W.cell? ⟨g, n * 9 + 7, none⟩ = some (.slice (some ⟨gv', 0, none⟩) nv cv) /\ W.cell? ⟨h5, 2, none⟩ = some (.int .i64 (i : Int)) /\ W.cell? ⟨gv', i * 3, none⟩ = some (.int .i64 u.n) from (And.intro ((ja8 (hW hc hc2 hne) 3).trans c3) (And.intro ((ja8 (hW g gl2 (fun e => (HEA.out g e).1 rfl)) (n * 9 + 7)).trans t7) (And.intro ((ja8 (hW h5 lx2 hn5) 2).trans q2) ((ja8 (hW gv' hgv2 (fun e => (HEA.out gv' e).2 rfl)) (i * 3)).trans t0))))))
 have BE0 := hide (show Below w2.heap.size w2 w2.drew from ja7 (Below.refl _ _))
 clear q0 q1 q2 q3 q4 q5 q6 t7 t0 c3 c1
 refine jaa (fun w' => w'.cell? ⟨hc, 3, none⟩ = some (.slice Ae en ce) /\ w'.cell? ⟨g, n * 9 + 7, none⟩ = some (.slice (some ⟨gv', 0, none⟩) nv cv) /\ w'.cell? ⟨h5, 2, none⟩ = some (.int .i64 (i : Int)) /\ w'.cell? ⟨gv', i * 3, none⟩ = some (.int .i64 u.n)) 20 (by kernel_rfl) (HKS.out _ (fun b hb _ => BE0.out.block b hb)) ?_
 obtain ⟨w100, hw100⟩ := zr w2.drew
 have BE100 := hide (show Below w2.heap.size w2 w100 by rw [hw100]; exact BE0.out)
 rw [<- hw100]
 have hSd := HKS.out w100 (fun b hb _ => BE100.out.block b hb)
 clear hw100
 refine tilM 0 (Or.inr hSd) ?_
 refine tilM 1 (Or.inr hSd) ?_
 refine tilM 2 (Or.inr hSd) ?_
 refine tilM 3 (Or.inr hSd) ?_
 refine tilM 4 (Or.inr hSd) ?_
 refine tilM 6 (Or.inr hSd) ?_
 refine tilM 7 (Or.inr hSd) ?_
 refine tilM 8 (Or.inr hSd) ?_
 refine tilM 10 (Or.inr hSd) ?_
 refine tilT 5 hSd ?_
 refine tilT 9 hSd ?_
 refine tilT 11 hSd ?_
 refine tilM 12 (Or.inr hSd) ?_
 refine tilM 13 (Or.inr hSd) ?_
 refine tilT 14 hSd ?_
 refine ja2 (rs := [15]) (by kernel_rfl) (by simp) ?_
 refine AllTil.cons rfl (fun K hK => ?_) ?_
 ·skip
  rw [if_pos (by rfl)]
  go_simp
  obtain ⟨Hb, hHb⟩ := zl w100.heap.size
  obtain ⟨w101, hw101⟩ := zr (w100.alloc (.cells #[.int .i64 u.n] 3))
  have BE101 := hide (show Below w2.heap.size w2 w101 by rw [hw101]; exact BE100.out.trans ((ja4 w100 _).mono BE100.out.size))
  have BXb := zx1 hw101 hHb
  rw [<- hw101, hHb]
  clear hw101 hHb
  refine hK.out _ _ (HKS.out w101 (fun b hb _ => BE101.out.block b hb)) ?_
  clear hK K
  try clear hSd
  have hSd := HKS.out w101 (fun b hb _ => BE101.out.block b hb)
  try simp only [tilS, Act.put]
  refine ja2 (rs := [16]) (by kernel_rfl) (by simp) ?_
  refine AllTil.cons rfl (fun K hK => ?_) ?_
  ·skip
   refine jgk w101 (by rfl) _ _ _ (by rfl) base i0 _ Tryz.underlying32 HI.out iz0 iz1 iz2 rfl (.slice Ae s.ev.length ce) s.ev (by rw [HEN.out]; rfl) (HEV.out.kept' fun b hb => (HC2.out.trans (BE101.out.mono HC2.out.size)).block b (HEV.out.row' b hb).2.1) u.n Hb BXb.out (by rfl) (by have := HEN.out; omega) (Nat.le_trans hbase (HC2.out.trans (BE101.out.mono HC2.out.size)).size) ?_
   intro g5 k5 w102 ho5 hg5 hv5 hl5
   have HK5 := hide (show ∀ b, b < w2.heap.size -> (Value.slice Ae s.ev.length ce).ownBlock ≠ some b -> w102.heap[b]? = w2.heap[b]? from fun b hb hn => (hg5.block b (Nat.lt_of_lt_of_le hb BE101.out.size) (fun e => hn e.symm)).trans (BE101.out.block b hb))
   have HO5 := hide ho5
   have HG5 := hide hg5
   have HV5 := hide hv5
   clear ho5 hg5 hv5
   rw [HEN.out]
   refine hK.out _ _ (HKS.out w102 HK5.out) ?_
   clear hK K
   try clear hSd
   have hSd := HKS.out w102 HK5.out
   try simp only [tilS, Act.put]
   refine tilM 17 (Or.inr hSd) ?_
   refine tilM 18 (Or.inr hSd) ?_
   refine tilM 19 (Or.inr hSd) ?_
   refine ja2 (rs := [20]) (by kernel_rfl) (by simp) ?_
   refine AllTil.last rfl (by rfl) (fun K hK => ?_)
   obtain ⟨z0, g0⟩ := (show Box w102 hc _ _ from (HK5.out hc hc2 hne).trans (HBX.out.below HC2.out)).cell 3 (v := .slice Ae s.ev.length ce) rfl
   rw [HEN.out] at z0
   rw [if_pos (by rfl)]
   go_simp
   clear z0 g0
   refine hK.out _ _ ?_
   clear hK K hSd
   try simp only [tilS, Act.put]
   refine jac (by kernel_rfl) ?_ _
   go_wp2_with fail
   go_ret
   have BEW := HC2.out.trans (BE101.out.mono HC2.out.size)
   have hT := HTE.out w101 w102 _ BEW HG5.out (by have t := HO5.out; rw [HEN.out] at t; exact t) (by rcases HV5.out with h | h; exact .inl h.symm; exact .inr ⟨g5, rfl, by rw [h]; exact BEW.size⟩)
   exact ⟨rfl, ⟨_, _, _, _, S, hT.cast HSS.out, fun b h => .inl h⟩, ((BEW.mono hbase).grown HG5.out (Nat.le_trans hbase BEW.size) (fun k hk => (HEV.out.row' k hk).1)).setCell (p := ⟨hc, 3, none⟩) hbh _⟩
  exact AllTil.nil
 exact AllTil.nil
theorem rdoD_any (base hc : Nat) (vp va vh ve : Value) (P : List FunV) (s : StV) (L : List (FrV × ActW)) (f : FrV) (a : ActW) (S : Nat -> Prop) (x : InsV) (A : Option Addr) (m c : Nat) (w : World) (hR : RunP w base hc vp P s va vh ve (L ++ [(f, a)]) S) (hst : s.stk = L.map Prod.fst ++ [f]) (hL : L.length < 60) (hbase : base <= w.heap.size) (hop : x.op = 21) (hj : 0 <= x.n) :
  Calls Tryz.prog 67 #[.pointer (some ⟨hc, 0, none⟩), .agg #[.int .i64 x.op, .int .i64 x.d, .int .i64 x.a, .int .i64 x.b, .int .i64 x.n, .int .i64 x.m, .slice A m c]] w (DoA w base hc vp P S (doS P (L.map Prod.fst) f x s)) := by
 obtain ⟨g, cap, rfl, hcap, hcm, hgb, hgl, hgne, hcell⟩ := hR.last
 have hhc := hR.box.lt
 have hbh := hR.hb
 simp only [maxLen] at hcm
 obtain ⟨t5, t5f⟩ := hcell 5 (.int .i64 (f.bl : Int)) (by omega) rfl
 obtain ⟨t6, t6f⟩ := hcell 6 (.int .i64 (f.pl : Int)) (by omega) rfl
 obtain ⟨k, hk⟩ : ∃ k : Nat, x.n = k := ⟨x.n.toNat, by omega⟩
 have e : doS P (L.map Prod.fst) f x s = ({ s with stk := L.map Prod.fst ++ [{ f with bl := k, pl := 0 }] }, 0) := by unfold doS; rw [if_neg (by omega), if_neg (by omega), if_neg (by omega), if_pos hop, hk, Int.toNat_natCast]
 rw [e]
 have HJ := hide (fun (W : World) (hW : Below w.heap.size w W) => (hR.below hW).jump k)
 obtain ⟨op, d, xa, xb, xn, xm, args⟩ := x
 have h' : op = 21 := hop
 subst h'
 have hk' : xn = (k : Int) := hk
 subst hk'
 have c1 := (hR.box.cell 1 (v := .slice (some ⟨g, 0, none⟩) (L.length + 1) cap) rfl).1
 have HRB := hide (fun (W : World) (hW : Below w.heap.size w W) => hR.below hW)
 obtain ⟨n, hn⟩ := zl L.length
 have HN := hide hn
 rw [hn] at hcap c1 hL t5 t5f t6 t6f HJ
 clear hR hn hcell hst e
 go_enter Tryz.func67, Tryz.ntmps67
 go_upto_region 1 with (fail)
 obtain ⟨w1, hw1⟩ := zr (w.alloc (.cells #[.int .i64 21, .int .i64 d, .int .i64 xa, .int .i64 xb, .int .i64 (k : Int), .int .i64 xm, .slice A m c] 57))
 obtain ⟨h5, hh5⟩ := zl w.heap.size
 have HX0 := zx1 hw1 hh5
 have HB1 := zb1 hw1
 have h5g : w.heap.size <= h5 := by omega
 have hhc1 : hc < w1.heap.size := Nat.lt_of_lt_of_le hhc HB1.out.size
 have HL := hide (jba hc g n cap w1 hhc1 ((HB1.out.cell (p := ⟨hc, 1, none⟩) hhc).trans c1) (by omega) hcap)
 rw [<- hw1, hh5]
 clear hw1 hh5
 go_upto_region 2 with (go_at_call 85; (with_reducible refine HL.out.mono ?_); rintro e w2 ⟨rfl, q, hw2⟩; have HB2 := hide (show Below w1.heap.size w1 w2 by rw [hw2]; exact jar q); clear hw2)
 have HC2 := hide (HB1.out.trans (HB2.out.mono HB1.out.size))
 have gl2 : g < w2.heap.size := Nat.lt_of_lt_of_le hgl HC2.out.size
 have hc2 : hc < w2.heap.size := Nat.lt_of_lt_of_le hhc HC2.out.size
 have HX2 := hide (HX0.out.below HB2.out)
 have lx2 : h5 < w2.heap.size := HX2.out.lt
 obtain ⟨q0, -⟩ := HX2.out.cell 0 (v := .int .i64 21) rfl
 obtain ⟨q1, -⟩ := HX2.out.cell 1 (v := .int .i64 d) rfl
 obtain ⟨q2, -⟩ := HX2.out.cell 2 (v := .int .i64 xa) rfl
 obtain ⟨q3, -⟩ := HX2.out.cell 3 (v := .int .i64 xb) rfl
 obtain ⟨q4, -⟩ := HX2.out.cell 4 (v := .int .i64 (k : Int)) rfl
 obtain ⟨q5, -⟩ := HX2.out.cell 5 (v := .int .i64 xm) rfl
 obtain ⟨q6, -⟩ := HX2.out.cell 6 (v := .slice A m c) rfl
 replace t5 := (HC2.out.cell (p := ⟨g, n * 9 + 5, none⟩) hgl).trans t5
 replace t6 : w2.cell? ⟨g, n * 9 + 5 + 1, none⟩ = some (.int .i64 (f.pl : Int)) := (HC2.out.cell (p := ⟨g, n * 9 + 6, none⟩) hgl).trans t6
 replace t5f := (World.frozen?_of_block (a := ⟨g, n * 9 + 5, none⟩) (HC2.out.block g hgl)).trans t5f
 replace t6f : w2.frozen? ⟨g, n * 9 + 5 + 1, none⟩ = false := (World.frozen?_of_block (a := ⟨g, n * 9 + 6, none⟩) (HC2.out.block g hgl)).trans t6f
 have hgn : (0 : Int) <= (k : Int) := by omega
 go_wp2
 go_ret
 exact ⟨rfl, ⟨_, _, _, _, S, HJ.out w2 HC2.out, fun b h => .inl h⟩, ((HC2.out.mono hbase).setCell (p := ⟨g, n * 9 + 5, none⟩) hgb _).setCell (p := ⟨g, n * 9 + 5 + 1, none⟩) hgb _⟩
theorem rdoE_any (base hc : Nat) (vp va vh ve : Value) (P : List FunV) (s : StV) (L : List (FrV × ActW)) (f : FrV) (a : ActW) (S : Nat -> Prop) (x : InsV) (A : Option Addr) (m c : Nat) (w : World) (hR : RunP w base hc vp P s va vh ve (L ++ [(f, a)]) S) (hst : s.stk = L.map Prod.fst ++ [f]) (hL : L.length < 60) (hbase : base <= w.heap.size) (hv0 : 0 < f.vars.length) (hop : x.op = 22) (ha : 0 <= x.a /\ x.a < f.vars.length) (hj : 0 <= x.n /\ 0 <= x.m) :
  Calls Tryz.prog 67 #[.pointer (some ⟨hc, 0, none⟩), .agg #[.int .i64 x.op, .int .i64 x.d, .int .i64 x.a, .int .i64 x.b, .int .i64 x.n, .int .i64 x.m, .slice A m c]] w (DoA w base hc vp P S (doS P (L.map Prod.fst) f x s)) := by
 obtain ⟨g, cap, rfl, hcap, hcm, hgb, hgl, hgne, hcell⟩ := hR.last
 have hhc := hR.box.lt
 have hbh := hR.hb
 simp only [maxLen] at hcm
 obtain ⟨gv', cv, hv, hcv, hcvm, hgvb, hgvl, hval⟩ := (hR.all (f, a) (by simp)).vals hv0
 have hv' : a.vv = .slice (some ⟨gv', 0, none⟩) f.vars.length cv := hv
 obtain ⟨t5, t5f⟩ := hcell 5 (.int .i64 (f.bl : Int)) (by omega) rfl
 obtain ⟨t6, t6f⟩ := hcell 6 (.int .i64 (f.pl : Int)) (by omega) rfl
 obtain ⟨i, hi⟩ : ∃ i : Nat, x.a = i := ⟨x.a.toNat, by omega⟩
 obtain ⟨u, hu⟩ : ∃ u, f.vars[i]? = some u := ⟨_, List.getElem?_eq_getElem (by omega)⟩
 have hgu : gv f.vars x.a = u := by rw [hi]; exact jmk hu
 obtain ⟨k, hk⟩ : ∃ k : Nat, (if u.n = 0 then x.m else x.n) = k := ⟨(if u.n = 0 then x.m else x.n).toNat, by split <;> omega⟩
 have e : doS P (L.map Prod.fst) f x s = ({ s with stk := L.map Prod.fst ++ [{ f with bl := k, pl := 0 }] }, 0) := by unfold doS; rw [if_neg (by omega), if_neg (by omega), if_neg (by omega), if_neg (by omega), if_pos hop, hgu, hk, Int.toNat_natCast]
 rw [e]
 obtain ⟨⟨t0, -, -⟩, -, -, -⟩ := hval i u hu
 have HJ := hide (fun (W : World) (hW : Below w.heap.size w W) => (hR.below hW).jump k)
 have HBR := hide (fun (W : World) => (show Calls Tryz.prog 88 #[.int .i64 u.n, .agg #[.int .i64 x.op, .int .i64 x.d, .int .i64 x.a, .int .i64 x.b, .int .i64 x.n, .int .i64 x.m, .slice A m c]] W fun e w' => e = .returned (.int .i64 (k : Int)) /\ Below W.heap.size W w' from by have t := jm3 u.n x A m c W; rw [hk] at t; exact t))
 obtain ⟨op, d, xa, xb, xn, xm, args⟩ := x
 have h' : op = 22 := hop
 subst h'
 have hi' : xa = (i : Int) := hi
 subst hi'
 have i1 : (0 : Int) <= (i : Int) := by omega
 have i2 : (i : Int) < (f.vars.length : Int) := by have := ha.2; exact this
 have HFP := hide (rfl : f.pl = f.pl)
 have t7 := (hcell 7 (.slice (some ⟨gv', 0, none⟩) f.vars.length cv) (by omega) (by rw [<- hv']; rfl)).1
 have c1 := (hR.box.cell 1 (v := .slice (some ⟨g, 0, none⟩) (L.length + 1) cap) rfl).1
 have HRB := hide (fun (W : World) (hW : Below w.heap.size w W) => hR.below hW)
 obtain ⟨n, hn⟩ := zl L.length
 have HN := hide hn
 rw [hn] at hcap c1 hL t7 t5 t5f t6 t6f HJ
 generalize f.vars.length = nv at *
 clear hR hn hcell hv hv' hval hi hu ha hst hgu e hk hj
 go_enter Tryz.func67, Tryz.ntmps67
 go_upto_region 1 with (fail)
 obtain ⟨w1, hw1⟩ := zr (w.alloc (.cells #[.int .i64 22, .int .i64 d, .int .i64 (i : Int), .int .i64 xb, .int .i64 xn, .int .i64 xm, .slice A m c] 57))
 obtain ⟨h5, hh5⟩ := zl w.heap.size
 have HX0 := zx1 hw1 hh5
 have HB1 := zb1 hw1
 have h5g : w.heap.size <= h5 := by omega
 have hhc1 : hc < w1.heap.size := Nat.lt_of_lt_of_le hhc HB1.out.size
 have HL := hide (jba hc g n cap w1 hhc1 ((HB1.out.cell (p := ⟨hc, 1, none⟩) hhc).trans c1) (by omega) hcap)
 rw [<- hw1, hh5]
 clear hw1 hh5
 go_upto_region 2 with (go_at_call 85; (with_reducible refine HL.out.mono ?_); rintro e w2 ⟨rfl, q, hw2⟩; have HB2 := hide (show Below w1.heap.size w1 w2 by rw [hw2]; exact jar q); clear hw2)
 have HC2 := hide (HB1.out.trans (HB2.out.mono HB1.out.size))
 have gl2 : g < w2.heap.size := Nat.lt_of_lt_of_le hgl HC2.out.size
 have hc2 : hc < w2.heap.size := Nat.lt_of_lt_of_le hhc HC2.out.size
 have HX2 := hide (HX0.out.below HB2.out)
 have lx2 : h5 < w2.heap.size := HX2.out.lt
 replace t7 := (HC2.out.cell (p := ⟨g, n * 9 + 7, none⟩) hgl).trans t7
 have hgv2 : gv' < w2.heap.size := Nat.lt_of_lt_of_le hgvl HC2.out.size
 obtain ⟨q0, -⟩ := HX2.out.cell 0 (v := .int .i64 22) rfl
 obtain ⟨q1, -⟩ := HX2.out.cell 1 (v := .int .i64 d) rfl
 obtain ⟨q2, -⟩ := HX2.out.cell 2 (v := .int .i64 (i : Int)) rfl
 obtain ⟨q3, -⟩ := HX2.out.cell 3 (v := .int .i64 xb) rfl
 obtain ⟨q4, -⟩ := HX2.out.cell 4 (v := .int .i64 xn) rfl
 obtain ⟨q5, -⟩ := HX2.out.cell 5 (v := .int .i64 xm) rfl
 obtain ⟨q6, -⟩ := HX2.out.cell 6 (v := .slice A m c) rfl
 replace t5 := (HC2.out.cell (p := ⟨g, n * 9 + 5, none⟩) hgl).trans t5
 replace t6 : w2.cell? ⟨g, n * 9 + 5 + 1, none⟩ = some (.int .i64 (f.pl : Int)) := (HC2.out.cell (p := ⟨g, n * 9 + 6, none⟩) hgl).trans t6
 replace t5f := (World.frozen?_of_block (a := ⟨g, n * 9 + 5, none⟩) (HC2.out.block g hgl)).trans t5f
 replace t6f : w2.frozen? ⟨g, n * 9 + 5 + 1, none⟩ = false := (World.frozen?_of_block (a := ⟨g, n * 9 + 6, none⟩) (HC2.out.block g hgl)).trans t6f
 replace t0 := (HC2.out.cell (p := ⟨gv', i * 3, none⟩) hgvl).trans t0
 go_upto_region 18 with (fail)
 have HKS := hide (fun (W : World) (hW : Below w2.heap.size w2 W) => (And.intro ((hW.cell (p := ⟨g, n * 9 + 7, none⟩) gl2).trans t7) (And.intro ((hW.cell (p := ⟨gv', i * 3, none⟩) hgv2).trans t0) (And.intro ((hW.cell (p := ⟨h5, 0, none⟩) lx2).trans q0) (And.intro ((hW.cell (p := ⟨h5, 1, none⟩) lx2).trans q1) (And.intro ((hW.cell (p := ⟨h5, 2, none⟩) lx2).trans q2) (And.intro ((hW.cell (p := ⟨h5, 3, none⟩) lx2).trans q3) (And.intro ((hW.cell (p := ⟨h5, 4, none⟩) lx2).trans q4) (And.intro ((hW.cell (p := ⟨h5, 5, none⟩) lx2).trans q5) ((hW.cell (p := ⟨h5, 6, none⟩) lx2).trans q6))))))))))
 have BE0 := hide (show Below w2.heap.size w2 w2.drew from ja7 (Below.refl _ _))
 clear q0 q1 q2 q3 q4 q5 q6 t7 t0
 refine jaa (fun w' => w'.cell? ⟨g, n * 9 + 7, none⟩ = some (.slice (some ⟨gv', 0, none⟩) nv cv) /\ w'.cell? ⟨gv', i * 3, none⟩ = some (.int .i64 u.n) /\ w'.cell? ⟨h5, 0, none⟩ = some (.int .i64 22) /\ w'.cell? ⟨h5, 1, none⟩ = some (.int .i64 d) /\ w'.cell? ⟨h5, 2, none⟩ = some (.int .i64 (i : Int)) /\ w'.cell? ⟨h5, 3, none⟩ = some (.int .i64 xb) /\ w'.cell? ⟨h5, 4, none⟩ = some (.int .i64 xn) /\ w'.cell? ⟨h5, 5, none⟩ = some (.int .i64 xm) /\ w'.cell? ⟨h5, 6, none⟩ = some (.slice A m c)) 15 (by kernel_rfl) (HKS.out _ BE0.out) ?_
 obtain ⟨w100, hw100⟩ := zr w2.drew
 have BE100 := hide (show Below w2.heap.size w2 w100 by rw [hw100]; exact BE0.out)
 rw [<- hw100]
 have hSd := HKS.out w100 BE100.out
 clear hw100
 refine tilM 0 (Or.inr hSd) ?_
 refine tilM 1 (Or.inr hSd) ?_
 refine tilM 2 (Or.inr hSd) ?_
 refine tilM 3 (Or.inr hSd) ?_
 refine tilM 5 (Or.inr hSd) ?_
 refine tilT 4 hSd ?_
 refine tilT 6 hSd ?_
 refine tilM 7 (Or.inr hSd) ?_
 refine tilM 8 (Or.inr hSd) ?_
 refine tilT 9 hSd ?_
 refine tilT 10 hSd ?_
 refine ja2 (rs := [11]) (by kernel_rfl) (by simp) ?_
 refine AllTil.cons rfl (fun K hK => ?_) ?_
 ·skip
  rw [if_pos (by rfl)]
  go_simp
  go_at_call 88
  refine (HBR.out w100).mono ?_
  rintro e w101 ⟨rfl, hb'⟩
  have BE101 := hide (BE100.out.trans (hb'.mono BE100.out.size))
  clear hb'
  refine hK.out _ _ (HKS.out w101 BE101.out) ?_
  clear hK K
  try clear hSd
  have hSd := HKS.out w101 BE101.out
  try simp only [tilS, Act.put]
  refine tilM 12 (Or.inr hSd) ?_
  refine tilM 13 (Or.inr hSd) ?_
  refine tilM 14 (Or.inr hSd) ?_
  refine ja2 (rs := [15]) (by kernel_rfl) (by simp) ?_
  refine AllTil.last rfl (by rfl) (fun K hK => ?_)
  replace t5 := (BE101.out.cell (p := ⟨g, n * 9 + 5, none⟩) gl2).trans t5
  replace t6 := (BE101.out.cell (p := ⟨g, n * 9 + 5 + 1, none⟩) gl2).trans t6
  replace t5f := (World.frozen?_of_block (a := ⟨g, n * 9 + 5, none⟩) (BE101.out.block g gl2)).trans t5f
  replace t6f := (World.frozen?_of_block (a := ⟨g, n * 9 + 5 + 1, none⟩) (BE101.out.block g gl2)).trans t6f
  rw [if_pos (by rfl)]
  go_simp
  clear t5 t6 t5f t6f
  refine hK.out _ _ ?_
  clear hK K hSd
  try simp only [tilS, Act.put]
  refine jac (by kernel_rfl) ?_ _
  go_wp2_with fail
  go_ret
  have BEW := HC2.out.trans (BE101.out.mono HC2.out.size)
  exact ⟨rfl, ⟨_, _, _, _, S, HJ.out w101 BEW, fun b h => .inl h⟩, ((BEW.mono hbase).setCell (p := ⟨g, n * 9 + 5, none⟩) hgb _).setCell (p := ⟨g, n * 9 + 5 + 1, none⟩) hgb _⟩
 exact AllTil.nil
theorem rdoF_any (base hc : Nat) (vp va vh ve : Value) (P : List FunV) (s : StV) (L : List (FrV × ActW)) (f : FrV) (a : ActW) (S : Nat -> Prop) (x : InsV) (A : Option Addr) (m c : Nat) (w : World) (hR : RunP w base hc vp P s va vh ve (L ++ [(f, a)]) S) (hst : s.stk = L.map Prod.fst ++ [f]) (hL : L.length < 60) (hbase : base <= w.heap.size) (hv0 : 0 < f.vars.length) (hop : x.op = 23) (ha : 0 <= x.a /\ x.a < f.vars.length) (hw : ∀ p ∈ L, 0 <= p.1.want /\ p.1.want < p.1.vars.length) :
  Calls Tryz.prog 67 #[.pointer (some ⟨hc, 0, none⟩), .agg #[.int .i64 x.op, .int .i64 x.d, .int .i64 x.a, .int .i64 x.b, .int .i64 x.n, .int .i64 x.m, .slice A m c]] w (DoA w base hc vp P S (doS P (L.map Prod.fst) f x s)) := by
 obtain ⟨g, cap, rfl, hcap, hcm, hgb, hgl, hgne, hcell⟩ := hR.last
 have hhc := hR.box.lt
 have hbh := hR.hb
 simp only [maxLen] at hcm
 obtain ⟨gv', cv, hv, hcv, hcvm, hgvb, hgvl, hval⟩ := (hR.all (f, a) (by simp)).vals hv0
 have hv' : a.vv = .slice (some ⟨gv', 0, none⟩) f.vars.length cv := hv
 obtain ⟨i, hi⟩ : ∃ i : Nat, x.a = i := ⟨x.a.toNat, by omega⟩
 obtain ⟨u, hu⟩ : ∃ u, f.vars[i]? = some u := ⟨_, List.getElem?_eq_getElem (by omega)⟩
 have hgu : gv f.vars x.a = u := by rw [hi]; exact jmk hu
 have e : doS P (L.map Prod.fst) f x s = (ansS (L.map Prod.fst) u s, 0) := by unfold doS; rw [if_neg (by omega), if_neg (by omega), if_neg (by omega), if_neg (by omega), if_neg (by omega), if_pos hop, hgu]
 rw [e]
 obtain ⟨⟨t0, t1, t2⟩, -, -, -⟩ := hval i u hu
 have HAN := hide (fun (W : World) (hW : Below w.heap.size w W) => ransAll base hc vp _ vh ve P s L f a S u W (hR.below hW) hw hL (Nat.le_trans hbase hW.size))
 obtain ⟨op, d, xa, xb, xn, xm, args⟩ := x
 have h' : op = 23 := hop
 subst h'
 have hi' : xa = (i : Int) := hi
 subst hi'
 have i1 : (0 : Int) <= (i : Int) := by omega
 have i2 : (i : Int) < (f.vars.length : Int) := by have := ha.2; exact this
 have t7 := (hcell 7 (.slice (some ⟨gv', 0, none⟩) f.vars.length cv) (by omega) (by rw [<- hv']; rfl)).1
 have c1 := (hR.box.cell 1 (v := .slice (some ⟨g, 0, none⟩) (L.length + 1) cap) rfl).1
 have HRB := hide (fun (W : World) (hW : Below w.heap.size w W) => hR.below hW)
 obtain ⟨n, hn⟩ := zl L.length
 have HN := hide hn
 rw [hn] at hcap c1 hL t7
 generalize f.vars.length = nv at *
 clear hR hn hcell hv hv' hval hi hu ha hst hgu e hw
 go_enter Tryz.func67, Tryz.ntmps67
 go_upto_region 1 with (fail)
 obtain ⟨w1, hw1⟩ := zr (w.alloc (.cells #[.int .i64 23, .int .i64 d, .int .i64 (i : Int), .int .i64 xb, .int .i64 xn, .int .i64 xm, .slice A m c] 57))
 obtain ⟨h5, hh5⟩ := zl w.heap.size
 have HX0 := zx1 hw1 hh5
 have HB1 := zb1 hw1
 have h5g : w.heap.size <= h5 := by omega
 have hhc1 : hc < w1.heap.size := Nat.lt_of_lt_of_le hhc HB1.out.size
 have HL := hide (jba hc g n cap w1 hhc1 ((HB1.out.cell (p := ⟨hc, 1, none⟩) hhc).trans c1) (by omega) hcap)
 rw [<- hw1, hh5]
 clear hw1 hh5
 go_upto_region 2 with (go_at_call 85; (with_reducible refine HL.out.mono ?_); rintro e w2 ⟨rfl, q, hw2⟩; have HB2 := hide (show Below w1.heap.size w1 w2 by rw [hw2]; exact jar q); clear hw2)
 have HC2 := hide (HB1.out.trans (HB2.out.mono HB1.out.size))
 have gl2 : g < w2.heap.size := Nat.lt_of_lt_of_le hgl HC2.out.size
 have hc2 : hc < w2.heap.size := Nat.lt_of_lt_of_le hhc HC2.out.size
 have HX2 := hide (HX0.out.below HB2.out)
 have lx2 : h5 < w2.heap.size := HX2.out.lt
 replace t7 := (HC2.out.cell (p := ⟨g, n * 9 + 7, none⟩) hgl).trans t7
 have hgv2 : gv' < w2.heap.size := Nat.lt_of_lt_of_le hgvl HC2.out.size
 obtain ⟨q0, -⟩ := HX2.out.cell 0 (v := .int .i64 23) rfl
 obtain ⟨q1, -⟩ := HX2.out.cell 1 (v := .int .i64 d) rfl
 obtain ⟨q2, -⟩ := HX2.out.cell 2 (v := .int .i64 (i : Int)) rfl
 obtain ⟨q3, -⟩ := HX2.out.cell 3 (v := .int .i64 xb) rfl
 obtain ⟨q4, -⟩ := HX2.out.cell 4 (v := .int .i64 xn) rfl
 obtain ⟨q5, -⟩ := HX2.out.cell 5 (v := .int .i64 xm) rfl
 obtain ⟨q6, -⟩ := HX2.out.cell 6 (v := .slice A m c) rfl
 replace t0 := (HC2.out.cell (p := ⟨gv', i * 3, none⟩) hgvl).trans t0
 replace t1 := (HC2.out.cell (p := ⟨gv', i * 3 + 1, none⟩) hgvl).trans t1
 replace t2 := (HC2.out.cell (p := ⟨gv', i * 3 + 2, none⟩) hgvl).trans t2
 go_upto_region 20 with (fail)
 have HKS := hide (fun (W : World) (hW : Below w2.heap.size w2 W) => (And.intro ((hW.cell (p := ⟨g, n * 9 + 7, none⟩) gl2).trans t7) (And.intro ((hW.cell (p := ⟨gv', i * 3, none⟩) hgv2).trans t0) (And.intro ((hW.cell (p := ⟨gv', i * 3 + 1, none⟩) hgv2).trans t1) (And.intro ((hW.cell (p := ⟨gv', i * 3 + 2, none⟩) hgv2).trans t2) ((hW.cell (p := ⟨h5, 2, none⟩) lx2).trans q2))))))
 have BE0 := hide (show Below w2.heap.size w2 w2.drew from ja7 (Below.refl _ _))
 clear q0 q1 q2 q3 q4 q5 q6 t7 t0 t1 t2
 refine jaa (fun w' => w'.cell? ⟨g, n * 9 + 7, none⟩ = some (.slice (some ⟨gv', 0, none⟩) nv cv) /\ w'.cell? ⟨gv', i * 3, none⟩ = some (.int .i64 u.n) /\ w'.cell? ⟨gv', i * 3 + 1, none⟩ = some (.int .i64 u.o) /\ w'.cell? ⟨gv', i * 3 + 2, none⟩ = some (.int .i64 u.a) /\ w'.cell? ⟨h5, 2, none⟩ = some (.int .i64 (i : Int))) 9 (by kernel_rfl) (HKS.out _ BE0.out) ?_
 obtain ⟨w100, hw100⟩ := zr w2.drew
 have BE100 := hide (show Below w2.heap.size w2 w100 by rw [hw100]; exact BE0.out)
 rw [<- hw100]
 have hSd := HKS.out w100 BE100.out
 clear hw100
 refine tilM 0 (Or.inr hSd) ?_
 refine tilM 1 (Or.inr hSd) ?_
 refine tilM 2 (Or.inr hSd) ?_
 refine tilM 3 (Or.inr hSd) ?_
 refine tilM 5 (Or.inr hSd) ?_
 refine tilD 4 [9, 8, 7] hSd ?_
 refine tilD 6 [9, 8, 7] hSd ?_
 refine tilM 7 (Or.inr hSd) ?_
 refine tilT 8 hSd ?_
 refine ja2 (rs := [9]) (by kernel_rfl) (by simp) ?_
 refine AllTil.last rfl (by rfl) (fun K hK => ?_)
 rw [if_pos (by rfl)]
 go_simp
 go_at_call 89
 have BEW := hide (HC2.out.trans (BE100.out.mono HC2.out.size))
 refine (HAN.out w100 BEW.out).mono ?_
 rintro e w101 ⟨rfl, ⟨va', L', hr'⟩, hb'⟩
 have HR' := hide hr'
 have HBB := hide ((BEW.out.mono hbase).trans hb')
 clear hr' hb'
 refine hK.out _ _ ?_
 clear hK K hSd
 try simp only [tilS, Act.put]
 refine jac (by kernel_rfl) ?_ _
 go_wp2_with fail
 go_ret
 exact ⟨rfl, ⟨va', vh, ve, L', S, HR'.out, fun b h => .inl h⟩, HBB.out⟩
theorem rdoB_any (base hc : Nat) (vp va vh ve : Value) (P : List FunV) (s : StV) (L : List (FrV × ActW)) (f : FrV) (a : ActW) (S : Nat -> Prop) (x : InsV) (A : Option Addr) (m c : Nat) (w : World) (hR : RunP w base hc vp P s va vh ve (L ++ [(f, a)]) S) (hst : s.stk = L.map Prod.fst ++ [f]) (hL : L.length < 60) (hbase : base <= w.heap.size) (hv0 : 0 < f.vars.length) (hop : x.op = 19) (hp : FunsV w (· < base) vp P) (G : FunV) (hn0 : 0 <= x.n) (hG : P[x.n.toNat]? = some G) (hk : G.kinds.length <= 48) (ham : x.args.length = m) (hmk : m <= G.kinds.length) (hx : IntsV w (· < base) (.slice A m c) x.args) (hin : ∀ z ∈ x.args, 0 <= z /\ z < f.vars.length) :
  Calls Tryz.prog 67 #[.pointer (some ⟨hc, 0, none⟩), .agg #[.int .i64 x.op, .int .i64 x.d, .int .i64 x.a, .int .i64 x.b, .int .i64 x.n, .int .i64 x.m, .slice A m c]] w (DoA w base hc vp P S (doS P (L.map Prod.fst) f x s)) := by
 obtain ⟨g, cap, rfl, hcap, hcm, hgb, hgl, hgne, hcell⟩ := hR.last
 have hhc := hR.box.lt
 have hbh := hR.hb
 simp only [maxLen] at hcm
 obtain ⟨nn, hnn⟩ : ∃ k : Nat, x.n = k := ⟨x.n.toNat, by omega⟩
 rw [hnn, Int.toNat_natCast] at hG
 have HCA : Hid (∀ W, Below w.heap.size w W -> Calls Tryz.prog 87 #[.pointer (some ⟨hc, 0, none⟩), .agg #[.int .i64 x.op, .int .i64 x.d, .int .i64 x.a, .int .i64 x.b, .int .i64 x.n, .int .i64 x.m, .slice A m c]] W (DoA W base hc vp P S (doS P (L.map Prod.fst) f x s))) := by
  intro W hW
  have e : doS P (L.map Prod.fst) f x s = jlj P (L.map Prod.fst) f x s := by unfold doS; rw [if_neg (by omega), if_pos hop]
  rw [e]
  unfold jlj
  rw [hnn, Int.toNat_natCast, List.length_map]
  by_cases hd : 60 <= L.length + 1
  ·rw [if_pos hd]
   refine (joc base hc vp _ vh ve P s _ S x.op x.d x.a x.b x.m nn m c A W (hR.below hW) (by simp; omega)).mono fun e w' ⟨he, hb⟩ => ⟨he, ⟨_, _, _, _, S, ((hR.below hW).below hb).cast ?_, fun b h => .inl h⟩, hb.mono (Nat.le_trans hbase hW.size)⟩
   rw [<- hst]
  ·rw [if_neg hd]
   refine (jqg base hc vp _ vh ve P s L f a S x.op x.d x.a x.b x.m nn m c A x.args G W (hR.below hW) (by omega) (hp.keep (Same'.of_below (hW.mono hbase)) (fun _ h => h)) hG hk ham hmk (IntsV.keep hx (Same'.of_below (hW.mono hbase)) (fun _ h => h)) hin hv0 (Nat.le_trans hbase hW.size)).mono fun e w' ⟨he, ⟨va', a', h⟩, hb, _⟩ => ⟨he, ⟨va', vh, ve, _, S, h.cast ?_, fun b h => .inl h⟩, hb⟩
   simp
 obtain ⟨r, hrr⟩ := zl (doS P (L.map Prod.fst) f x s)
 rw [hrr] at HCA ⊢
 obtain ⟨op, d, xa, xb, xn, xm, args⟩ := x
 have h' : op = 19 := hop
 subst h'
 have c1 := (hR.box.cell 1 (v := .slice (some ⟨g, 0, none⟩) (L.length + 1) cap) rfl).1
 have HRB := hide (fun (W : World) (hW : Below w.heap.size w W) => hR.below hW)
 obtain ⟨n, hn⟩ := zl L.length
 have HN := hide hn
 rw [hn] at hcap c1 hL
 clear hR hn hcell hst hrr hin hx hmk ham hG hp hn0 hnn
 go_enter Tryz.func67, Tryz.ntmps67
 go_upto_region 1 with (fail)
 obtain ⟨w1, hw1⟩ := zr (w.alloc (.cells #[.int .i64 19, .int .i64 d, .int .i64 xa, .int .i64 xb, .int .i64 xn, .int .i64 xm, .slice A m c] 57))
 obtain ⟨h5, hh5⟩ := zl w.heap.size
 have HX0 := zx1 hw1 hh5
 have HB1 := zb1 hw1
 have h5g : w.heap.size <= h5 := by omega
 have hhc1 : hc < w1.heap.size := Nat.lt_of_lt_of_le hhc HB1.out.size
 have HL := hide (jba hc g n cap w1 hhc1 ((HB1.out.cell (p := ⟨hc, 1, none⟩) hhc).trans c1) (by omega) hcap)
 rw [<- hw1, hh5]
 clear hw1 hh5
 go_upto_region 2 with (go_at_call 85; (with_reducible refine HL.out.mono ?_); rintro e w2 ⟨rfl, q, hw2⟩; have HB2 := hide (show Below w1.heap.size w1 w2 by rw [hw2]; exact jar q); clear hw2)
 have HC2 := hide (HB1.out.trans (HB2.out.mono HB1.out.size))
 have gl2 : g < w2.heap.size := Nat.lt_of_lt_of_le hgl HC2.out.size
 have hc2 : hc < w2.heap.size := Nat.lt_of_lt_of_le hhc HC2.out.size
 have HX2 := hide (HX0.out.below HB2.out)
 have lx2 : h5 < w2.heap.size := HX2.out.lt
 obtain ⟨q0, -⟩ := HX2.out.cell 0 (v := .int .i64 19) rfl
 obtain ⟨q1, -⟩ := HX2.out.cell 1 (v := .int .i64 d) rfl
 obtain ⟨q2, -⟩ := HX2.out.cell 2 (v := .int .i64 xa) rfl
 obtain ⟨q3, -⟩ := HX2.out.cell 3 (v := .int .i64 xb) rfl
 obtain ⟨q4, -⟩ := HX2.out.cell 4 (v := .int .i64 xn) rfl
 obtain ⟨q5, -⟩ := HX2.out.cell 5 (v := .int .i64 xm) rfl
 obtain ⟨q6, -⟩ := HX2.out.cell 6 (v := .slice A m c) rfl
 go_wp2_with (go_at_call 87; (with_reducible refine (HCA.out w2 HC2.out).mono ?_); rintro e w3 ⟨rfl, ⟨va', vh', ve', L', S', hr', hs'⟩, hb'⟩; have HR' := hide hr'; have HS' := hide hs'; have HBB := hide ((HC2.out.mono hbase).trans hb'); clear hr' hs' hb')
 go_ret
 exact ⟨rfl, ⟨va', vh', ve', L', S', HR'.out, HS'.out⟩, HBB.out⟩
theorem rdoG_any (base hc : Nat) (vp va vh ve : Value) (P : List FunV) (s : StV) (L : List (FrV × ActW)) (f : FrV) (a : ActW) (S : Nat -> Prop) (x : InsV) (A : Option Addr) (m c : Nat) (w : World) (hR : RunP w base hc vp P s va vh ve (L ++ [(f, a)]) S) (hst : s.stk = L.map Prod.fst ++ [f]) (hL : L.length < 60) (hbase : base <= w.heap.size) (hv0 : 0 < f.vars.length) (hop : ¬ x.op = 12 /\ ¬ x.op = 14 /\ ¬ x.op = 18 /\ ¬ x.op = 19 /\ ¬ x.op = 20 /\ ¬ x.op = 21 /\ ¬ x.op = 22 /\ ¬ x.op = 23) (ha : 0 <= x.a /\ x.a < f.vars.length) (hb : 0 <= x.b /\ x.b < f.vars.length) (hd : 0 <= x.d /\ x.d < f.vars.length) (hl : s.heap.length <= 10000) :
  Calls Tryz.prog 67 #[.pointer (some ⟨hc, 0, none⟩), .agg #[.int .i64 x.op, .int .i64 x.d, .int .i64 x.a, .int .i64 x.b, .int .i64 x.n, .int .i64 x.m, .slice A m c]] w (DoA w base hc vp P S (doS P (L.map Prod.fst) f x s)) := by
 obtain ⟨g, cap, rfl, hcap, hcm, hgb, hgl, hgne, hcell⟩ := hR.last
 have hhc := hR.box.lt
 have hbh := hR.hb
 simp only [maxLen] at hcm
 obtain ⟨gv', cv, hv, hcv, hcvm, hgvb, hgvl, hval⟩ := (hR.all (f, a) (by simp)).vals hv0
 have hv' : a.vv = .slice (some ⟨gv', 0, none⟩) f.vars.length cv := hv
 obtain ⟨i, hi⟩ : ∃ i : Nat, x.a = i := ⟨x.a.toNat, by omega⟩
 obtain ⟨j, hj⟩ : ∃ j : Nat, x.b = j := ⟨x.b.toNat, by omega⟩
 obtain ⟨dn, hdn⟩ : ∃ k : Nat, x.d = k := ⟨x.d.toNat, by omega⟩
 obtain ⟨u, hu⟩ : ∃ u, f.vars[i]? = some u := ⟨_, List.getElem?_eq_getElem (by omega)⟩
 obtain ⟨y, hy⟩ : ∃ y, f.vars[j]? = some y := ⟨_, List.getElem?_eq_getElem (by omega)⟩
 have hdl : dn < f.vars.length := by omega
 obtain ⟨z, hz⟩ : ∃ z, f.vars[dn]? = some z := ⟨_, List.getElem?_eq_getElem hdl⟩
 have HVA := hide (fun (W : World) (hW : Below w.heap.size w W) => jo6 base hc vp _ vh ve P s _ S x i j gv' f.vars.length cv u y f.vars A m c W (hR.below hW) hl (Nat.le_trans hbase hW.size) (Nat.lt_of_lt_of_le hgvl hW.size) (by omega) (by omega) ((jg6 (hval i u hu).1).below hgvl hW) ((jg6 (hval j y hy).1).below hgvl hW) hi hj hu hy)
 have e : doS P (L.map Prod.fst) f x s = if (valR s.heap f.vars x).2.2 = 0 then ({ s with stk := L.map Prod.fst ++ [{ f with vars := f.vars.set dn (valR s.heap f.vars x).2.1 }], heap := (valR s.heap f.vars x).1 }, 0) else ({ s with stk := L.map Prod.fst ++ [f], heap := (valR s.heap f.vars x).1 }, (valR s.heap f.vars x).2.2) := by
  unfold doS
  rw [if_neg (by omega), if_neg (by omega), if_neg (by omega), if_neg (by omega), if_neg (by omega), if_neg (by omega), hdn, Int.toNat_natCast]
 rw [e]
 have HSS := hide (fun k => jmz hst k)
 have HML := hide hR.mlt
 have HSN := hide (fun b (hb : S b) => (hR.sin b hb).1)
 have HV3 := hide (fun (W : World) (vh' : Value) (S' : Nat -> Prop) (s' : StV) (v : ValV) (h : RunP W base hc vp P s' (.slice (some ⟨g, 0, none⟩) (L.length + 1) cap) vh' ve (L ++ [(f, a)]) S') => h.var3 v hv' hdl)
 have HNV := hide (show gv' ≠ hc from fun e => hR.ne.v (f, a) (by simp) (by show a.vv.ownBlock = some hc; rw [hv', e]; rfl))
 obtain ⟨⟨t0, t1, t2⟩, r0, r1, r2⟩ := hval dn z hz
 obtain ⟨r, hrr⟩ := zl (valR s.heap f.vars x)
 rw [hrr] at HVA ⊢
 obtain ⟨H1, v, k⟩ := r
 clear e hrr
 obtain ⟨op, d, xa, xb, xn, xm, args⟩ := x
 obtain ⟨o1, o2, o3, o4, o5, o6, o7, o8⟩ := hop
 have p1 : (op == 12) = false := by simpa using o1
 have p2 : (op == 14) = false := by simpa using o2
 have p3 : (op == 18) = false := by simpa using o3
 have p4 : (op == 19) = false := by simpa using o4
 have p5 : (op == 20) = false := by simpa using o5
 have p6 : (op == 21) = false := by simpa using o6
 have p7 : (op == 22) = false := by simpa using o7
 have p8 : (op == 23) = false := by simpa using o8
 have hdn' : d = (dn : Int) := hdn
 subst hdn'
 have i1 : (0 : Int) <= (dn : Int) := by omega
 have i2 : (dn : Int) < (f.vars.length : Int) := by omega
 show Calls Tryz.prog 67 #[.pointer (some ⟨hc, 0, none⟩), .agg #[.int .i64 op, .int .i64 (dn : Int), .int .i64 xa, .int .i64 xb, .int .i64 xn, .int .i64 xm, .slice A m c]] w (DoA w base hc vp P S (if k = 0 then ({ s with stk := L.map Prod.fst ++ [{ f with vars := f.vars.set dn v }], heap := H1 }, 0) else ({ s with stk := L.map Prod.fst ++ [f], heap := H1 }, k)))
 have t7 := (hcell 7 (.slice (some ⟨gv', 0, none⟩) f.vars.length cv) (by omega) (by rw [<- hv']; rfl)).1
 have c1 := (hR.box.cell 1 (v := .slice (some ⟨g, 0, none⟩) (L.length + 1) cap) rfl).1
 have HRB := hide (fun (W : World) (hW : Below w.heap.size w W) => hR.below hW)
 obtain ⟨n, hn⟩ := zl L.length
 have HN := hide hn
 rw [hn] at hcap c1 hL t7
 generalize f.vars.length = nv at *
 clear hR hn hcell hv hv' hval hi hj hu hy hz ha hb hd hdn hst hdl o1 o2 o3 o4 o5 o6 o7 o8
 go_enter Tryz.func67, Tryz.ntmps67
 go_upto_region 1 with (fail)
 obtain ⟨w1, hw1⟩ := zr (w.alloc (.cells #[.int .i64 op, .int .i64 (dn : Int), .int .i64 xa, .int .i64 xb, .int .i64 xn, .int .i64 xm, .slice A m c] 57))
 obtain ⟨h5, hh5⟩ := zl w.heap.size
 have HX0 := zx1 hw1 hh5
 have HB1 := zb1 hw1
 have h5g : w.heap.size <= h5 := by omega
 have hhc1 : hc < w1.heap.size := Nat.lt_of_lt_of_le hhc HB1.out.size
 have HL := hide (jba hc g n cap w1 hhc1 ((HB1.out.cell (p := ⟨hc, 1, none⟩) hhc).trans c1) (by omega) hcap)
 rw [<- hw1, hh5]
 clear hw1 hh5
 go_upto_region 2 with (go_at_call 85; (with_reducible refine HL.out.mono ?_); rintro e w2 ⟨rfl, q, hw2⟩; have HB2 := hide (show Below w1.heap.size w1 w2 by rw [hw2]; exact jar q); clear hw2)
 have HC2 := hide (HB1.out.trans (HB2.out.mono HB1.out.size))
 have gl2 : g < w2.heap.size := Nat.lt_of_lt_of_le hgl HC2.out.size
 have hc2 : hc < w2.heap.size := Nat.lt_of_lt_of_le hhc HC2.out.size
 have HX2 := hide (HX0.out.below HB2.out)
 have lx2 : h5 < w2.heap.size := HX2.out.lt
 replace t7 := (HC2.out.cell (p := ⟨g, n * 9 + 7, none⟩) hgl).trans t7
 have hgv2 : gv' < w2.heap.size := Nat.lt_of_lt_of_le hgvl HC2.out.size
 obtain ⟨q0, -⟩ := HX2.out.cell 0 (v := .int .i64 op) rfl
 obtain ⟨q1, -⟩ := HX2.out.cell 1 (v := .int .i64 (dn : Int)) rfl
 obtain ⟨q2, -⟩ := HX2.out.cell 2 (v := .int .i64 xa) rfl
 obtain ⟨q3, -⟩ := HX2.out.cell 3 (v := .int .i64 xb) rfl
 obtain ⟨q4, -⟩ := HX2.out.cell 4 (v := .int .i64 xn) rfl
 obtain ⟨q5, -⟩ := HX2.out.cell 5 (v := .int .i64 xm) rfl
 obtain ⟨q6, -⟩ := HX2.out.cell 6 (v := .slice A m c) rfl
 go_upto_region 3 with (fail)
 have HMX := hide (fun (b : Nat) (hb : w.heap.size <= b) => (show ¬ MutR hc (.slice (some ⟨g, 0, none⟩) (L.length + 1) cap) ve (L ++ [(f, a)]) b from fun h => by have := HML.out b h; omega))
 go_cut [6, 7] from 12 to 22 (fun p e wx => ∃ H vh' S', p = .pointer (some ⟨H, 0, none⟩) /\ e = .int .i64 ((k : Nat) : Int) /\ Box wx H #[.int .i64 v.n, .int .i64 v.o, .int .i64 v.a] 87 /\ w2.heap.size <= H /\ RunP wx base hc vp P { s with heap := H1 } (.slice (some ⟨g, 0, none⟩) (L.length + 1) cap) vh' ve (L ++ [(f, a)]) S' /\ (∀ b, S' b -> S b \/ base <= b) /\ Below base w wx /\ ∀ b, b < w2.heap.size -> b ≠ hc -> wx.heap[b]? = w2.heap[b]?)
 case first =>
  have HKS := hide (fun (W : World) (hW : ∀ b, b < w2.heap.size -> b ≠ hc -> W.heap[b]? = w2.heap[b]?) => (show W.cell? ⟨g, n * 9 + 7, none⟩ = some (.slice (some ⟨gv', 0, none⟩) nv cv) /\ W.cell? ⟨h5, 0, none⟩ = some (.int .i64 op) /\ W.cell? ⟨h5, 1, none⟩ = some (.int .i64 (dn : Int)) /\ W.cell? ⟨h5, 2, none⟩ = some (.int .i64 xa) /\ W.cell? ⟨h5, 3, none⟩ = some (.int .i64 xb) /\ W.cell? ⟨h5, 4, none⟩ = some (.int .i64 xn) /\ W.cell? ⟨h5, 5, none⟩ = some (.int .i64 xm) /\ W.cell? ⟨h5, 6, none⟩ = some (.slice A m c) from (And.intro ((ja8 (hW g gl2 (by omega)) (n * 9 + 7)).trans t7) (And.intro ((ja8 (hW h5 lx2 (by omega)) (0)).trans q0) (And.intro ((ja8 (hW h5 lx2 (by omega)) (1)).trans q1) (And.intro ((ja8 (hW h5 lx2 (by omega)) (2)).trans q2) (And.intro ((ja8 (hW h5 lx2 (by omega)) (3)).trans q3) (And.intro ((ja8 (hW h5 lx2 (by omega)) (4)).trans q4) (And.intro ((ja8 (hW h5 lx2 (by omega)) (5)).trans q5) ((ja8 (hW h5 lx2 (by omega)) (6)).trans q6))))))))))
  have BE0 := hide (show Below w2.heap.size w2 w2.drew from ja7 (Below.refl _ _))
  clear q0 q1 q2 q3 q4 q5 q6 t7 t0 t1 t2 r0 r1 r2
  refine jaa (fun w' => w'.cell? ⟨g, n * 9 + 7, none⟩ = some (.slice (some ⟨gv', 0, none⟩) nv cv) /\ w'.cell? ⟨h5, 0, none⟩ = some (.int .i64 op) /\ w'.cell? ⟨h5, 1, none⟩ = some (.int .i64 (dn : Int)) /\ w'.cell? ⟨h5, 2, none⟩ = some (.int .i64 xa) /\ w'.cell? ⟨h5, 3, none⟩ = some (.int .i64 xb) /\ w'.cell? ⟨h5, 4, none⟩ = some (.int .i64 xn) /\ w'.cell? ⟨h5, 5, none⟩ = some (.int .i64 xm) /\ w'.cell? ⟨h5, 6, none⟩ = some (.slice A m c)) 11 (by kernel_rfl) (HKS.out _ (fun b hb _ => BE0.out.block b hb)) ?_
  obtain ⟨w100, hw100⟩ := zr w2.drew
  have BE100 := hide (show Below w2.heap.size w2 w100 by rw [hw100]; exact BE0.out)
  rw [<- hw100]
  have hSd := HKS.out w100 (fun b hb _ => BE100.out.block b hb)
  clear hw100
  refine tilM 0 (Or.inr hSd) ?_
  refine tilM 1 (Or.inr hSd) ?_
  refine tilM 2 (Or.inr hSd) ?_
  refine tilM 3 (Or.inr hSd) ?_
  refine tilT 4 hSd ?_
  refine tilT 5 hSd ?_
  refine ja2 (rs := [6, 10]) (by kernel_rfl) (by simp) ?_
  refine AllTil.cons rfl (fun K hK => ?_) ?_
  ·skip
   rw [if_pos (by rfl)]
   go_simp
   go_at_call 90
   refine (HVA.out w100 (HC2.out.trans (BE100.out.mono HC2.out.size))).mono ?_
   rintro e w101 ⟨rfl, ⟨vh', S', hr', hs'⟩, hb', hf'⟩
   have BEW := hide (HC2.out.trans (BE100.out.mono HC2.out.size))
   have HR101 := hide hr'
   have HS' := hide hs'
   have HBB101 := hide ((BEW.out.mono hbase).trans hb')
   have HFR101 := hide (show ∀ b, b < w2.heap.size -> b ≠ hc -> w101.heap[b]? = w2.heap[b]? from fun b hb hne => (hf' b (Nat.lt_of_lt_of_le hb BE100.out.size) hne).trans (BE100.out.block b hb))
   have HSZ101 := hide (show w100.heap.size <= w101.heap.size from hb'.size)
   clear hr' hs' hb' hf'
   refine hK.out _ _ (HKS.out w101 HFR101.out) ?_
   clear hK K
   try clear hSd
   have hSd := HKS.out w101 HFR101.out
   try simp only [tilS, Act.put]
   refine tilM 7 (Or.inr hSd) ?_
   refine tilM 8 (Or.inr hSd) ?_
   refine tilM 9 (Or.inr hSd) ?_
   refine ja2 (rs := [10]) (by kernel_rfl) (by simp) ?_
   refine AllTil.cons rfl (fun K hK => ?_) ?_
   ·skip
    rw [if_pos (by rfl)]
    go_simp
    obtain ⟨Hg, hHg⟩ := zl w101.heap.size
    obtain ⟨w102, hw102⟩ := zr (w101.alloc (.cells #[.int .i64 0, .int .i64 0, .int .i64 0] 87))
    have DE102 := zb1 hw102
    have BX102 := zx1 hw102 hHg
    have HHg := hide (show w2.heap.size <= Hg by rw [<- hHg]; exact Nat.le_trans BE100.out.size HSZ101.out)
    have HNS := hide (show ¬ S' Hg from fun h => by have := (HR101.out.sin _ h).1; omega)
    have HR102 := hide (HR101.out.below DE102.out)
    have HBB102 := hide (HBB101.out.trans (DE102.out.mono (Nat.le_trans hbase HBB101.out.size)))
    have HFR102 := hide (show ∀ b, b < w2.heap.size -> b ≠ hc -> w102.heap[b]? = w2.heap[b]? from fun b hb hne => (DE102.out.block b (by have := HHg.out; omega)).trans (HFR101.out b hb hne))
    rw [<- hw102, hHg]
    clear hw102 hHg
    refine hK.out _ _ (HKS.out w102 HFR102.out) ?_
    clear hK K
    try clear hSd
    have hSd := HKS.out w102 HFR102.out
    try simp only [tilS, Act.put]
    refine ja2 (rs := [11]) (by kernel_rfl) (by simp) ?_
    refine AllTil.last rfl (by rfl) (fun K hK => ?_)
    obtain ⟨z0, g0⟩ := BX102.out.cell 0 (v := .int .i64 0) rfl
    obtain ⟨z1, g1⟩ := BX102.out.cell 1 (v := .int .i64 0) rfl
    obtain ⟨z2, g2⟩ := BX102.out.cell 2 (v := .int .i64 0) rfl
    rw [if_pos (by rfl)]
    go_simp
    obtain ⟨w103, hw103⟩ := zr (((w102.setCell ⟨Hg, 0, none⟩ (.int .i64 v.n)).setCell ⟨Hg, 1, none⟩ (.int .i64 v.o)).setCell ⟨Hg, 2, none⟩ (.int .i64 v.a))
    have BX103 := hide (show Box w103 Hg #[.int .i64 v.n, .int .i64 v.o, .int .i64 v.a] 87 by rw [hw103]; have t := ((BX102.out.set 0 (.int .i64 v.n)).set 1 (.int .i64 v.o)).set 2 (.int .i64 v.a); simpa using t)
    have HG1 := HMX.out Hg (Nat.le_trans HC2.out.size HHg.out)
    have HG2 : base <= Hg := Nat.le_trans hbase (Nat.le_trans HC2.out.size HHg.out)
    have HR103 := hide (show RunP w103 base hc vp P { s with heap := H1 } (.slice (some ⟨g, 0, none⟩) (L.length + 1) cap) vh' ve (L ++ [(f, a)]) S' by rw [hw103]; exact ((HR102.out.off HNS.out HG1 HG2).off HNS.out HG1 HG2).off HNS.out HG1 HG2)
    have HBB103 := hide (show Below base w w103 by rw [hw103]; exact jdb HBB102.out HG2)
    have HFR103 := hide (show ∀ b, b < w2.heap.size -> b ≠ hc -> w103.heap[b]? = w2.heap[b]? by rw [hw103]; exact fun b hb hne => (far3 (show b ≠ Hg by have := HHg.out; omega)).trans (HFR102.out b hb hne))
    rw [<- hw103]
    clear hw103 z0 z1 z2 g0 g1 g2
    refine hK.out _ _ ?_
    clear hK K hSd
    try simp only [tilS, Act.put]
    refine tilM 12 (Or.inl (by rfl)) ?_
    refine jac (by kernel_rfl) ?_ _
    go_wp2_with fail
    go_meet
    case rel => exact ⟨Hg, vh', S', rfl, rfl, BX103.out, HHg.out, HR103.out, (fun b hb => (HS'.out b hb).imp id (fun h => Nat.le_trans hbase (Nat.le_trans BEW.out.size h))), HBB103.out, HFR103.out⟩
   exact AllTil.nil
  refine AllTil.cons rfl (fun K hK => ?_) ?_
  ·skip
   rw [if_pos (by rfl)]
   go_simp
   obtain ⟨Hg, hHg⟩ := zl w100.heap.size
   obtain ⟨w104, hw104⟩ := zr (w100.alloc (.cells #[.int .i64 0, .int .i64 0, .int .i64 0] 87))
   have DE104 := zb1 hw104
   have BX104 := zx1 hw104 hHg
   have HHg := hide (show w2.heap.size <= Hg by rw [<- hHg]; exact BE100.out.size)
   have BE104 := hide (BE100.out.trans (DE104.out.mono BE100.out.size))
   rw [<- hw104, hHg]
   clear hw104 hHg
   refine hK.out _ _ (HKS.out w104 (fun b hb _ => BE104.out.block b hb)) ?_
   clear hK K
   try clear hSd
   have hSd := HKS.out w104 (fun b hb _ => BE104.out.block b hb)
   try simp only [tilS, Act.put]
   refine ja2 (rs := [6]) (by kernel_rfl) (by simp) ?_
   refine AllTil.cons rfl (fun K hK => ?_) ?_
   ·skip
    rw [if_pos (by rfl)]
    go_simp
    go_at_call 90
    refine (HVA.out w104 (HC2.out.trans (BE104.out.mono HC2.out.size))).mono ?_
    rintro e w105 ⟨rfl, ⟨vh', S', hr', hs'⟩, hb', hf'⟩
    have BEW := hide (HC2.out.trans (BE104.out.mono HC2.out.size))
    have HR105 := hide hr'
    have HS' := hide hs'
    have HBB105 := hide ((BEW.out.mono hbase).trans hb')
    have HFR105 := hide (show ∀ b, b < w2.heap.size -> b ≠ hc -> w105.heap[b]? = w2.heap[b]? from fun b hb hne => (hf' b (Nat.lt_of_lt_of_le hb BE104.out.size) hne).trans (BE104.out.block b hb))
    have HSZ105 := hide (show w104.heap.size <= w105.heap.size from hb'.size)
    have BX105 := hide (show Box w105 Hg #[.int .i64 0, .int .i64 0, .int .i64 0] 87 from (hf' Hg BX104.out.lt (by have := HHg.out; omega)).trans BX104.out)
    have HNS := hide (show ¬ S' Hg from fun h => by rcases hs' _ h with h | h; have := HSN.out _ h; have := HHg.out; have := HC2.out.size; omega; have := BX104.out.lt; omega)
    clear hr' hs' hb' hf'
    refine hK.out _ _ (HKS.out w105 HFR105.out) ?_
    clear hK K
    try clear hSd
    have hSd := HKS.out w105 HFR105.out
    try simp only [tilS, Act.put]
    refine tilM 7 (Or.inr hSd) ?_
    refine tilM 8 (Or.inr hSd) ?_
    refine tilM 9 (Or.inr hSd) ?_
    refine ja2 (rs := [11]) (by kernel_rfl) (by simp) ?_
    refine AllTil.last rfl (by rfl) (fun K hK => ?_)
    obtain ⟨z0, g0⟩ := BX105.out.cell 0 (v := .int .i64 0) rfl
    obtain ⟨z1, g1⟩ := BX105.out.cell 1 (v := .int .i64 0) rfl
    obtain ⟨z2, g2⟩ := BX105.out.cell 2 (v := .int .i64 0) rfl
    rw [if_pos (by rfl)]
    go_simp
    obtain ⟨w106, hw106⟩ := zr (((w105.setCell ⟨Hg, 0, none⟩ (.int .i64 v.n)).setCell ⟨Hg, 1, none⟩ (.int .i64 v.o)).setCell ⟨Hg, 2, none⟩ (.int .i64 v.a))
    have BX106 := hide (show Box w106 Hg #[.int .i64 v.n, .int .i64 v.o, .int .i64 v.a] 87 by rw [hw106]; have t := ((BX105.out.set 0 (.int .i64 v.n)).set 1 (.int .i64 v.o)).set 2 (.int .i64 v.a); simpa using t)
    have HG1 := HMX.out Hg (Nat.le_trans HC2.out.size HHg.out)
    have HG2 : base <= Hg := Nat.le_trans hbase (Nat.le_trans HC2.out.size HHg.out)
    have HR106 := hide (show RunP w106 base hc vp P { s with heap := H1 } (.slice (some ⟨g, 0, none⟩) (L.length + 1) cap) vh' ve (L ++ [(f, a)]) S' by rw [hw106]; exact ((HR105.out.off HNS.out HG1 HG2).off HNS.out HG1 HG2).off HNS.out HG1 HG2)
    have HBB106 := hide (show Below base w w106 by rw [hw106]; exact jdb HBB105.out HG2)
    have HFR106 := hide (show ∀ b, b < w2.heap.size -> b ≠ hc -> w106.heap[b]? = w2.heap[b]? by rw [hw106]; exact fun b hb hne => (far3 (show b ≠ Hg by have := HHg.out; omega)).trans (HFR105.out b hb hne))
    rw [<- hw106]
    clear hw106 z0 z1 z2 g0 g1 g2
    refine hK.out _ _ ?_
    clear hK K hSd
    try simp only [tilS, Act.put]
    refine tilM 12 (Or.inl (by rfl)) ?_
    refine jac (by kernel_rfl) ?_ _
    go_wp2_with fail
    go_meet
    case rel => exact ⟨Hg, vh', S', rfl, rfl, BX106.out, HHg.out, HR106.out, (fun b hb => (HS'.out b hb).imp id (fun h => Nat.le_trans hbase (Nat.le_trans BEW.out.size h))), HBB106.out, HFR106.out⟩
   exact AllTil.nil
  exact AllTil.nil
 case rest =>
  obtain ⟨H, vh', S', rfl, rfl, hbx, hH, hr, hs, hb, hf⟩ := hcut
  have HRc := hide hr
  have HSc := hide hs
  have HBc := hide hb
  by_cases hk : k = 0
  ·subst hk
   have hgb2 : base <= gv' := hgvb
   have hh5 : h5 ≠ hc := by omega
   have hgc : g ≠ hc := hgne
   have t7c := (ja8 (hf g gl2 hgc) (n * 9 + 7)).trans t7
   have q1c := (ja8 (hf h5 lx2 hh5) 1).trans q1
   obtain ⟨b0, -⟩ := hbx.cell 0 (v := .int .i64 v.n) rfl
   obtain ⟨b1, -⟩ := hbx.cell 1 (v := .int .i64 v.o) rfl
   obtain ⟨b2, -⟩ := hbx.cell 2 (v := .int .i64 v.a) rfl
   have hbv := hf gv' hgv2 HNV.out
   have s0 := (ja8 hbv (dn * 3)).trans ((HC2.out.cell (p := ⟨gv', dn * 3, none⟩) hgvl).trans t0)
   have s1 := (ja8 hbv (dn * 3 + 1)).trans ((HC2.out.cell (p := ⟨gv', dn * 3 + 1, none⟩) hgvl).trans t1)
   have s2 := (ja8 hbv (dn * 3 + 2)).trans ((HC2.out.cell (p := ⟨gv', dn * 3 + 2, none⟩) hgvl).trans t2)
   have s3 := (World.frozen?_of_block (a := ⟨gv', dn * 3, none⟩) (hbv.trans (HC2.out.block gv' hgvl))).trans r0
   have s4 := (World.frozen?_of_block (a := ⟨gv', dn * 3 + 1, none⟩) (hbv.trans (HC2.out.block gv' hgvl))).trans r1
   have s5 := (World.frozen?_of_block (a := ⟨gv', dn * 3 + 2, none⟩) (hbv.trans (HC2.out.block gv' hgvl))).trans r2
   clear hbx hr hs hb hf hbv t7 t0 t1 t2 r0 r1 r2 q0 q1 q2 q3 q4 q5 q6
   go_upto_region 6 with (fail)
   go_region
   go_wp2_with fail
   go_ret
   exact ⟨rfl, ⟨_, vh', _, _, S', HV3.out _ vh' S' _ v (HRc.out.below (ja7 (Below.refl _ _))), HSc.out⟩, jdb (ja7 HBc.out) hgb2⟩
  ·have hk2 : (((k : Nat) : Int) != 0) = true := by simpa using hk
   clear hbx hr hs hb hf
   go_wp2
   go_ret
   exact ⟨rfl, ⟨_, vh', _, _, S', HRc.out.cast (HSS.out H1), HSc.out⟩, HBc.out⟩
end Go.Proofs.YthbnbaikdcfbmaaGreatDoor
