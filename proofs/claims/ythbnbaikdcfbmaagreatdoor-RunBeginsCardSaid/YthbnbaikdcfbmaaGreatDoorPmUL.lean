/- Layer 10, the program: contracts of answer. No condition but on lengths. -/
import Derived.Test.YthbnbaikdcfbmaaGreatDoorPmUK
set_option linter.unusedSimpArgs false
set_option linter.unusedVariables false
set_option maxHeartbeats 2000000
set_option maxRecDepth 100000
namespace Go.Proofs.YthbnbaikdcfbmaaGreatDoor
open Go.RowKit
theorem RunP.var3 {w : World} {base hc : Nat} {vp va vh ve : Value} {P : List FunV} {s : StV} {L : List (FrV × ActW)} {S : Nat -> Prop} {f : FrV} {a : ActW} (h : RunP w base hc vp P s va vh ve (L ++ [(f, a)]) S) {gv' nv cv i : Nat} (v : ValV) (hv : a.vv = .slice (some ⟨gv', 0, none⟩) nv cv) (hi : i < f.vars.length) :
  RunP (((w.setCell ⟨gv', i * 3, none⟩ (.int .i64 v.n)).setCell ⟨gv', i * 3 + 1, none⟩ (.int .i64 v.o)).setCell ⟨gv', i * 3 + 2, none⟩ (.int .i64 v.a)) base hc vp P { s with stk := L.map Prod.fst ++ [{ f with vars := f.vars.set i v }] } va vh ve (L ++ [({ f with vars := f.vars.set i v }, a)]) S := by
 obtain ⟨x, hx⟩ : ∃ x, f.vars[i]? = some x := ⟨_, List.getElem?_eq_getElem hi⟩
 have h1 := h.cellV (j := 0) (u := .int .i64 v.n) (y := ⟨v.n, x.o, x.a⟩) hv hx (by omega) rfl
 have hx1 : ({ f with vars := f.vars.set i ⟨v.n, x.o, x.a⟩ } : FrV).vars[i]? = some ⟨v.n, x.o, x.a⟩ := by show (f.vars.set i _)[i]? = _; rw [List.getElem?_set_self hi]
 have h2 := h1.cellV (j := 1) (u := .int .i64 v.o) (y := ⟨v.n, v.o, x.a⟩) hv hx1 (by omega) rfl
 have hx2 : ({ f with vars := (f.vars.set i ⟨v.n, x.o, x.a⟩).set i ⟨v.n, v.o, x.a⟩ } : FrV).vars[i]? = some ⟨v.n, v.o, x.a⟩ := by show ((f.vars.set i _).set i _)[i]? = _; rw [List.getElem?_set_self (by rw [List.length_set]; exact hi)]
 have h3 := h2.cellV (j := 2) (u := .int .i64 v.a) (y := v) hv hx2 (by omega) rfl
 have e : ((f.vars.set i ⟨v.n, x.o, x.a⟩).set i ⟨v.n, v.o, x.a⟩).set i v = f.vars.set i v := by rw [List.set_set, List.set_set]
 simp only [e] at h3
 exact h3
theorem jdb {B : Nat} {w w' : World} {g a b c : Nat} {u v x : Value} (h : Below B w w') (hg : B <= g) : Below B w (((w'.setCell ⟨g, a, none⟩ u).setCell ⟨g, b, none⟩ v).setCell ⟨g, c, none⟩ x) := ((h.setCell (p := ⟨g, a, none⟩) hg _).setCell (p := ⟨g, b, none⟩) hg _).setCell (p := ⟨g, c, none⟩) hg _
theorem far3 {w : World} {g a b c k : Nat} {u v x : Value} (h : k ≠ g) : (((w.setCell ⟨g, a, none⟩ u).setCell ⟨g, b, none⟩ v).setCell ⟨g, c, none⟩ x).heap[k]? = w.heap[k]? := (heap_setCell_other _ _ _ _ h).trans ((heap_setCell_other _ _ _ _ h).trans (heap_setCell_other _ _ _ _ h))
theorem jkb (base hc : Nat) (vp va vh ve : Value) (P : List FunV) (s : StV) (f : FrV) (a : ActW) (S : Nat -> Prop) (v : ValV) (w : World) (hR : RunP w base hc vp P s va vh ve ([(f, a)] : List (FrV × ActW)) S) (hbase : base <= w.heap.size) :
  Calls Tryz.prog 89 #[.pointer (some ⟨hc, 0, none⟩), .agg #[.int .i64 v.n, .int .i64 v.o, .int .i64 v.a]] w fun e w' => e = .returned (.tuple #[]) /\ (∃ va', RunP w' base hc vp P { s with stk := [], en := 1, val := v.n } va' vh ve [] S) /\ Below base w w' /\ ∀ x, x < w.heap.size -> ¬ MutR hc va ve ([(f, a)] : List (FrV × ActW)) x -> w'.heap[x]? = w.heap[x]? := by
 have hR' : RunP w base hc vp P s va vh ve ([] ++ [(f, a)]) S := hR
 obtain ⟨g, cap, rfl, hcap, hcm, hgb, hgl, hgne, hcell⟩ := hR'.last
 have hhc := hR'.box.lt
 have hbh := hR'.hb
 simp only [List.length_nil, Nat.zero_add] at hcap hcell hR'
 obtain ⟨nk, hnk⟩ := zr 0
 have hnk' : 0 = nk := hnk.symm
 have HNK := hide hnk
 have HML := hide hR'.mlt
 have HPOP := hide (fun (W : World) (hW : Below w.heap.size w W) => (show RunP (W.setCell ⟨hc, 1, none⟩ (.slice (some ⟨g, 0, none⟩) nk cap)) base hc vp P { s with stk := [] } (.slice (some ⟨g, 0, none⟩) nk cap) vh ve [] S from by have t := (hR'.below hW).pop; subst hnk; exact t))
 have c1 : w.cell? ⟨hc, 1, none⟩ = some (.slice (some ⟨g, 0, none⟩) (nk + 1) cap) := by subst hnk; exact (hR'.box.cell 1 (v := .slice (some ⟨g, 0, none⟩) (0 + 1) cap) rfl).1
 have HB0 := hide (show Box w hc #[vp, .slice (some ⟨g, 0, none⟩) (nk + 1) cap, vh, ve, .int .i64 (s.en : Int), .int .i64 s.val, .int .i64 (s.code : Int), .int .i64 (s.steps : Int)] 67 by subst hnk; exact hR'.box)
 replace hcap : nk + 1 <= cap := by omega
 have hcap2 : (nk : Int) <= (cap : Int) := by omega
 have hnk0 : (0 : Int) <= (nk : Int) := by omega
 have hnk9 : nk < 1000 := by omega
 simp only [maxLen] at hcm
 have e1 : IntKind.i64.wrap (((nk : Nat) : Int) + 1 - 1) = ((nk : Nat) : Int) := by rw [Int.add_sub_cancel]; exact IntWalk.i64_in _ ⟨by omega, by omega⟩
 clear hR hR' hcell hnk hnk'
 go_enter Tryz.func89, Tryz.ntmps89
 go_upto_region 1 with (fail)
 obtain ⟨w1, hw1⟩ := zr (w.alloc (.cells #[.int .i64 v.n, .int .i64 v.o, .int .i64 v.a] 87))
 obtain ⟨h5, hh5⟩ := zl w.heap.size
 have HX0 := zx1 hw1 hh5
 have HB1 := zb1 hw1
 have h5g : w.heap.size <= h5 := by omega
 have hhc1 : hc < w1.heap.size := Nat.lt_of_lt_of_le hhc HB1.out.size
 have HKS := hide (fun (W : World) (hW : Below w1.heap.size w1 W) => (show W.cell? ⟨hc, 1, none⟩ = some (.slice (some ⟨g, 0, none⟩) (nk + 1) cap) from (hW.cell (p := ⟨hc, 1, none⟩) hhc1).trans ((HB1.out.cell (p := ⟨hc, 1, none⟩) hhc).trans c1)))
 have BE0 := hide (show Below w1.heap.size w1 w1.drew from ja7 (Below.refl _ _))
 rw [<- hw1, hh5]
 clear hw1 hh5 c1
 have e0 : IntKind.i64.wrap (nk : Int) = (nk : Int) := IntWalk.i64_in _ ⟨by omega, by omega⟩
 refine jaa (fun w' => w'.cell? ⟨hc, 1, none⟩ = some (.slice (some ⟨g, 0, none⟩) (nk + 1) cap)) 14 (by kernel_rfl) (HKS.out _ BE0.out) ?_
 obtain ⟨w100, hw100⟩ := zr w1.drew
 have BE100 := hide (show Below w1.heap.size w1 w100 by rw [hw100]; exact BE0.out)
 rw [<- hw100]
 have hSd := HKS.out w100 BE100.out
 clear hw100
 refine tilM 0 (Or.inr hSd) ?_
 refine tilM 1 (Or.inr hSd) ?_
 refine tilM 2 (Or.inr hSd) ?_
 refine tilM 3 (Or.inr hSd) ?_
 refine tilM 5 (Or.inr hSd) ?_
 refine tilM 6 (Or.inr hSd) ?_
 refine tilM 7 (Or.inr hSd) ?_
 refine tilT 4 hSd ?_
 refine tilT 8 hSd ?_
 refine tilM 9 (Or.inr hSd) ?_
 refine tilM 10 (Or.inr hSd) ?_
 refine tilM 11 (Or.inr hSd) ?_
 refine tilM 12 (Or.inr hSd) ?_
 refine tilM 13 (Or.inr hSd) ?_
 refine ja2 (rs := [14]) (by kernel_rfl) (by simp) ?_
 refine AllTil.last rfl (by rfl) (fun K hK => ?_)
 obtain ⟨z0, q0⟩ := (HB0.out.below (HB1.out.trans (BE100.out.mono HB1.out.size))).cell 1 (v := .slice (some ⟨g, 0, none⟩) (nk + 1) cap) rfl
 rw [if_pos (by rfl)]
 go_simp
 obtain ⟨w101, hw101⟩ := zr (w100.setCell ⟨hc, 1, none⟩ (.slice (some ⟨g, 0, none⟩) nk cap))
 have HR2 := hide (show RunP w101 base hc vp P { s with stk := [] } (.slice (some ⟨g, 0, none⟩) nk cap) vh ve [] S by rw [hw101]; exact HPOP.out w100 (HB1.out.trans (BE100.out.mono HB1.out.size)))
 have HX2 := hide (show Box w101 h5 #[.int .i64 v.n, .int .i64 v.o, .int .i64 v.a] 87 by rw [hw101]; exact (HX0.out.below BE100.out).other (by omega))
 have HB2 := hide (show Below base w w101 by rw [hw101]; exact ((HB1.out.trans (BE100.out.mono HB1.out.size)).mono hbase).setCell (p := ⟨hc, 1, none⟩) hbh _)
 have HF2 := hide (show ∀ x, x < w.heap.size -> x ≠ hc -> w101.heap[x]? = w.heap[x]? by rw [hw101]; exact fun x hx hne => (heap_setCell_other _ _ _ _ (show x ≠ hc from hne)).trans ((HB1.out.trans (BE100.out.mono HB1.out.size)).block x hx))
 rw [<- hw101]
 clear hw101 z0 q0
 refine hK.out _ _ ?_
 clear hK K hSd
 try simp only [tilS, Act.put]
 refine jac (by kernel_rfl) ?_ _
 clear e0 e1
 obtain rfl := HNK.out
 have x1 := (HR2.out.box.cell 1 (v := .slice (some ⟨g, 0, none⟩) 0 cap) rfl).1
 obtain ⟨x4, f4⟩ := HR2.out.box.cell 4 (v := .int .i64 (s.en : Int)) rfl
 obtain ⟨x5, f5⟩ := HR2.out.box.cell 5 (v := .int .i64 s.val) rfl
 obtain ⟨v0, -⟩ := HX2.out.cell 0 (v := .int .i64 v.n) rfl
 go_upto_region 3 with (fail)
 go_region
 go_wp2_with fail
 refine bodyPost_ret (results_none rfl _ _ _) rfl ?_
 exact ⟨rfl, ⟨_, (((HR2.out.below (ja7 (Below.refl _ _))).head 4 (.int .i64 1) { s with stk := [], en := 1 } rfl rfl rfl rfl).head 5 (.int .i64 v.n) { s with stk := [], en := 1, val := v.n } rfl rfl rfl rfl)⟩, (ja7 HB2.out).setCell (p := ⟨hc, 4, none⟩) hbh _ |>.setCell (p := ⟨hc, 5, none⟩) hbh _, fun x hx hm => (heap_setCell_other _ _ _ _ (show x ≠ hc from fun e => hm (.inl e))).trans ((heap_setCell_other _ _ _ _ (show x ≠ hc from fun e => hm (.inl e))).trans (HF2.out x hx (fun e => hm (.inl e))))⟩
theorem jka (base hc : Nat) (vp va vh ve : Value) (P : List FunV) (s : StV) (L : List (FrV × ActW)) (g0 : FrV) (b : ActW) (i : Nat) (f : FrV) (a : ActW) (S : Nat -> Prop) (v : ValV) (w : World) (hR : RunP w base hc vp P s va vh ve (L ++ [(g0, b)] ++ [(f, a)]) S) (hi : i < g0.vars.length) (hw : g0.want = (i : Int)) (hL : L.length < 900) (hbase : base <= w.heap.size) :
  Calls Tryz.prog 89 #[.pointer (some ⟨hc, 0, none⟩), .agg #[.int .i64 v.n, .int .i64 v.o, .int .i64 v.a]] w fun e w' => e = .returned (.tuple #[]) /\ (∃ va', RunP w' base hc vp P { s with stk := L.map Prod.fst ++ [{ g0 with vars := g0.vars.set i v }] } va' vh ve (L ++ [({ g0 with vars := g0.vars.set i v }, b)]) S) /\ Below base w w' /\ ∀ x, x < w.heap.size -> ¬ MutR hc va ve (L ++ [(g0, b)] ++ [(f, a)]) x -> w'.heap[x]? = w.heap[x]? := by
 have hR' := hR
 obtain ⟨g, cap, rfl, hcap, hcm, hgb, hgl, hgne, hcell⟩ := hR'.last
 have hhc := hR'.box.lt
 have hbh := hR'.hb
 obtain ⟨n, hn⟩ := zl L.length
 have hnn : (L ++ [(g0, b)]).length = n + 1 := by simp [hn]
 have HN := hide hn
 rw [hnn] at hcap hcell hR'
 obtain ⟨nk, hnk⟩ := zr (n + 1)
 have hnk' : (n + 1) = nk := hnk.symm
 have HNK := hide hnk
 have HML := hide hR'.mlt
 have HPOP := hide (fun (W : World) (hW : Below w.heap.size w W) => (show RunP (W.setCell ⟨hc, 1, none⟩ (.slice (some ⟨g, 0, none⟩) nk cap)) base hc vp P { s with stk := (L ++ [(g0, b)]).map Prod.fst } (.slice (some ⟨g, 0, none⟩) nk cap) vh ve (L ++ [(g0, b)]) S from by have t := (hR'.below hW).pop; rw [hnn] at t; subst hnk; exact t))
 have c1 : w.cell? ⟨hc, 1, none⟩ = some (.slice (some ⟨g, 0, none⟩) (nk + 1) cap) := by subst hnk; exact (hR'.box.cell 1 (v := .slice (some ⟨g, 0, none⟩) ((n + 1) + 1) cap) rfl).1
 have HB0 := hide (show Box w hc #[vp, .slice (some ⟨g, 0, none⟩) (nk + 1) cap, vh, ve, .int .i64 (s.en : Int), .int .i64 s.val, .int .i64 (s.code : Int), .int .i64 (s.steps : Int)] 67 by subst hnk; exact hR'.box)
 replace hcap : nk + 1 <= cap := by omega
 have hcap2 : (nk : Int) <= (cap : Int) := by omega
 have hnk0 : (0 : Int) <= (nk : Int) := by omega
 have hnk9 : nk < 1000 := by omega
 simp only [maxLen] at hcm
 have e1 : IntKind.i64.wrap (((nk : Nat) : Int) + 1 - 1) = ((nk : Nat) : Int) := by rw [Int.add_sub_cancel]; exact IntWalk.i64_in _ ⟨by omega, by omega⟩
 clear hR hR' hcell hnk hnk'
 clear hn hnn
 go_enter Tryz.func89, Tryz.ntmps89
 go_upto_region 1 with (fail)
 obtain ⟨w1, hw1⟩ := zr (w.alloc (.cells #[.int .i64 v.n, .int .i64 v.o, .int .i64 v.a] 87))
 obtain ⟨h5, hh5⟩ := zl w.heap.size
 have HX0 := zx1 hw1 hh5
 have HB1 := zb1 hw1
 have h5g : w.heap.size <= h5 := by omega
 have hhc1 : hc < w1.heap.size := Nat.lt_of_lt_of_le hhc HB1.out.size
 have HKS := hide (fun (W : World) (hW : Below w1.heap.size w1 W) => (show W.cell? ⟨hc, 1, none⟩ = some (.slice (some ⟨g, 0, none⟩) (nk + 1) cap) from (hW.cell (p := ⟨hc, 1, none⟩) hhc1).trans ((HB1.out.cell (p := ⟨hc, 1, none⟩) hhc).trans c1)))
 have BE0 := hide (show Below w1.heap.size w1 w1.drew from ja7 (Below.refl _ _))
 rw [<- hw1, hh5]
 clear hw1 hh5 c1
 have e0 : IntKind.i64.wrap (nk : Int) = (nk : Int) := IntWalk.i64_in _ ⟨by omega, by omega⟩
 refine jaa (fun w' => w'.cell? ⟨hc, 1, none⟩ = some (.slice (some ⟨g, 0, none⟩) (nk + 1) cap)) 14 (by kernel_rfl) (HKS.out _ BE0.out) ?_
 obtain ⟨w100, hw100⟩ := zr w1.drew
 have BE100 := hide (show Below w1.heap.size w1 w100 by rw [hw100]; exact BE0.out)
 rw [<- hw100]
 have hSd := HKS.out w100 BE100.out
 clear hw100
 refine tilM 0 (Or.inr hSd) ?_
 refine tilM 1 (Or.inr hSd) ?_
 refine tilM 2 (Or.inr hSd) ?_
 refine tilM 3 (Or.inr hSd) ?_
 refine tilM 5 (Or.inr hSd) ?_
 refine tilM 6 (Or.inr hSd) ?_
 refine tilM 7 (Or.inr hSd) ?_
 refine tilT 4 hSd ?_
 refine tilT 8 hSd ?_
 refine tilM 9 (Or.inr hSd) ?_
 refine tilM 10 (Or.inr hSd) ?_
 refine tilM 11 (Or.inr hSd) ?_
 refine tilM 12 (Or.inr hSd) ?_
 refine tilM 13 (Or.inr hSd) ?_
 refine ja2 (rs := [14]) (by kernel_rfl) (by simp) ?_
 refine AllTil.last rfl (by rfl) (fun K hK => ?_)
 obtain ⟨z0, q0⟩ := (HB0.out.below (HB1.out.trans (BE100.out.mono HB1.out.size))).cell 1 (v := .slice (some ⟨g, 0, none⟩) (nk + 1) cap) rfl
 rw [if_pos (by rfl)]
 go_simp
 obtain ⟨w101, hw101⟩ := zr (w100.setCell ⟨hc, 1, none⟩ (.slice (some ⟨g, 0, none⟩) nk cap))
 have HR2 := hide (show RunP w101 base hc vp P { s with stk := (L ++ [(g0, b)]).map Prod.fst } (.slice (some ⟨g, 0, none⟩) nk cap) vh ve (L ++ [(g0, b)]) S by rw [hw101]; exact HPOP.out w100 (HB1.out.trans (BE100.out.mono HB1.out.size)))
 have HX2 := hide (show Box w101 h5 #[.int .i64 v.n, .int .i64 v.o, .int .i64 v.a] 87 by rw [hw101]; exact (HX0.out.below BE100.out).other (by omega))
 have HB2 := hide (show Below base w w101 by rw [hw101]; exact ((HB1.out.trans (BE100.out.mono HB1.out.size)).mono hbase).setCell (p := ⟨hc, 1, none⟩) hbh _)
 have HF2 := hide (show ∀ x, x < w.heap.size -> x ≠ hc -> w101.heap[x]? = w.heap[x]? by rw [hw101]; exact fun x hx hne => (heap_setCell_other _ _ _ _ (show x ≠ hc from hne)).trans ((HB1.out.trans (BE100.out.mono HB1.out.size)).block x hx))
 rw [<- hw101]
 clear hw101 z0 q0
 refine hK.out _ _ ?_
 clear hK K hSd
 try simp only [tilS, Act.put]
 refine jac (by kernel_rfl) ?_ _
 clear e0 e1
 obtain rfl := HNK.out
 obtain ⟨gv, cv, hv, hcv, hcvm, hgvb, hgvl, hval⟩ := (HR2.out.all (g0, b) (by simp)).vals (show 0 < g0.vars.length by omega)
 obtain ⟨y, hy⟩ : ∃ y, g0.vars[i]? = some y := ⟨_, List.getElem?_eq_getElem hi⟩
 obtain ⟨⟨t0, t1, t2⟩, r0, r1, r2⟩ := hval i y hy
 obtain ⟨g', cap', hva', -, -, -, hgl', -, hcell'⟩ := HR2.out.last
 injection hva' with hva1 hva2 hva3
 injection hva1 with hva1
 injection hva1 with hva1
 subst hva1
 clear hva2 hva3
 rw [HN.out] at hcell'
 have hv' : b.vv = .slice (some ⟨gv, 0, none⟩) g0.vars.length cv := hv
 have t7 := (hcell' 7 (.slice (some ⟨gv, 0, none⟩) g0.vars.length cv) (by omega) (by rw [<- hv']; rfl)).1
 have t8 := (hcell' 8 (.int .i64 (i : Int)) (by omega) (by rw [<- hw]; rfl)).1
 have HV3 := hide (fun (W : World) (hW : Below w101.heap.size w101 W) => (HR2.out.below hW).var3 v hv' hi)
 have HGV := hide (And.intro hgvb (show gv < w101.heap.size from hgvl))
 have HMV := hide (show ∀ x, ¬ MutR hc (.slice (some ⟨g, 0, none⟩) (n + 1 + 1) cap) ve (L ++ [(g0, b)] ++ [(f, a)]) x -> x ≠ gv from fun x hm e => hm (.inr (.inr (.inr ⟨(g0, b), by simp, by rw [hv', e]; rfl⟩))))
 have i1 : (0 : Int) <= (i : Int) := by omega
 have i2 : (i : Int) < (g0.vars.length : Int) := by omega
 have x1 := (HR2.out.box.cell 1 (v := .slice (some ⟨g, 0, none⟩) (n + 1) cap) rfl).1
 obtain ⟨v0, -⟩ := HX2.out.cell 0 (v := .int .i64 v.n) rfl
 obtain ⟨v1, -⟩ := HX2.out.cell 1 (v := .int .i64 v.o) rfl
 obtain ⟨v2, -⟩ := HX2.out.cell 2 (v := .int .i64 v.a) rfl
 have HL := hide (jba hc g n cap w101 HR2.out.box.lt x1 (by have := HN.out; omega) (by omega))
 generalize g0.vars.length = nv at *
 clear hval hcell' hy hv hv' hw
 go_upto_region 5 with (go_at_call 85; (with_reducible refine HL.out.mono ?_); rintro e w4 ⟨rfl, q, hw4⟩; have HB4 := hide (show Below w101.heap.size w101 w4 by rw [hw4]; exact jar q); clear hw4)
 have lx5 := HX2.out.lt
 obtain ⟨v0, -⟩ := (HX2.out.below HB4.out).cell 0 (v := .int .i64 v.n) rfl
 obtain ⟨v1, -⟩ := (HX2.out.below HB4.out).cell 1 (v := .int .i64 v.o) rfl
 obtain ⟨v2, -⟩ := (HX2.out.below HB4.out).cell 2 (v := .int .i64 v.a) rfl
 replace t7 := (HB4.out.cell (p := ⟨g, n * 9 + 7, none⟩) hgl').trans t7
 replace t8 := (HB4.out.cell (p := ⟨g, n * 9 + 8, none⟩) hgl').trans t8
 replace t0 := (HB4.out.cell (p := ⟨gv, i * 3, none⟩) hgvl).trans t0
 replace t1 := (HB4.out.cell (p := ⟨gv, i * 3 + 1, none⟩) hgvl).trans t1
 replace t2 := (HB4.out.cell (p := ⟨gv, i * 3 + 2, none⟩) hgvl).trans t2
 replace r0 := (World.frozen?_of_block (a := ⟨gv, i * 3, none⟩) (HB4.out.block gv hgvl)).trans r0
 replace r1 := (World.frozen?_of_block (a := ⟨gv, i * 3 + 1, none⟩) (HB4.out.block gv hgvl)).trans r1
 replace r2 := (World.frozen?_of_block (a := ⟨gv, i * 3 + 2, none⟩) (HB4.out.block gv hgvl)).trans r2
 go_region
 go_end0
 exact ⟨rfl, ⟨_, HV3.out _ (ja7 HB4.out)⟩, jdb (ja7 (HB2.out.trans (HB4.out.mono (Nat.le_trans hbase HB2.out.size)))) HGV.out.1, fun x hx hm => (far3 (HMV.out x hm)).trans ((HB4.out.block x (by have := HB2.out.size; omega)).trans (HF2.out x hx (fun e => hm (.inl e))))⟩
end Go.Proofs.YthbnbaikdcfbmaaGreatDoor
