/- Texts of several names, of which only what the statement needs is kept. -/
import Derived.Test.YthbnbaikdcfbmaaGreatDoorPmUL
set_option linter.unusedSimpArgs false
set_option linter.unusedVariables false
set_option maxHeartbeats 4000000
set_option maxRecDepth 100000
namespace Go.Proofs.YthbnbaikdcfbmaaGreatDoor
open Go.RowKit
theorem OwL.set3 {w : World} {base g n cap k : Nat} {l : List ValV} (v : ValV) (h : OwL w base (.slice (some ⟨g, 0, none⟩) n cap) l) (hk : k < l.length) :
  OwL (((w.setCell ⟨g, k * 3, none⟩ (.int .i64 v.n)).setCell ⟨g, k * 3 + 1, none⟩ (.int .i64 v.o)).setCell ⟨g, k * 3 + 2, none⟩ (.int .i64 v.a)) base (.slice (some ⟨g, 0, none⟩) n cap) (l.set k v) := by
 obtain ⟨x, hx⟩ : ∃ x, l[k]? = some x := ⟨_, List.getElem?_eq_getElem hk⟩
 have h1 := OwC.setAt jbh h (j := 0) (u := .int .i64 v.n) (q := ⟨v.n, x.o, x.a⟩) hx rfl (by omega)
 have h2 := OwC.setAt jbh h1 (k := k) (p := ⟨v.n, x.o, x.a⟩) (j := 1) (u := .int .i64 v.o) (q := ⟨v.n, v.o, x.a⟩) (by rw [List.getElem?_set_self hk]) rfl (by omega)
 have h3 := OwC.setAt jbh h2 (k := k) (p := ⟨v.n, v.o, x.a⟩) (j := 2) (u := .int .i64 v.a) (q := v) (by rw [List.getElem?_set_self (by rw [List.length_set]; exact hk)]) rfl (by omega)
 rw [List.set_set, List.set_set] at h3
 exact h3
def jc2 (v : List ValV) (args : List Int) (k : Nat) : List ValV := (args.take k).map (gv v) ++ List.replicate (args.length - k) vZ
theorem jhe (v : List ValV) (args : List Int) (k : Nat) (hk : k <= args.length) : (jc2 v args k).length = args.length := by simp [jc2]; omega
theorem jlm {v : List ValV} {args : List Int} {k : Nat} {z : Int} (hz : args[k]? = some z) : (jc2 v args k).set k (gv v z) = jc2 v args (k + 1) := by
 have hk := (List.getElem?_eq_some_iff.1 hz).1
 unfold jc2
 have hl : ((args.take k).map (gv v)).length = k := by simp; omega
 rw [List.set_append_right _ _ (by omega), hl, Nat.sub_self]
 obtain ⟨d, hd⟩ : ∃ d, args.length - k = d + 1 := ⟨args.length - k - 1, by omega⟩
 rw [hd, show args.length - (k + 1) = d by omega, List.replicate_succ, List.set_cons_zero, List.take_add_one, hz, List.map_append, List.append_assoc]
 rfl
theorem jmv (v : List ValV) (args : List Int) : jc2 v args args.length = args.map (gv v) := by simp [jc2]
theorem mut_want {hc : Nat} {va ve : Value} {L : List (FrV × ActW)} {f f' : FrV} {a : ActW} {b : Nat} (h : MutR hc va ve (L ++ [(f', a)]) b) : MutR hc va ve (L ++ [(f, a)]) b := by
 rcases h with h | h | h | ⟨p, hp, h⟩
 ·exact .inl h
 ·exact .inr (.inl h)
 ·exact .inr (.inr (.inl h))
 ·rcases List.mem_append.1 hp with hp | hp
  ·exact .inr (.inr (.inr ⟨p, List.mem_append_left _ hp, h⟩))
  ·rw [List.mem_singleton] at hp
   subst hp
   exact .inr (.inr (.inr ⟨(f, a), by simp, h⟩))
theorem joc (base hc : Nat) (vp va vh ve : Value) (P : List FunV) (s : StV) (L : List (FrV × ActW)) (S : Nat -> Prop) (op d xa xb xm : Int) (nn m c : Nat) (A : Option Addr) (w : World) (hR : RunP w base hc vp P s va vh ve L S) (hd : 60 <= L.length) :
  Calls Tryz.prog 87 #[.pointer (some ⟨hc, 0, none⟩), .agg #[.int .i64 op, .int .i64 d, .int .i64 xa, .int .i64 xb, .int .i64 (nn : Int), .int .i64 xm, .slice A m c]] w fun e w' => e = .returned (.int .i64 18) /\ Below w.heap.size w w' := by
 obtain ⟨Aa, ca, hva, hca, hcam⟩ := hR.acts.sl
 subst hva
 have hlt := hR.box.lt
 have c1 := (hR.box.cell 1 (v := .slice Aa L.length ca) rfl).1
 have h60 : (60 : Int) <= (L.length : Int) := by omega
 generalize L.length = n at *
 clear hR hca hcam
 go_enter Tryz.func87, Tryz.ntmps87
 go_wp2
 go_ret
 exact ⟨rfl, ja4 w _⟩
theorem jqg (base hc : Nat) (vp va vh ve : Value) (P : List FunV) (s : StV) (L : List (FrV × ActW)) (f : FrV) (a : ActW) (S : Nat -> Prop) (op d xa xb xm : Int) (nn m c : Nat) (A : Option Addr) (args : List Int) (G : FunV) (w : World) (hR : RunP w base hc vp P s va vh ve (L ++ [(f, a)]) S) (hL : L.length + 1 < 60)
  (hp : FunsV w (· < base) vp P) (hG : P[nn]? = some G) (hk : G.kinds.length <= 48) (ham : args.length = m) (hmk : m <= G.kinds.length) (hx : IntsV w (· < base) (.slice A m c) args) (hin : ∀ z ∈ args, 0 <= z /\ z < f.vars.length) (hv0 : 0 < f.vars.length) (hbase : base <= w.heap.size) :
  Calls Tryz.prog 87 #[.pointer (some ⟨hc, 0, none⟩), .agg #[.int .i64 op, .int .i64 d, .int .i64 xa, .int .i64 xb, .int .i64 (nn : Int), .int .i64 xm, .slice A m c]] w fun e w' => e = .returned (.int .i64 0) /\ (∃ va' a', RunP w' base hc vp P { s with stk := (L ++ [({ f with want := d }, a)]).map Prod.fst ++ [jcy P nn (args.map (gv f.vars))] } va' vh ve (L ++ [({ f with want := d }, a)] ++ [(jcy P nn (args.map (gv f.vars)), a')]) S) /\ Below base w w' /\ ∀ b, b < w.heap.size -> ¬ MutR hc va ve (L ++ [(f, a)]) b -> w'.heap[b]? = w.heap[b]? := by
 obtain ⟨g, cap, rfl, hcap, hcm, hgb, hgl, hgne, hcell⟩ := hR.last
 have hhc := hR.box.lt
 have hbh := hR.hb
 obtain ⟨gv', cv, hv, hcv, hcvm, hgvb, hgvl, hval⟩ := (hR.all (f, a) (by simp)).vals hv0
 have hv' : a.vv = .slice (some ⟨gv', 0, none⟩) f.vars.length cv := hv
 have HTOP := hide (fun (W : World) (hW : Below w.heap.size w W) (k : Nat) (hk : k = L.length * 9 + 8) => (show RunP (W.setCell ⟨g, k, none⟩ (.int .i64 d)) base hc vp P { s with stk := L.map Prod.fst ++ [{ f with want := d }] } (.slice (some ⟨g, 0, none⟩) (L.length + 1) cap) vh ve (L ++ [({ f with want := d }, a)]) S from by subst hk; exact (hR.below hW).top 8 (.int .i64 d) { f with want := d } (by omega) rfl rfl rfl))
 have HBG := hide (fun (W : World) (A : Option Addr) (hR' : RunP W base hc vp P { s with stk := L.map Prod.fst ++ [{ f with want := d }] } (.slice (some ⟨g, 0, none⟩) (L.length + 1) cap) vh ve (L ++ [({ f with want := d }, a)]) S) (hp' : FunsV W (· < base) vp P) (hs) (hb) => jhz base hc vp _ vh ve P _ _ S nn m m A (args.map (gv f.vars)) G W hR' hp' hG hk (by rw [List.length_map]; exact ham) hmk hs (by simp; omega) hb)
 have HP := hide hp
 have HBX := hide hR.box
 have c1 := (hR.box.cell 1 (v := .slice (some ⟨g, 0, none⟩) (L.length + 1) cap) rfl).1
 have t7 := (hcell 7 (.slice (some ⟨gv', 0, none⟩) f.vars.length cv) (by omega) (by rw [<- hv']; rfl)).1
 obtain ⟨u8, hu8⟩ : ∃ u, (actC (f, a))[8]? = some u := ⟨_, rfl⟩
 obtain ⟨t8, t8f⟩ := hcell 8 u8 (by omega) hu8
 obtain ⟨n, hn⟩ := zl L.length
 have HN := hide hn
 rw [hn] at hcap c1 t7 t8 t8f hL
 have HVL := hide (fun (z : Int) (hz : z ∈ args) => (show ∃ k : Nat, z = (k : Int) /\ k < f.vars.length /\ w.cell? ⟨gv', k * 3, none⟩ = some (.int .i64 (gv f.vars z).n) /\ w.cell? ⟨gv', k * 3 + 1, none⟩ = some (.int .i64 (gv f.vars z).o) /\ w.cell? ⟨gv', k * 3 + 2, none⟩ = some (.int .i64 (gv f.vars z).a) from by
  obtain ⟨h1, h2⟩ := hin z hz
  obtain ⟨k, rfl⟩ : ∃ k : Nat, z = k := ⟨z.toNat, by omega⟩
  have hk : k < f.vars.length := by omega
  obtain ⟨y, hy⟩ : ∃ y, f.vars[k]? = some y := ⟨_, List.getElem?_eq_getElem hk⟩
  have hgy : gv f.vars (k : Int) = y := by unfold gv; rw [Int.toNat_natCast, hy]; rfl
  rw [hgy]
  exact ⟨k, rfl, hk, (hval k y hy).1.1, (hval k y hy).1.2.1, (hval k y hy).1.2.2⟩))
 have HX := hide hx
 have HA := hide ham
 have HVV := hide hv'
 have HML := hide hR.mlt
 have HMV := hide (show ∀ b, MutR hc (.slice (some ⟨g, 0, none⟩) (L.length + 1) cap) ve (L ++ [({ f with want := d }, a)]) b -> MutR hc (.slice (some ⟨g, 0, none⟩) (L.length + 1) cap) ve (L ++ [(f, a)]) b from fun b h => mut_want h)
 have HMG := hide (show ∀ b, ¬ MutR hc (.slice (some ⟨g, 0, none⟩) (L.length + 1) cap) ve (L ++ [(f, a)]) b -> b ≠ g from fun b h e => h (.inr (.inl (by rw [e]; rfl))))
 have hng : gv' ≠ g := fun e => hR.ne.av (f, a) (by simp) g rfl (by rw [<- e, hv']; rfl)
 have HK := hide hk
 have hm4 : m <= 48 := by omega
 have hmr := ji6 60 87 Tryz.underlying60 jni (by omega) m (by omega)
 rw [jf5] at hmr
 have h60 : ¬ ((60 : Int) <= (n : Int) + 1) := by omega
 generalize f.vars.length = nv at *
 clear hR hp hG ham hmk hx hin hv hv' hval hn hu8 hcell hk hcvm hcm
 go_enter Tryz.func87, Tryz.ntmps87
 go_upto_region 1 with (fail)
 obtain ⟨w1, hw1⟩ := zr (w.alloc (.cells #[.int .i64 op, .int .i64 d, .int .i64 xa, .int .i64 xb, .int .i64 (nn : Int), .int .i64 xm, .slice A m c] 57))
 obtain ⟨h5, hh5⟩ := zl w.heap.size
 have HX0 := zx1 hw1 hh5
 have HB1 := zb1 hw1
 have h5g : w.heap.size <= h5 := by omega
 have hhc1 : hc < w1.heap.size := Nat.lt_of_lt_of_le hhc HB1.out.size
 have p1 : w1.cell? ⟨hc, 1, none⟩ = some (.slice (some ⟨g, 0, none⟩) (n + 1) cap) := (HB1.out.cell (p := ⟨hc, 1, none⟩) hhc).trans c1
 have HL := hide (jba hc g n cap w1 hhc1 p1 (by omega) hcap)
 rw [<- hw1, hh5]
 clear hw1 hh5 c1
 go_upto_region 4 with (go_at_call 85; (with_reducible refine HL.out.mono ?_); rintro e w2 ⟨rfl, q, hw2⟩; have HB2 := hide (show Below w1.heap.size w1 w2 by rw [hw2]; exact jar q); clear hw2)
 have HC2 := hide (HB1.out.trans (HB2.out.mono HB1.out.size))
 have gl2 : g < w2.heap.size := Nat.lt_of_lt_of_le hgl HC2.out.size
 replace t8 := (HC2.out.cell (p := ⟨g, n * 9 + 8, none⟩) hgl).trans t8
 replace t8f := (World.frozen?_of_block (a := ⟨g, n * 9 + 8, none⟩) (HC2.out.block g hgl)).trans t8f
 replace t7 := (HC2.out.cell (p := ⟨g, n * 9 + 7, none⟩) hgl).trans t7
 have HX2 := hide (HX0.out.below HB2.out)
 obtain ⟨q1, -⟩ := HX2.out.cell 1 (v := .int .i64 d) rfl
 go_upto_region 5 with (fail)
 obtain ⟨w3, hw3⟩ := zr (w2.setCell ⟨g, n * 9 + 8, none⟩ (.int .i64 d))
 have HR3 := hide (show RunP w3 base hc vp P { s with stk := L.map Prod.fst ++ [{ f with want := d }] } (.slice (some ⟨g, 0, none⟩) (L.length + 1) cap) vh ve (L ++ [({ f with want := d }, a)]) S by rw [hw3]; exact HTOP.out w2 HC2.out (n * 9 + 8) (by rw [HN.out]))
 have HX3 := hide (show Box w3 h5 #[.int .i64 op, .int .i64 d, .int .i64 xa, .int .i64 xb, .int .i64 (nn : Int), .int .i64 xm, .slice A m c] 57 by rw [hw3]; exact HX2.out.other (by omega))
 have HB3 := hide (show Below base w w3 by rw [hw3]; exact (HC2.out.mono hbase).setCell (p := ⟨g, n * 9 + 8, none⟩) hgb _)
 have HF3 := hide (show ∀ b, b < w.heap.size -> b ≠ g -> w3.heap[b]? = w.heap[b]? by rw [hw3]; exact fun b hb hne => (heap_setCell_other _ _ _ _ (show b ≠ g from hne)).trans (HC2.out.block b hb))
 have hs3 : w2.heap.size = w3.heap.size := by rw [hw3, World.size_setCell]
 have hs3l : w.heap.size <= w3.heap.size := by rw [<- hs3]; exact HC2.out.size
 have T7 : w3.cell? ⟨g, n * 9 + 7, none⟩ = some (.slice (some ⟨gv', 0, none⟩) nv cv) := by
  obtain ⟨g', cap', e, -, -, -, -, -, h9⟩ := HR3.out.last
  injection e with e1 _ _
  injection e1 with e1
  injection e1 with e1
  subst e1
  rw [HN.out] at h9
  exact (h9 7 _ (by omega) (by rw [<- HVV.out]; rfl)).1
 rw [<- hw3]
 clear hw3 t7 t8 t8f q1 hs3
 obtain ⟨q6, -⟩ := HX3.out.cell 6 (v := .slice A m c) rfl
 have lx3 := HX3.out.lt
 go_upto_region 7 with (fail)
 obtain ⟨gz, hgz⟩ := zl w3.heap.size
 obtain ⟨w4, hw4⟩ := zr (w3.alloc (.cells ((List.replicate m vZ).flatMap valC).toArray 87))
 have HB4 := zb1 hw4
 have HO4 := hide (show OwL w4 w3.heap.size (.slice (some ⟨gz, 0, none⟩) m m) (jc2 f.vars args 0) from OwC.ofBox jbh (by rw [jhe _ _ _ (Nat.zero_le _)]; exact HA.out) (by
  have e : jc2 f.vars args 0 = List.replicate m vZ := by simp [jc2, HA.out]
  rw [e, hw4, <- hgz]
  exact Box.new w3 _ _) (by omega) (by omega))
 have HGZ := hide (show w3.heap.size <= gz by omega)
 rw [<- hw4, hgz]
 clear hw4 hgz q6
 go_loopw [29] (fun i wr => ∃ k : Nat, k <= m /\ i = .int .i64 (k : Int) /\ Hid (OwL wr w3.heap.size (.slice (some ⟨gz, 0, none⟩) m m) (jc2 f.vars args k)) /\ Hid (Below w3.heap.size w3 wr)) (fun i _ => m - (intOf i).toNat)
 case atStart => exact ⟨0, Nat.zero_le _, rfl, HO4, HB4⟩
 case round =>
  obtain ⟨k, hkm, rfl, HO, HB⟩ := hrel
  obtain ⟨wo, rfl⟩ := zr wr
  have r6 := ((HX3.out.below HB.out).cell 6 (v := .slice A m c) rfl).1
  by_cases hlt : k < m
  case neg =>
   obtain rfl : k = m := by omega
   have hnl : ¬ ((k : Int) < (k : Int)) := by omega
   obtain ⟨q4, -⟩ := (HX3.out.below HB.out).cell 4 (v := .int .i64 (nn : Int)) rfl
   have HBW := hide (HB3.out.trans (HB.out.mono (Nat.le_trans hbase hs3l)))
   have HBA := hide (HBG.out wo (some ⟨gz, 0, none⟩) (HR3.out.below HB.out) (HP.out.keep (Same'.of_below HBW.out) (fun _ h => h)) (fun _ => ⟨gz, rfl, (HO.out.lt gz rfl).2, fun j v hj => by
    have ho := HO.out
    rw [<- HA.out, jmv] at ho
    have hl : (args.map (gv f.vars)).length = args.length := List.length_map ..
    have hj2 : j < args.length * 3 := by have := (List.getElem?_eq_some_iff.1 hj).1; rw [jb3 jbh, hl] at this; exact this
    have ho2 : World.ownsRow wo w3.heap.size 87 3 (.slice (some ⟨gz, 0, none⟩) args.length args.length) args.length ((args.map (gv f.vars)).flatMap valC) := by
     have t := ho
     unfold OwL OwC at t
     rw [hl] at t
     exact t
    rw [World.ownsRow.cellAt ho2 j hj2]
    exact hj⟩) (Nat.le_trans hbase (Nat.le_trans hs3l HB.out.size)))
   go_wp2_with (go_at_call 40; (with_reducible refine (HBA.out).mono ?_); rintro e w5 ⟨rfl, ⟨va', a', hr5⟩, hb5, hf5⟩; have HR5 := hide hr5; have HB5 := hide hb5; have HF5 := hide hf5; clear hr5 hb5 hf5)
   go_ret
   exact ⟨rfl, ⟨va', a', HR5.out⟩, HBW.out.trans HB5.out, fun b hb hm => (HF5.out b (Nat.lt_of_lt_of_le hb (Nat.le_trans hs3l HB.out.size)) (fun h => hm (HMV.out b h))).trans ((HB.out.block b (Nat.lt_of_lt_of_le hb hs3l)).trans (HF3.out b hb (HMG.out b hm)))⟩
  obtain ⟨z, hz⟩ : ∃ z, args[k]? = some z := ⟨_, List.getElem?_eq_getElem (by have := HA.out; omega)⟩
  obtain ⟨bz, oz, rfl, hbz, hcz, -⟩ := HX.out.get hz
  obtain ⟨kz, rfl, hkz, t0, t1, t2⟩ := HVL.out z (List.mem_of_getElem? hz)
  have bzl : bz < base := hbz
  have HBW := hide (HB3.out.trans (HB.out.mono (Nat.le_trans hbase hs3l)))
  replace hcz := (HBW.out.cell (p := ⟨bz, oz + k, none⟩) hbz).trans hcz
  have hga : ∀ o, wo.cell? ⟨gv', o, none⟩ = w.cell? ⟨gv', o, none⟩ := fun o => ja8 ((HB.out.block gv' (Nat.lt_of_lt_of_le hgvl hs3l)).trans (HF3.out gv' hgvl hng)) o
  replace t0 := (hga _).trans t0
  replace t1 := (hga _).trans t1
  replace t2 := (hga _).trans t2
  have t7 := (HB.out.cell (p := ⟨g, n * 9 + 7, none⟩) (Nat.lt_of_lt_of_le hgl hs3l)).trans T7
  have hal : (jc2 f.vars args k).length = m := by
   have e := HA.out
   rw [jhe _ _ _ (by omega)]
   exact e
  obtain ⟨gz', cz', e9, -, -, -, -, h9⟩ := OwC.formG jbh HO.out (by rw [hal]; omega)
  injection e9 with e9 _ _
  injection e9 with e9
  injection e9 with e9
  subst e9
  obtain ⟨y, hy⟩ : ∃ y, (jc2 f.vars args k)[k]? = some y := ⟨_, List.getElem?_eq_getElem (by rw [hal]; omega)⟩
  obtain ⟨y0, g0⟩ := h9 k y hy 0 (.int .i64 y.n) (by omega) rfl
  replace y0 : wo.cell? ⟨gz, k * 3, none⟩ = some (.int .i64 y.n) := y0
  replace g0 : wo.frozen? ⟨gz, k * 3, none⟩ = false := g0
  obtain ⟨y1, g1⟩ := h9 k y hy 1 (.int .i64 y.o) (by omega) rfl
  obtain ⟨y2, g2⟩ := h9 k y hy 2 (.int .i64 y.a) (by omega) rfl
  have HO2 := hide (OwL.set3 (gv f.vars (kz : Int)) HO.out (by rw [hal]; omega))
  rw [jlm hz] at HO2
  have k1 : (k : Int) < (m : Int) := by omega
  have k2 : (0 : Int) <= (k : Int) := by omega
  have k3 : (kz : Int) < (nv : Int) := by omega
  have k4 : (0 : Int) <= (kz : Int) := by omega
  generalize gv f.vars (kz : Int) = u at *
  clear h9 hy hz hga hbz hal
  go_wp2
  go_roundw
  case rel => exact ⟨k + 1, by omega, by go_num, HO2, hide (jdb HB.out HGZ.out)⟩
  case measure => simp [intOf]; omega
theorem RunP.cast {w : World} {base hc : Nat} {vp va vh ve : Value} {P : List FunV} {s s' : StV} {L : List (FrV × ActW)} {S : Nat -> Prop} (h : RunP w base hc vp P s va vh ve L S) (e : s = s') : RunP w base hc vp P s' va vh ve L S := e ▸ h
theorem js1 (s : StV) : s = { s with heap := s.heap } := by cases s; rfl
theorem jmk {v : List ValV} {i : Nat} {u : ValV} (h : v[i]? = some u) : gv v (i : Int) = u := by unfold gv; rw [Int.toNat_natCast, h]; rfl
def ValA (w : World) (base hc : Nat) (vp va vh ve : Value) (P : List FunV) (s : StV) (L : List (FrV × ActW)) (S : Nat -> Prop) (r : List ObjV × ValV × Nat) (e : Ending) (w' : World) : Prop :=
 e = .returned (.tuple #[.agg #[.int .i64 r.2.1.n, .int .i64 r.2.1.o, .int .i64 r.2.1.a], .int .i64 ((r.2.2 : Nat) : Int)]) /\ (∃ vh' S', RunP w' base hc vp P { s with heap := r.1 } va vh' ve L S' /\ ∀ b, S' b -> S b \/ w.heap.size <= b) /\ Below base w w' /\ ∀ b, b < w.heap.size -> b ≠ hc -> w'.heap[b]? = w.heap[b]?
theorem ValA.low {w : World} {base hc : Nat} {vp va vh ve : Value} {P : List FunV} {s : StV} {L : List (FrV × ActW)} {S : Nat -> Prop} {u : ValV} {k : Nat} {e : Ending} {w' : World} (hR : RunP w base hc vp P s va vh ve L S) (hbase : base <= w.heap.size)
  (he : e = .returned (.tuple #[.agg #[.int .i64 u.n, .int .i64 u.o, .int .i64 u.a], .int .i64 ((k : Nat) : Int)])) (hb : Below w.heap.size w w') : ValA w base hc vp va vh ve P s L S (s.heap, u, k) e w' :=
 ⟨he, ⟨vh, S, (hR.below hb).cast (js1 s), fun _ h => .inl h⟩, hb.mono hbase, fun b h _ => hb.block b h⟩
theorem jo6 (base hc : Nat) (vp va vh ve : Value) (P : List FunV) (s : StV) (L : List (FrV × ActW)) (S : Nat -> Prop) (x : InsV) (i j gv' nv cv : Nat) (u y : ValV) (v : List ValV) (A : Option Addr) (l c : Nat) (w : World) (hR : RunP w base hc vp P s va vh ve L S) (hl : s.heap.length <= 10000) (hbase : base <= w.heap.size)
  (hg : gv' < w.heap.size) (hi : i < nv) (hj : j < nv) (hu : ValAt w gv' i u) (hy : ValAt w gv' j y) (hxa : x.a = (i : Int)) (hxb : x.b = (j : Int)) (hvi : v[i]? = some u) (hvj : v[j]? = some y) :
  Calls Tryz.prog 90 #[.pointer (some ⟨hc, 0, none⟩), .slice (some ⟨gv', 0, none⟩) nv cv, .agg #[.int .i64 x.op, .int .i64 x.d, .int .i64 x.a, .int .i64 x.b, .int .i64 x.n, .int .i64 x.m, .slice A l c]] w (ValA w base hc vp va vh ve P s L S (valR s.heap v x)) := by
 obtain ⟨op, d, xa, xb, xn, xm, args⟩ := x
 have hxa' : xa = (i : Int) := hxa
 have hxb' : xb = (j : Int) := hxb
 subst hxa'
 subst hxb'
 have ga := jmk hvi
 have gb := jmk hvj
 by_cases h10 : op = 10
 ·subst h10
  have e : valR s.heap v ⟨10, d, (i : Int), (j : Int), xn, xm, args⟩ = ((jb7 s.heap xn xm).1, ⟨0, (jb7 s.heap xn xm).2.1, 0⟩, (jb7 s.heap xn xm).2.2) := by unfold valR; simp
  rw [e]
  exact jk4 base hc vp va vh ve P s L S d xn xm i j gv' nv cv u y A l c w hR hl hbase hg hi hj hu hy
 by_cases h11 : op = 11
 ·subst h11
  have e : valR s.heap v ⟨11, d, (i : Int), (j : Int), xn, xm, args⟩ = (s.heap, ⟨(jbb s.heap u.o xn).1, 0, 0⟩, (jbb s.heap u.o xn).2) := by unfold valR; simp [ga, gb]
  rw [e]
  exact (jk3 base hc vp va vh ve P s L S d xn xm i j gv' nv cv u y A l c w hR hl hbase hg hi hj hu hy).mono fun e w' h => ValA.low hR hbase h.1 h.2
 by_cases h17 : op = 17
 ·subst h17
  have e : valR s.heap v ⟨17, d, (i : Int), (j : Int), xn, xm, args⟩ = (s.heap, ⟨(jbb s.heap u.o u.a).1, 0, 0⟩, (jbb s.heap u.o u.a).2) := by unfold valR; simp [ga, gb]
  rw [e]
  exact (jjz base hc vp va vh ve P s L S d xn xm i j gv' nv cv u y A l c w hR hl hbase hg hi hj hu hy).mono fun e w' h => ValA.low hR hbase h.1 h.2
 by_cases h13 : op = 13
 ·subst h13
  have e : valR s.heap v ⟨13, d, (i : Int), (j : Int), xn, xm, args⟩ = (s.heap, ⟨0, (refR s.heap u.o xn).1, 0⟩, (refR s.heap u.o xn).2) := by unfold valR; simp [ga, gb]
  rw [e]
  exact (jk2 base hc vp va vh ve P s L S d xn xm i j gv' nv cv u y A l c w hR hl hbase hg hi hj hu hy).mono fun e w' h => ValA.low hR hbase h.1 h.2
 by_cases h15 : op = 15
 ·subst h15
  have e : valR s.heap v ⟨15, d, (i : Int), (j : Int), xn, xm, args⟩ = (s.heap, (derR u xn).1, (derR u xn).2) := by unfold valR; simp [ga, gb]
  rw [e]
  exact (jk1 base hc vp va vh ve P s L S d xn xm i j gv' nv cv u y A l c w hR hl hbase hg hi hj hu hy).mono fun e w' h => ValA.low hR hbase h.1 h.2
 by_cases h16 : op = 16
 ·subst h16
  have e : valR s.heap v ⟨16, d, (i : Int), (j : Int), xn, xm, args⟩ = (s.heap, ⟨0, u.o, wrap64 (u.a + xn)⟩, 0) := by unfold valR; simp [ga, gb]
  rw [e]
  exact (jk0 base hc vp va vh ve P s L S d xn xm i j gv' nv cv u y A l c w hR hl hbase hg hi hj hu hy).mono fun e w' h => ValA.low hR hbase h.1 h.2
 by_cases h2 : op = 2
 ·subst h2
  have e : valR s.heap v ⟨2, d, (i : Int), (j : Int), xn, xm, args⟩ = (s.heap, u, 0) := by unfold valR; simp [ga, gb]
  rw [e]
  exact (jlz base hc vp va vh ve P s L S d xn xm i j gv' nv cv u y A l c w hR hl hbase hg hi hj hu hy).mono fun e w' h => ValA.low hR hbase h.1 h.2
 by_cases h7 : op = 7
 ·subst h7
  have e : valR s.heap v ⟨7, d, (i : Int), (j : Int), xn, xm, args⟩ = (s.heap, vZ, 0) := by unfold valR; simp [ga, gb]
  rw [e]
  exact (jly base hc vp va vh ve P s L S d xn xm i j gv' nv cv u y A l c w hR hl hbase hg hi hj hu hy).mono fun e w' h => ValA.low hR hbase h.1 h.2
 have e : valR s.heap v ⟨op, d, (i : Int), (j : Int), xn, xm, args⟩ = (s.heap, ⟨numR u y ⟨op, d, (i : Int), (j : Int), xn, xm, args⟩, 0, 0⟩, 0) := by
  unfold valR
  rw [if_neg h10, if_neg h11, if_neg h17, if_neg h13, if_neg h15, if_neg h16, if_neg h2, if_neg h7]
  simp [ga, gb]
 rw [e]
 exact (jlx base hc vp va vh ve P s L S op d xn xm i j gv' nv cv u y A l c w hR hl hbase hg hi hj hu hy ⟨h10, h11, h17, h13, h15, h16, h2, h7⟩).mono fun e w' h => ValA.low hR hbase h.1 h.2
def StoA (w : World) (base hc : Nat) (vp va vh ve : Value) (P : List FunV) (s : StV) (L : List (FrV × ActW)) (S : Nat -> Prop) (r : List ObjV × Nat) (e : Ending) (w' : World) : Prop :=
 e = .returned (.int .i64 ((r.2 : Nat) : Int)) /\ (∃ vh' S', RunP w' base hc vp P { s with heap := r.1 } va vh' ve L S' /\ ∀ b, S' b -> S b \/ w.heap.size <= b) /\ Below base w w' /\ ∀ b, b < w.heap.size -> b ≠ hc -> w'.heap[b]? = w.heap[b]?
theorem jm0 (base hc : Nat) (vp va vh ve : Value) (P : List FunV) (s : StV) (L : List (FrV × ActW)) (S : Nat -> Prop) (x : InsV) (i j gv' nv cv : Nat) (u y : ValV) (v : List ValV) (A : Option Addr) (l c : Nat) (w : World) (hR : RunP w base hc vp P s va vh ve L S) (hl : s.heap.length <= 10000) (hbase : base <= w.heap.size)
  (hg : gv' < w.heap.size) (hi : i < nv) (hj : j < nv) (hu : ValAt w gv' i u) (hy : ValAt w gv' j y) (hxa : x.a = (i : Int)) (hxb : x.b = (j : Int)) (hvi : v[i]? = some u) (hvj : v[j]? = some y) (hyn : i64R y.n) (hyo : i64R y.o) (hop : x.op = 12 \/ x.op = 14 \/ x.op = 18) :
  Calls Tryz.prog 86 #[.pointer (some ⟨hc, 0, none⟩), .slice (some ⟨gv', 0, none⟩) nv cv, .agg #[.int .i64 x.op, .int .i64 x.d, .int .i64 x.a, .int .i64 x.b, .int .i64 x.n, .int .i64 x.m, .slice A l c]] w (StoA w base hc vp va vh ve P s L S (jdf s.heap v x)) := by
 obtain ⟨op, d, xa, xb, xn, xm, args⟩ := x
 have hxa' : xa = (i : Int) := hxa
 have hxb' : xb = (j : Int) := hxb
 subst hxa'
 subst hxb'
 have ga := jmk hvi
 have gb := jmk hvj
 rcases hop with h | h | h
 ·have h' : op = 12 := h
  subst h'
  have e : jdf s.heap v ⟨12, d, (i : Int), (j : Int), xn, xm, args⟩ = jb6 s.heap u.o xn y.n := by unfold jdf; simp [ga, gb]
  rw [e]
  exact jk7 base hc vp va vh ve P s L S d xn xm i j gv' nv cv u y A l c w hR hl hbase hg hi hj hu hy hyn
 ·have h' : op = 14 := h
  subst h'
  have e : jdf s.heap v ⟨14, d, (i : Int), (j : Int), xn, xm, args⟩ = jcr s.heap u.o xn y.o := by unfold jdf; simp [ga, gb]
  rw [e]
  exact jk6 base hc vp va vh ve P s L S d xn xm i j gv' nv cv u y A l c w hR hl hbase hg hi hj hu hy hyo
 ·have h' : op = 18 := h
  subst h'
  have e : jdf s.heap v ⟨18, d, (i : Int), (j : Int), xn, xm, args⟩ = jb6 s.heap u.o u.a y.n := by unfold jdf; simp [ga, gb]
  rw [e]
  exact jk5 base hc vp va vh ve P s L S d xn xm i j gv' nv cv u y A l c w hR hl hbase hg hi hj hu hy hyn
end Go.Proofs.YthbnbaikdcfbmaaGreatDoor
