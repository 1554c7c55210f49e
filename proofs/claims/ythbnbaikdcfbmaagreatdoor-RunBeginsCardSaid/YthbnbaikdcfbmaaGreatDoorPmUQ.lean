/- Texts of several names, of which only what the statement needs is kept. -/
import Derived.Test.YthbnbaikdcfbmaaGreatDoorPmUO
set_option linter.unusedSimpArgs false
set_option linter.unusedVariables false
set_option maxHeartbeats 4000000
set_option maxRecDepth 100000
namespace Go.Proofs.YthbnbaikdcfbmaaGreatDoor
open Go.RowKit
theorem doS_stk (P : List FunV) (l : List FrV) (f : FrV) (x : InsV) (s : StV) (k : List FrV) : doS P l f x { s with stk := k } = doS P l f x s := by
 unfold doS jlj ansS
 repeat' (first | rfl | split)
theorem rdo_any (base hc : Nat) (vp va vh ve : Value) (P : List FunV) (s : StV) (L : List (FrV × ActW)) (f : FrV) (a : ActW) (S : Nat -> Prop) (x : InsV) (F : FunV) (A : Option Addr) (m c : Nat) (w : World) (hR : RunP w base hc vp P s va vh ve (L ++ [(f, a)]) S) (hst : s.stk = L.map Prod.fst ++ [f]) (hL : L.length < 60) (hbase : base <= w.heap.size)
  (hx : InOk P F x) (hf : f.vars.length = F.kinds.length) (hvs : ∀ u ∈ f.vars, VOk s.heap.length u) (hl : s.heap.length <= 10000) (hel : s.ev.length <= 10000) (hw : ∀ p ∈ L, 0 <= p.1.want /\ p.1.want < p.1.vars.length) (hp : FunsV w (· < base) vp P) (hk : ∀ G ∈ P, G.kinds.length <= 48) (ham : x.args.length = m) (hxa : IntsV w (· < base) (.slice A m c) x.args) :
  Calls Tryz.prog 67 #[.pointer (some ⟨hc, 0, none⟩), .agg #[.int .i64 x.op, .int .i64 x.d, .int .i64 x.a, .int .i64 x.b, .int .i64 x.n, .int .i64 x.m, .slice A m c]] w (DoA w base hc vp P S (doS P (L.map Prod.fst) f x s)) := by
 have hr : ∀ u ∈ f.vars, i64R u.n /\ i64R u.o := fun u hu => by
  have h := hvs u hu
  exact ⟨h.1, ⟨by have := h.2.1.1; omega, by have := h.2.1.2; omega⟩⟩
 have hrng := hx.rng
 by_cases h21 : x.op = 21
 ·exact rdoD_any base hc vp va vh ve P s L f a S x A m c w hR hst hL hbase h21 (hx.jump (.inl h21)).1
 by_cases h19 : x.op = 19
 ·have hd := hx.d (by omega)
  obtain ⟨hn, G, hG, hga, -⟩ := hx.call h19
  exact rdoB_any base hc vp va vh ve P s L f a S x A m c w hR hst hL hbase (by omega) h19 hp G hn hG (hk G (List.mem_of_getElem? hG)) ham (by omega) hxa (fun z hz => by have := hx.args h19 z hz; omega)
 have ha := hx.a (by omega)
 have hv0 : 0 < f.vars.length := by omega
 have ha' : 0 <= x.a /\ x.a < f.vars.length := by omega
 by_cases h20 : x.op = 20
 ·exact rdoC_any base hc vp va vh ve P s L f a S x A m c w hR hst hL hbase hv0 h20 ha' hel
 by_cases h22 : x.op = 22
 ·exact rdoE_any base hc vp va vh ve P s L f a S x A m c w hR hst hL hbase hv0 h22 ha' ⟨(hx.jump (.inr h22)).1, (hx.other h22).1⟩
 by_cases h23 : x.op = 23
 ·exact rdoF_any base hc vp va vh ve P s L f a S x A m c w hR hst hL hbase hv0 h23 ha' hw
 have hb := hx.b (by omega)
 have hb' : 0 <= x.b /\ x.b < f.vars.length := by omega
 by_cases hA : x.op = 12 \/ x.op = 14 \/ x.op = 18
 ·exact rdoA_any base hc vp va vh ve P s L f a S x A m c w hR hst hL hbase hv0 hA ha' hb' hr hl
 have hd := hx.d (by omega)
 exact rdoG_any base hc vp va vh ve P s L f a S x A m c w hR hst hL hbase hv0 (by omega) ha' hb' (by omega) hl
def StepA (w : World) (base hc : Nat) (vp : Value) (P : List FunV) (S : Nat -> Prop) (s : StV) (e : Ending) (w' : World) : Prop :=
 e = .returned (.tuple #[]) /\ (∃ va' vh' ve' L' S', RunP w' base hc vp P s va' vh' ve' L' S' /\ ∀ b, S' b -> S b \/ base <= b) /\ Below base w w'
theorem jpp (base hc : Nat) (vp va vh ve : Value) (P : List FunV) (s : StV) (L : List (FrV × ActW)) (S : Nat -> Prop) (w : World) (hR : RunP w base hc vp P s va vh ve L S) (hI : InvR P s) (h0 : s.en = 0) (hp : FunsV w (· < base) vp P) (hP : jad P = true) (hs : s.steps < 5000) (hbase : base <= w.heap.size) :
  Calls Tryz.prog 41 #[.pointer (some ⟨hc, 0, none⟩)] w (StepA w base hc vp P S (jg0 P s)) := by
 obtain ⟨l, f, hst, hlen, hwl, F, hF⟩ := hI.go h0
 obtain ⟨hFm, hx, -⟩ := hF.all hP
 obtain ⟨-, -, -, hall⟩ := jal hP
 have hk : ∀ G ∈ P, G.kinds.length <= 48 := fun G hG => (jah (hall G hG)).1.2.1
 have hpl : f.pl < 1000 := by
  have h1 := hF.pl
  have h2 := (jj1 hP hFm hF.bl hF.ins).2.2
  have h3 := ((jah (hall F hFm)).2.2.2.1.2.2 _ h2).2.1
  omega
 have hmap : L.map Prod.fst = l ++ [f] := by rw [<- hR.stk]; exact hst
 obtain ⟨L0, f0, rfl⟩ : ∃ L0 q, L = L0 ++ [q] := by
  rcases List.eq_nil_or_concat L with rfl | ⟨L0, q, rfl⟩
  ·simp at hmap
  ·exact ⟨L0, q, by rw [List.concat_eq_append]⟩
 obtain ⟨f', a⟩ := f0
 rw [List.map_append, List.map_cons, List.map_nil] at hmap
 obtain ⟨hl0, hf'⟩ := List.append_inj' hmap rfl
 injection hf' with hf' _
 subst hf'
 subst hl0
 have hlL : L0.length < 60 := by simpa using hlen
 rw [jim hst]
 have hw : ∀ p ∈ L0, 0 <= p.1.want /\ p.1.want < p.1.vars.length := fun p hp => by
  obtain ⟨-, -, x, -, -, h1, h2, h3⟩ := hwl p.1 (List.mem_map.2 ⟨p, hp, rfl⟩)
  rw [h1]
  exact ⟨h2, h3⟩
 have HH := hide (hR.head 7 (.int .i64 ((s.steps + 1 : Nat) : Int)) { s with steps := s.steps + 1 } rfl rfl rfl rfl)
 have HFE := hide (fun (W : World) (hW : RunP W base hc vp P { s with steps := s.steps + 1 } va vh ve (L0 ++ [(f', a)]) S) (hb : base <= W.heap.size) => jo9 base hc vp va vh ve P _ L0 f' a F s.heap.length S W hW hF (by omega) hb hpl)
 have HDO := hide (fun (W : World) (A : Option Addr) (c : Nat) (hW : RunP W base hc vp P { s with steps := s.steps + 1, stk := L0.map Prod.fst ++ [{ f' with pl := f'.pl + 1 }] } va vh ve (L0 ++ [({ f' with pl := f'.pl + 1 }, a)]) S) (hb : base <= W.heap.size) (hp' : FunsV W (· < base) vp P) (hxa : IntsV W (· < base) (.slice A (jbz P f').args.length c) (jbz P f').args) => (show Calls Tryz.prog 67 _ W (DoA W base hc vp P S (doS P (L0.map Prod.fst) { f' with pl := f'.pl + 1 } (jbz P f') { s with steps := s.steps + 1 })) from by
  have t := rdo_any base hc vp va vh ve P _ L0 { f' with pl := f'.pl + 1 } a S (jbz P f') F A _ c W hW rfl hlL hb hx hF.len hF.vs (by have := hI.hl; show s.heap.length <= 10000; omega) (by have := hI.el; show s.ev.length <= 10000; omega) hw hp' hk rfl hxa
  rw [show ({ s with steps := s.steps + 1, stk := L0.map Prod.fst ++ [{ f' with pl := f'.pl + 1 }] } : StV) = { ({ s with steps := s.steps + 1 } : StV) with stk := L0.map Prod.fst ++ [{ f' with pl := f'.pl + 1 }] } from rfl, doS_stk] at t
  exact t))
 obtain ⟨r, hr⟩ := zl (doS P (L0.map Prod.fst) { f' with pl := f'.pl + 1 } (jbz P f') { s with steps := s.steps + 1 })
 rw [hr] at HDO ⊢
 have HP := hide hp
 have c7 := hR.box.cell 7 (v := .int .i64 (s.steps : Int)) rfl
 obtain ⟨c7, c7f⟩ := c7
 have hhc := hR.box.lt
 have hbh := hR.hb
 have e1 := jhq s.steps (by omega)
 have e2 := jl1 s.steps (by omega)
 generalize jbz P f' = x at *
 obtain ⟨st, hst'⟩ := zl s.steps
 have HST := hide hst'
 rw [hst'] at c7 e1 e2 hs
 obtain ⟨r1, k⟩ := r
 clear hR hI hst hlen hwl hF hFm hx hall hk hpl hmap hw hp hP hr hst'
 go_enter Tryz.func41, Tryz.ntmps41
 go_upto_region 1 with (fail)
 obtain ⟨w1, hw1⟩ := zr (w.setCell ⟨hc, 7, none⟩ (.int .i64 ((st : Int) + 1)))
 have HR1 := hide (show RunP w1 base hc vp P { s with steps := s.steps + 1 } va vh ve (L0 ++ [(f', a)]) S by rw [hw1, <- HST.out]; exact HH.out)
 have HB1 := hide (show Below base w w1 by rw [hw1]; exact (Below.refl _ _).setCell (p := ⟨hc, 7, none⟩) hbh _)
 have hb1 : base <= w1.heap.size := Nat.le_trans hbase HB1.out.size
 rw [<- hw1]
 clear hw1 c7 c7f e1 e2
 go_upto_region 2 with (first
  | (go_at_call 67; (with_reducible refine (HDO.out w2 A2 c2 HR2.out hb2' (HP.out.keep (Same'.of_below HB2.out) (fun _ h => h)) HI2.out).mono ?_); rintro e w3 ⟨rfl, ⟨va', vh', ve', L', S', hr3, hs3⟩, hb3⟩; have HR3 := hide hr3; have HS3 := hide hs3; have HB3 := hide (HB2.out.trans hb3); clear hr3 hs3 hb3)
  | (go_at_call 68; (with_reducible refine (HFE.out w1 HR1.out hb1).mono ?_); rintro e w2 ⟨A2, c2, rfl, hi2, hr2, hb2⟩; have HI2 := hide hi2.1; have HR2 := hide hr2; have HB2 := hide (HB1.out.trans hb2); have hb2' : base <= w2.heap.size := Nat.le_trans hbase HB2.out.size; clear hi2 hr2 hb2))
 by_cases hk : k = 0
 ·subst hk
  go_wp2
  go_end0
  exact ⟨rfl, ⟨va', vh', ve', L', S', HR3.out.cast (by unfold endS; rw [if_pos rfl]), HS3.out⟩, HB3.out⟩
 ·have hk2 : (((k : Nat) : Int) != 0) = true := by simpa using hk
  obtain ⟨x4, f4⟩ := HR3.out.box.cell 4 (v := .int .i64 (r1.en : Int)) rfl
  obtain ⟨x6, f6⟩ := HR3.out.box.cell 6 (v := .int .i64 (r1.code : Int)) rfl
  go_wp2
  go_end0
  exact ⟨rfl, ⟨va', vh', ve', L', S', ((HR3.out.head 4 (.int .i64 2) { r1 with en := 2 } rfl rfl rfl rfl).head 6 (.int .i64 (k : Int)) { r1 with en := 2, code := k } rfl rfl rfl rfl).cast (by unfold endS; rw [if_neg hk]), HS3.out⟩, (HB3.out.setCell (p := ⟨hc, 4, none⟩) hbh _).setCell (p := ⟨hc, 6, none⟩) hbh _⟩
theorem Box.set8 {w : World} {h : Nat} {T : TypeId} {a0 a1 a2 a3 a4 a5 a6 a7 : Value} (v0 v1 v2 v3 v4 v5 v6 v7 : Value) (b : Box w h #[a0, a1, a2, a3, a4, a5, a6, a7] T) : Box ((((((((w.setCell ⟨h, 0, none⟩ v0).setCell ⟨h, 1, none⟩ v1).setCell ⟨h, 2, none⟩ v2).setCell ⟨h, 3, none⟩ v3).setCell ⟨h, 4, none⟩ v4).setCell ⟨h, 5, none⟩ v5).setCell ⟨h, 6, none⟩ v6).setCell ⟨h, 7, none⟩ v7) h #[v0, v1, v2, v3, v4, v5, v6, v7] T := by
 have t0 : Box (w.setCell ⟨h, 0, none⟩ v0) h #[v0, a1, a2, a3, a4, a5, a6, a7] T := by have t := b.set 0 v0; simpa using t
 have t1 : Box ((w.setCell ⟨h, 0, none⟩ v0).setCell ⟨h, 1, none⟩ v1) h #[v0, v1, a2, a3, a4, a5, a6, a7] T := by have t := t0.set 1 v1; simpa using t
 have t2 : Box (((w.setCell ⟨h, 0, none⟩ v0).setCell ⟨h, 1, none⟩ v1).setCell ⟨h, 2, none⟩ v2) h #[v0, v1, v2, a3, a4, a5, a6, a7] T := by have t := t1.set 2 v2; simpa using t
 have t3 : Box ((((w.setCell ⟨h, 0, none⟩ v0).setCell ⟨h, 1, none⟩ v1).setCell ⟨h, 2, none⟩ v2).setCell ⟨h, 3, none⟩ v3) h #[v0, v1, v2, v3, a4, a5, a6, a7] T := by have t := t2.set 3 v3; simpa using t
 have t4 : Box (((((w.setCell ⟨h, 0, none⟩ v0).setCell ⟨h, 1, none⟩ v1).setCell ⟨h, 2, none⟩ v2).setCell ⟨h, 3, none⟩ v3).setCell ⟨h, 4, none⟩ v4) h #[v0, v1, v2, v3, v4, a5, a6, a7] T := by have t := t3.set 4 v4; simpa using t
 have t5 : Box ((((((w.setCell ⟨h, 0, none⟩ v0).setCell ⟨h, 1, none⟩ v1).setCell ⟨h, 2, none⟩ v2).setCell ⟨h, 3, none⟩ v3).setCell ⟨h, 4, none⟩ v4).setCell ⟨h, 5, none⟩ v5) h #[v0, v1, v2, v3, v4, v5, a6, a7] T := by have t := t4.set 5 v5; simpa using t
 have t6 : Box (((((((w.setCell ⟨h, 0, none⟩ v0).setCell ⟨h, 1, none⟩ v1).setCell ⟨h, 2, none⟩ v2).setCell ⟨h, 3, none⟩ v3).setCell ⟨h, 4, none⟩ v4).setCell ⟨h, 5, none⟩ v5).setCell ⟨h, 6, none⟩ v6) h #[v0, v1, v2, v3, v4, v5, v6, a7] T := by have t := t5.set 6 v6; simpa using t
 have t7 : Box ((((((((w.setCell ⟨h, 0, none⟩ v0).setCell ⟨h, 1, none⟩ v1).setCell ⟨h, 2, none⟩ v2).setCell ⟨h, 3, none⟩ v3).setCell ⟨h, 4, none⟩ v4).setCell ⟨h, 5, none⟩ v5).setCell ⟨h, 6, none⟩ v6).setCell ⟨h, 7, none⟩ v7) h #[v0, v1, v2, v3, v4, v5, v6, v7] T := by have t := t6.set 7 v7; simpa using t
 exact t7
theorem OwC.sl3 {β : Type} {c : β -> List Value} {T : TypeId} {sz : Nat} {w : World} {base : Nat} {v : Value} {l : List β} (h : OwC c T sz w base v l) : ∃ A n k, v = .slice A n k := by
 rcases h.2 with ⟨rfl, -⟩ | ⟨g, cap, cur, rfl, -⟩
 ·exact ⟨_, _, _, rfl⟩
 ·exact ⟨_, _, _, rfl⟩
theorem jcw {P : List FunV} (h : ChkR P 0) : jad P = true := by
 unfold ChkR at h
 rcases h with ⟨-, h0⟩ | ⟨-, -, h0⟩ | ⟨-, -, -, h0⟩ | ⟨-, -, -, -, h0⟩ | ⟨h1, -⟩
 ·omega
 ·omega
 ·omega
 ·omega
 ·exact h1
def jsx (w3 : World) (hc : Nat) (vp : Value) (P : List FunV) (fin : StV) (F K : Nat) (wr : World) : Prop :=
 ∃ s va vh ve L S k, k = K /\ RunP wr hc hc vp P s va vh ve L S /\ InvR P s /\ goS P k s = fin /\ s.steps + k = F /\ (∀ b, S b -> hc <= b) /\ Below hc w3 wr
def AftA (w : World) (vp : Value) (s : StV) (e : Ending) (w' : World) : Prop :=
 ∃ va vh ve, e = .returned (.agg #[vp, va, vh, ve, .int .i64 (s.en : Int), .int .i64 s.val, .int .i64 (s.code : Int), .int .i64 (s.steps : Int)]) /\ ObjsV w' (fun b => w.heap.size <= b /\ b < w'.heap.size) vh s.heap /\ IntsV w' (fun b => w.heap.size <= b /\ b < w'.heap.size) ve s.ev /\ Below w.heap.size w w'
theorem jfe (vp : Value) (P : List FunV) (fuel : Int) (w : World) (B : Nat) (hB : B <= w.heap.size) (hp : FunsV w (· < B) vp P) (hT : TabP w) (hRw : RowP w) (hf : jaz P) (hC : ∀ n, ChkR P n -> n = 0) (hP : jad P = true) (hRR : RunR P) :
  Calls Tryz.prog 24 #[.agg #[vp], .int .i64 fuel] w (AftA w vp (runS P fuel)) := by
 have HCK := hide (fun (W : World) (hW : Below w.heap.size w W) => (show Calls Tryz.prog 39 #[.agg #[vp]] W fun e w' => e = .returned (.int .i64 0) /\ Below W.heap.size W w' from (jor P vp W B (by have := hW.size; omega) (hp.keep (up hW hB) (fun _ h => h)) (hT.below hW hT.1) (hRw.below hW hRw.1) hf).mono fun e w' ⟨n, he, hn, hb⟩ => by
  obtain rfl := hC _ hn
  exact ⟨he, hb⟩))
 obtain ⟨mm, hmm⟩ : ∃ mm : Int, min fuel 4000 = mm := ⟨_, rfl⟩
 obtain ⟨F, hF⟩ : ∃ F : Nat, mm.toNat = F := ⟨_, rfl⟩
 have hF4 : F <= 4000 := by omega
 have hrun : runS P fuel = goS P F (jc0 P) := by unfold runS; rw [hmm, hF]
 rw [hrun]
 obtain ⟨fin, hfin⟩ := zl (goS P F (jc0 P))
 rw [hfin]
 obtain ⟨h1, -, -, hall⟩ := jal hP
 obtain ⟨G, hG⟩ : ∃ G, P[0]? = some G := ⟨_, List.getElem?_eq_getElem h1⟩
 have hGk := (jah (hall G (List.mem_of_getElem? hG))).1.2.1
 have HBG := hide (fun (W : World) (hc : Nat) (hR : RunP W hc hc vp P ⟨[], [], [], 0, 0, 0, 0⟩ (.slice none 0 0) (.slice none 0 0) (.slice none 0 0) [] (fun _ => False)) (hp' : FunsV W (· < hc) vp P) (hb : hc <= W.heap.size) => jhz hc hc vp _ _ _ P _ [] (fun _ => False) 0 0 0 none [] G W hR hp' hG hGk rfl (by omega) (fun h => absurd h (by omega)) (by simp) hb)
 have HI0 := hide (jf7 hP)
 have HST := hide (fun (W : World) (hc : Nat) (va vh ve : Value) (s : StV) (L : List (FrV × ActW)) (S : Nat -> Prop) (hR : RunP W hc hc vp P s va vh ve L S) (hI : InvR P s) (h0 : s.en = 0) (hp' : FunsV W (· < hc) vp P) (hs : s.steps < 5000) (hb : hc <= W.heap.size) => jpp hc hc vp va vh ve P s L S W hR hI h0 hp' hP hs hb)
 have HIS := hide (fun (s : StV) (hI : InvR P s) (h0 : s.en = 0) (hs : s.steps < 100000) => And.intro (jgc hP hRR hs hI h0) (je7 hI h0))
 have HP := hide hp
 have HFIN := hide hfin
 have HBB := hide hB
 have hmin : (fuel <= 4000 /\ mm = fuel) \/ (¬ fuel <= 4000 /\ mm = 4000) := by omega
 have HMM := hide (And.intro hF (And.intro hmm hmin))
 obtain ⟨Ap, cp, rfl, -, -⟩ := hp.open'
 obtain ⟨pl, hpl⟩ := zl P.length
 rw [hpl] at HCK HBG HST HP
 rw [hpl]
 clear hp hT hRw hf hC hRR hP hrun hfin h1 hall hG hGk hpl hmm hF hB
 have go : ∀ (hmx : (fuel <= 4000 /\ mm = fuel) \/ (¬ fuel <= 4000 /\ mm = 4000)), Calls Tryz.prog 24 #[.agg #[.slice Ap pl cp], .int .i64 fuel] w (AftA w (.slice Ap pl cp) fin) := by
  intro hmx
  clear hmin
  go_enter Tryz.func24, Tryz.ntmps24
  go_upto_region 1 with (fail)
  obtain ⟨w1, hw1⟩ := zr ((w.alloc (.cells #[.slice Ap pl cp] 24)).alloc (.cells #[.slice none 0 0, .slice none 0 0, .slice none 0 0, .slice none 0 0, .int .i64 0, .int .i64 0, .int .i64 0, .int .i64 0] 67))
  obtain ⟨h5, hh5⟩ := zl w.heap.size
  have HX0 := zy2 hw1 hh5
  have HX1 := zx2 hw1 hh5
  have HB1 := zb2 hw1
  have h5g : w.heap.size <= h5 := by omega
  obtain ⟨p0, -⟩ := HX0.out.cell 0 (v := .slice Ap pl cp) rfl
  rw [<- hw1, hh5]
  clear hw1 hh5
  go_upto_region 3 with (go_at_call 39; (with_reducible refine (HCK.out w1 HB1.out).mono ?_); rintro e w2 ⟨rfl, hb2⟩; have HB2 := hide (HB1.out.trans (hb2.mono HB1.out.size)); have HX2 := hide (HX1.out.below hb2); have HX20 := hide (HX0.out.below hb2); clear hb2 p0)
  obtain ⟨p0, -⟩ := HX20.out.cell 0 (v := .slice Ap pl cp) rfl
  have lx2 := HX2.out.lt
  go_upto_region 4 with (fail)
  obtain ⟨hc, hhc⟩ := zl w2.heap.size
  obtain ⟨w3, hw3⟩ := zr (w2.alloc (.cells #[.slice Ap pl cp, .slice none 0 0, .slice none 0 0, .slice none 0 0, .int .i64 0, .int .i64 0, .int .i64 0, .int .i64 0] 67))
  have HB3 := hide (show Below hc w2 w3 by rw [hw3, <- hhc]; exact ja4 w2 _)
  have HBX := zx1 hw3 hhc
  have HBW := hide (show Below w.heap.size w w3 from HB2.out.trans (HB3.out.mono (by rw [<- hhc]; exact HB2.out.size)))
  have hwc : w.heap.size <= hc := by rw [<- hhc]; exact HB2.out.size
  have HR3 := hide (show RunP w3 hc hc (.slice Ap pl cp) P ⟨[], [], [], 0, 0, 0, 0⟩ (.slice none 0 0) (.slice none 0 0) (.slice none 0 0) [] (fun _ => False) from ⟨HBX.out, rfl, OwC.nil _ _, by simp, by simp, Vec.nil _ _ _, fun b h => h.elim, Ow.nil _ _ _ _, Nat.le_refl _⟩)
  have HPK := hide (fun (W : World) (hW : Below hc w3 W) => (show FunsV W (· < hc) (.slice Ap pl cp) P from HP.out.keep (fun b o hb => (hW.cell (p := ⟨b, o, none⟩) (by have : b < B := hb; have := HBB.out; show b < hc; omega)).trans (HBW.out.cell (p := ⟨b, o, none⟩) (by have : b < B := hb; have := HBB.out; show b < w.heap.size; omega))) (fun b hb => by have : b < B := hb; have := HBB.out; show b < hc; omega)))
  have hcs : hc <= w3.heap.size := Nat.le_of_lt HBX.out.lt
  have hx1 : h5 + 1 < hc := by omega
  have HXK := hide (fun (W : World) (hW : Below hc w3 W) => (show Box W (h5 + 1) #[.slice none 0 0, .slice none 0 0, .slice none 0 0, .slice none 0 0, .int .i64 0, .int .i64 0, .int .i64 0, .int .i64 0] 67 from (hW.block _ hx1).trans ((HB3.out.block _ hx1).trans HX2.out)))
  rw [<- hw3, hhc]
  clear hw3 hhc p0 lx2
  go_wp2_with (go_at_call 40; (refine (HBG.out w3 hc HR3.out (HPK.out w3 (Below.refl _ _)) hcs).mono ?_); rintro e w4 ⟨rfl, ⟨va, a4, hr4⟩, hb4, -⟩; have HL0 := hide (show jsx w3 hc (.slice Ap pl cp) P fin F F w4 from ⟨jc0 P, va, _, _, _, _, F, rfl, hr4.cast rfl, HI0.out, HFIN.out, Nat.zero_add _, fun b h => h.elim, hb4⟩); clear hr4 hb4)
  go_loopg [] F (fun k wr => jsx w3 hc (.slice Ap pl cp) P fin F k wr)
  case atStart => exact HL0.out
  case round =>
   obtain ⟨s, va, vh, ve, L, S, k, hkK, hR, hI, hgo, hk, hS, hb⟩ := hrel
   have HR := hide hR
   have HII := hide hI
   have HGO := hide hgo
   have HSK := hide (And.intro hk hS)
   have HB := hide hb
   have hlt := hR.box.lt
   have x7 := (hR.box.cell 7 (v := .int .i64 (s.steps : Int)) rfl).1
   have x4 := (hR.box.cell 4 (v := .int .i64 (s.en : Int)) rfl).1
   obtain ⟨hF1, -, -⟩ := HMM.out
   by_cases hgo1 : (s.steps : Int) < mm /\ s.en = 0
   ·obtain ⟨g1, g2⟩ := hgo1
    have hen : ((s.en : Nat) : Int) = 0 := by omega
    rw [hen] at x4
    have HST1 := hide (HST.out wr hc va vh ve s L S hR hI g2 (HPK.out wr hb) (by omega) (Nat.le_trans hcs hb.size))
    obtain ⟨k', rfl⟩ : ∃ k', k = k' + 1 := ⟨k - 1, by omega⟩
    have HNX := hide (show goS P k' (jg0 P s) = fin by have t := hgo; unfold goS at t; rw [if_pos g2] at t; exact t)
    have HIN := hide (HIS.out s hI g2 (by omega))
    obtain ⟨m1, m2⟩ | ⟨m1, m2⟩ := hmx
    all_goals
     have g1' := g1
     rw [m2] at g1'
     clear hR hI hgo hk hS hb hF1 g1 hen
     go_wp2_with (go_at_call 41; (with_reducible refine HST1.out.mono ?_); rintro e w5 ⟨rfl, ⟨va', vh', ve', L', S', hr5, hs5⟩, hb5⟩; have HL5 := hide (show jsx w3 hc (.slice Ap pl cp) P fin F k' w5 from ⟨jg0 P s, va', vh', ve', L', S', k', rfl, hr5, HIN.out.1, HNX.out, by rw [HIN.out.2]; have := HSK.out.1; omega, fun b h => by rcases hs5 b h with h | h; exact HSK.out.2 b h; exact h, HB.out.trans hb5⟩); clear hr5 hs5 hb5)
     go_roundg k'
     case measure => omega
     case rel => exact HL5.out
   ·have hfs : s = fin := by
     rw [<- hgo]
     by_cases g2 : s.en = 0
     ·have hk0 : k = 0 := by omega
      subst hk0
      rfl
     ·exact (go_stop g2 k).symm
    subst hfs
    obtain ⟨Aa, na, ca, rfl⟩ := hR.acts.sl3
    obtain ⟨Ah, ch, rfl, -⟩ := hR.objs
    obtain ⟨Ae, ce, rfl, -⟩ := hR.evs.sl
    have HOF := hide (fun (W : World) (hk : ∀ b, hc <= b -> W.heap[b]? = wr.heap[b]?) (hs : wr.heap.size <= W.heap.size) => And.intro (show ObjsV W (fun b => w.heap.size <= b /\ b < W.heap.size) (.slice Ah s.heap.length ch) s.heap from hR.objs.keep (fun b o hs => ja8 (hk b (hS b hs)) o) (fun b hs' => ⟨Nat.le_trans hwc (hS b hs'), Nat.lt_of_lt_of_le (hR.sin b hs').1 hs⟩)) (show IntsV W (fun b => w.heap.size <= b /\ b < W.heap.size) (.slice Ae s.ev.length ce) s.ev from Ow.intsB (hR.evs.kept' (fun g hg => hk g (hR.evs.row' g hg).1)) hI.er (fun b h1 h2 _ => ⟨Nat.le_trans hwc h1, h2⟩)))
    have x0 := (hR.box.cell 0 (v := .slice Ap pl cp) rfl).1
    have x1 := (hR.box.cell 1 (v := .slice Aa na ca) rfl).1
    have x2 := (hR.box.cell 2 (v := .slice Ah s.heap.length ch) rfl).1
    have x3 := (hR.box.cell 3 (v := .slice Ae s.ev.length ce) rfl).1
    have x5 := (hR.box.cell 5 (v := .int .i64 s.val) rfl).1
    have x6 := (hR.box.cell 6 (v := .int .i64 (s.code : Int)) rfl).1
    have HZX := hide (HXK.out wr hb)
    have HBF := hide (show Below w.heap.size w wr from HBW.out.trans (hb.mono hwc))
    have h5l := HZX.out.lt
    have h5w : w.heap.size <= h5 + 1 := by omega
    obtain ⟨z0, f0⟩ := HZX.out.cell 0 (v := .slice none 0 0) rfl
    obtain ⟨z1, f1⟩ := HZX.out.cell 1 (v := .slice none 0 0) rfl
    obtain ⟨z2, f2⟩ := HZX.out.cell 2 (v := .slice none 0 0) rfl
    obtain ⟨z3, f3⟩ := HZX.out.cell 3 (v := .slice none 0 0) rfl
    obtain ⟨z4, f4⟩ := HZX.out.cell 4 (v := .int .i64 0) rfl
    obtain ⟨z5, f5⟩ := HZX.out.cell 5 (v := .int .i64 0) rfl
    obtain ⟨z6, f6⟩ := HZX.out.cell 6 (v := .int .i64 0) rfl
    obtain ⟨z7, f7⟩ := HZX.out.cell 7 (v := .int .i64 0) rfl
    have g0 : ((s.steps : Int) < mm /\ ¬ ((s.en : Nat) : Int) = 0) \/ ¬ (s.steps : Int) < mm := by omega
    clear hR hI hgo hk hS hb hF1 hgo1 HGO HFIN
    obtain ⟨m1, m2⟩ | ⟨m1, m2⟩ := hmx
    all_goals
     obtain ⟨g1, hen⟩ | g1 := g0
     all_goals
      rw [m2] at g1
      go_wp2
      have HZ := hide (Box.set8 (.slice Ap pl cp) (.slice Aa na ca) (.slice Ah s.heap.length ch) (.slice Ae s.ev.length ce) (.int .i64 (s.en : Int)) (.int .i64 s.val) (.int .i64 (s.code : Int)) (.int .i64 (s.steps : Int)) HZX.out)
      have y0 := (HZ.out.cell 0 (v := .slice Ap pl cp) rfl).1
      have y1 := (HZ.out.cell 1 (v := .slice Aa na ca) rfl).1
      have y2 := (HZ.out.cell 2 (v := .slice Ah s.heap.length ch) rfl).1
      have y3 := (HZ.out.cell 3 (v := .slice Ae s.ev.length ce) rfl).1
      have y4 := (HZ.out.cell 4 (v := .int .i64 (s.en : Int)) rfl).1
      have y5 := (HZ.out.cell 5 (v := .int .i64 s.val) rfl).1
      have y6 := (HZ.out.cell 6 (v := .int .i64 (s.code : Int)) rfl).1
      have y7 := (HZ.out.cell 7 (v := .int .i64 (s.steps : Int)) rfl).1
      refine bodyPost_ret (v := .agg #[.slice Ap pl cp, .slice Aa na ca, .slice Ah s.heap.length ch, .slice Ae s.ev.length ce, .int .i64 (s.en : Int), .int .i64 s.val, .int .i64 (s.code : Int), .int .i64 (s.steps : Int)]) (by simp [results, Tryz.results24, go_sem, y0, y1, y2, y3, y4, y5, y6, y7]) rfl ⟨_, _, _, rfl, (HOF.out _ (fun b hb => have hne : b ≠ h5 + 1 := (by omega); by iterate 8 rw [heap_setCell_other _ _ _ _ hne]) (by simp only [World.size_setCell, Nat.le_refl])).1, (HOF.out _ (fun b hb => have hne : b ≠ h5 + 1 := (by omega); by iterate 8 rw [heap_setCell_other _ _ _ _ hne]) (by simp only [World.size_setCell, Nat.le_refl])).2, ((((((((HBF.out.setCell (p := ⟨h5 + 1, 0, none⟩) h5w _).setCell (p := ⟨h5 + 1, 1, none⟩) h5w _).setCell (p := ⟨h5 + 1, 2, none⟩) h5w _).setCell (p := ⟨h5 + 1, 3, none⟩) h5w _).setCell (p := ⟨h5 + 1, 4, none⟩) h5w _).setCell (p := ⟨h5 + 1, 5, none⟩) h5w _).setCell (p := ⟨h5 + 1, 6, none⟩) h5w _).setCell (p := ⟨h5 + 1, 7, none⟩) h5w _)⟩
 exact go hmin
end Go.Proofs.YthbnbaikdcfbmaaGreatDoor
