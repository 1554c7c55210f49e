/- Layer 8, the program: contract of asked, at both that Check hands to it. Condition: the table of parts reads as listed; the program may be. -/
import Derived.Test.YthbnbaikdcfbmaaGreatDoorPmKL
set_option linter.unusedSimpArgs false
set_option linter.unusedVariables false
set_option maxHeartbeats 8000000
set_option maxRecDepth 100000
namespace Go.Proofs.YthbnbaikdcfbmaaGreatDoor
open Go.RowKit Go.Maps
def jpf (st : Bool) (f : FunV) (l : List InsV) (s : KSt) : Prop := ∃ (j : Nat) (x : InsV), l[j]? = some x /\ ∃ v ∈ jas x, je0 st f v (thrW f (l.take j) s) = true
def AskF (st : Bool) (f : FunV) : Prop := ∃ (b : Nat) (l : List InsV) (s : KSt), f.blocks[b]? = some l /\ Pth f 0 (b : Int) /\ KAt f b s /\ jpf st f l s
def UseOk (x : InsV) : Prop := x.args.length <= 1099511627000 /\ ∀ v ∈ jas x, i64R v
theorem jhb {w w' : World} (h : w.grownBy w' none) : Below w.heap.size w w' := ⟨h.os, h.tape, h.output, h.size, fun i hi => h.block i hi (by simp)⟩
theorem jha {w w' : World} (h : Below w.heap.size w w') : w.grownBy w' none := ⟨h.os, h.tape, h.output, h.size, fun i hi _ => h.block i hi⟩
theorem jfz {w w1 w2 : World} {r : Nat} (hb : Below w.heap.size w w1) (h : w1.grownBy w2 (some r)) (hr : w.heap.size <= r) : Below w.heap.size w w2 :=
 (But.of_grown h).below hb hr hb.size
theorem SetM.into {w w1 : World} {M : Nat -> Prop} {v : Value} {s : List Nat} {g : Nat} (h : SetM w M v s) (hb : Below w.heap.size w w1) (hg : w.heap.size <= g) : SetM w1 (fun b => b = g) v s :=
 h.keep hb.size (fun b hl _ => hb.block b hl) (fun b hl e => by omega)
theorem jgw {left : Lit -> Bool} {c d : Nat} (hn : c ≠ d) (h : (left (litN c) && !(litN c).sameKey (litN d)) = false) : left (litN c) = false := by
 have e : (litN c).sameKey (litN d) = false := by
  cases hs : (litN c).sameKey (litN d) with
  | false => rfl
  | true => exact absurd (by simp [litN, Lit.sameKey] at hs; omega) hn
 rw [e] at h
 simpa using h
theorem BI.ask {f : FunV} {L : Nat -> Option KSt} (hk : KOk f) (h : BI f L []) {b : Nat} (hp : Pth f 0 (b : Int)) {s : KSt} (hs : KAt f b s) : L b = some s := by
 obtain ⟨t, ht⟩ := (h.all hk b).2 hp
 have := h.at hk b
 rw [ht] at this
 rw [ht, hs.one this]
 rfl
theorem BI.kat {f : FunV} {L : Nat -> Option KSt} (hk : KOk f) (h : BI f L []) {b : Nat} {s : KSt} (hs : L b = some s) : Pth f 0 (b : Int) /\ KAt f b s := by
 have := h.at hk b
 rw [hs] at this
 exact ⟨(h.all hk b).1 ⟨s, hs⟩, this⟩
theorem jqu {st : Bool} {f : FunV} {l : List InsV} {s : KSt} (h : ∀ j x, l[j]? = some x -> ∀ v ∈ jas x, je0 st f v (thrW f (l.take j) s) = false) : ¬ jpf st f l s := by
 rintro ⟨j, x, hx, v, hv, hf⟩
 rw [h j x hx v hv] at hf
 cases hf
theorem jmb (p : List FunV) (vp : Value) (w : World) (B : Nat) (hB : B <= w.heap.size) (hp : FunsV w (· < B) vp p) (hT : TabP w) (hk : ∀ f ∈ p, KOk f) (hu : ∀ f ∈ p, ∀ l ∈ f.blocks, ∀ x ∈ l, UseOk x) :
  Calls Tryz.prog 66 #[.agg #[vp], .func (.func 60) #[] #[]] w fun e w' => ∃ R : Bool, e = .returned (.bool R) /\ (R = true ↔ ∃ f ∈ p, AskF false f) /\ Below w.heap.size w w' := by
 have HPK := hide (fun (W : World) (hW : Below w.heap.size w W) => hp.keep (up hW hB) (fun _ h => h))
 have HTT := hide (fun (W : World) (hW : Below w.heap.size w W) => hT.below hW hT.1)
 have HKO := hide hk
 have HUO := hide hu
 obtain ⟨Ap, cp, rfl, hcp, hmp⟩ := hp.open'
 obtain ⟨lp, hlp⟩ := zl p.length
 have HLP := hide hlp
 rw [hlp] at HPK hcp ⊢
 clear hp hT hk hu hlp
 go_enter Tryz.func66, Tryz.ntmps66
 go_upto_region 1 with (fail)
 obtain ⟨w1, hw1⟩ := zr (w.alloc (.cells #[.slice Ap lp cp] 24))
 obtain ⟨h5, hh5⟩ := zl w.heap.size
 have HX0 := zx1 hw1 hh5
 have HB1 := zb1 hw1
 have w1s := HB1.out.size
 have w1z := zs1 hw1 hh5
 have HK0 := zk1 HX0
 have lHX0 := HX0.out.lt
 have h5g : w.heap.size <= h5 := by omega
 rw [<- hw1, hh5]
 clear hw1 hh5
 have p0 := HK0.out w1 (Below.refl _ _)
 go_wp2
 go_loopw [16] (fun i wr => ∃ k : Nat, k <= lp /\ i = .int .i64 k /\ Below w1.heap.size w1 wr /\ Hid (∀ j f, j < k -> p[j]? = some f -> ¬ AskF false f)) (fun i _ => lp - (intOf i).toNat)
 case atStart => exact ⟨0, Nat.zero_le _, rfl, Below.refl _ _, hide (fun j f h => absurd h (Nat.not_lt_zero _))⟩
 case round =>
  obtain ⟨k, hk, rfl, hb, HA⟩ := hrel
  obtain ⟨wo, rfl⟩ := zr wr
  have hszo := hb.size
  have HBEL := hide (HB1.out.trans (hb.mono HB1.out.size))
  have HBW := hide hb
  have HXO := hide (HX0.out.below hb)
  have xp := (HXO.out.cell 0 (v := .slice Ap lp cp) rfl).1
  have lxp := HXO.out.lt
  clear hb p0
  by_cases hlt : k < lp
  case neg =>
   obtain rfl : k = lp := by omega
   go_wp2
   go_ret
   exact ⟨false, rfl, ⟨fun h => (by cases h), fun ⟨f, hf, h⟩ => by obtain ⟨j, hj⟩ := List.mem_iff_getElem?.1 hf; exact absurd h (HA.out j f (by rw [<- HLP.out]; exact (List.getElem?_eq_some_iff.1 hj).1) hj)⟩, HBEL.out⟩
  obtain ⟨f, hf⟩ : ∃ f, p[k]? = some f := ⟨_, List.getElem?_eq_getElem (by have := HLP.out; omega)⟩
  obtain ⟨bg, og, Ak, ck, Ab, cb, As, cs, hAp, hbgb, ⟨e0, e1, e2, e3, e4⟩, hi⟩ := (HPK.out wo HBEL.out).get hf
  subst hAp
  have HF := hide hf
  have HFM := hide (List.mem_of_getElem? hf)
  have HKF := hide (HKO.out f (List.mem_of_getElem? hf))
  have hBo : B <= wo.heap.size := by omega
  have HIK := hide (fun (W : World) (hW : Below wo.heap.size wo W) => hi.keep (w := wo) (S := (· < B)) (up hW hBo) (fun _ h => h))
  have HTO := hide (fun (W : World) (hW : Below wo.heap.size wo W) => HTT.out W (HBEL.out.trans (hW.mono HBEL.out.size)))
  have HBO := hide (fun (W : World) (hW : Below wo.heap.size wo W) => (show B <= W.heap.size by have := hW.size; omega))
  have HBG := hide (fun (W : World) (hW : Below wo.heap.size wo W) => jgx (.slice Ak f.kinds.length ck) (.slice Ab f.base.length cb) (.slice As f.blocks.length cs) f HKF.out W B (HBO.out W hW) (HIK.out W hW) (HTO.out W hW))
  have HFA := hide (fun (v : Int) (hv : i64R v) (W : World) (hW : Below wo.heap.size wo W) (v1 v2 : Value) (s : KSt) (hs : GoodK f s) (h1 : SetV W v1 s.1) (h2 : SetV W v2 s.2) => joo (.slice Ak f.kinds.length ck) (.slice Ab f.base.length cb) (.slice As f.blocks.length cs) f v hv W B (HBO.out W hW) (HIK.out W hW) v1 v2 s hs h1 h2)
  have HBE := hide (fun (l : List InsV) (hl : l ∈ f.blocks) (x : InsV) (hx : x ∈ l) (va : Value) (W : World) (hW : Below wo.heap.size wo W) (hxi : InsI W (· < B) va x) (u1 u2 : Value) (q : KSt) (hq : GoodK f q) (g1 : SetV W u1 q.1) (g2 : SetV W u2 q.2) => jep (.slice Ak f.kinds.length ck) (.slice Ab f.base.length cb) (.slice As f.blocks.length cs) f x va W B (HBO.out W hW) (HIK.out W hW) hxi (HTO.out W hW) u1 u2 q hq g1 g2 HKF.out.kinds HKF.out.bl (HKF.out.sets l hl x hx))
  have HUS := hide (fun (l : List InsV) (hl : l ∈ f.blocks) (x : InsV) (hx : x ∈ l) (va : Value) (W : World) (hW : Below wo.heap.size wo W) (hxi : InsI W (· < B) va x) => jik x va W B (HBO.out W hW) (HTO.out W hW) hxi (HUO.out f HFM.out l hl x hx).1)
  have HUR := hide (fun (l : List InsV) (hl : l ∈ f.blocks) (x : InsV) (hx : x ∈ l) => (HUO.out f HFM.out l hl x hx).2)
  have HBL := hide (fun (W : World) (hW : Below wo.heap.size wo W) => (HIK.out W hW).2.2.1)
  have hbs : bg < wo.heap.size := by omega
  obtain ⟨ls, hls⟩ := zl f.blocks.length
  have HLS := hide hls
  rw [hls] at HBG HFA HBE HBL e4
  have hm3 : ls <= 9223372036854775807 := by obtain ⟨A, c, -, h1, h2⟩ := hi.2.2.1.open'; omega
  clear hi hls hf HIK HKO HUO HTT HPK HTO HBO
  generalize f.kinds.length = lk, f.base.length = lb, f.params = fp, f.result = fr at *
  have hki : (0 : Int) <= (k : Int) := by omega
  have hkl : (k : Int) < (lp : Int) := by omega
  go_upto_region 4 with (fail)
  obtain ⟨w4, hw4⟩ := zr (wo.alloc (.cells #[.slice Ak lk ck, .slice Ab lb cb, .int .i64 fp, .int .i64 fr, .slice As ls cs] 52))
  obtain ⟨h6, hh6⟩ := zl wo.heap.size
  have HFX0 := zx1 hw4 hh6
  have HB4 := zb1 hw4
  have w4s := HB4.out.size
  have w4z := zs1 hw4 hh6
  have HFK0 := zk5 HFX0
  have lHFX0 := HFX0.out.lt
  have h6g : wo.heap.size <= h6 := by omega
  rw [<- hw4, hh6]
  clear hw4 hh6
  obtain ⟨c0, c1, c2, c3, c4⟩ := HFK0.out w4 (Below.refl _ _)
  clear e0 e1 e2 e3 e4 xp
  go_wp2_with (first
   | (go_at_call 82; (with_reducible refine (HBG.out w4 HB4.out).mono ?_); rintro e w5 ⟨bm, L, rfl, ⟨D, n, hown, hn, hh, hL, hL0, hv⟩, hbi, hbm1, hbm2, hb5⟩; have HB5 := hide hb5; have HH := hide hh; have HL := hide hL; have HL0 := hide hL0; have HV := hide hv; have HBI := hide hbi; clear hb5 hn hh hL hL0 hv hbi)
   | (at_range; refine wpList_range_own _ rfl _ 137 rfl 3 119 keyed_int jbe RH bm n D rfl hown ?_; intro w6 hrg6 hg6 hs6; have HG6 := hide hg6; clear hg6))
  go_frame
  have HB5O := hide (HB4.out.trans (HB5.out.mono HB4.out.size))
  have hz45 := HB5.out.size
  go_loopw [7] (fun _ wr => ∃ (left : Lit -> Bool) (cnt : Nat), wr.ranges Tryz.prog 3 RH bm w5.heap.size n D left cnt /\ Below w5.heap.size w5 wr /\ Hid (∀ (c : Nat) (s : KSt) (l : List InsV), L c = some s -> f.blocks[c]? = some l -> left (litN c) = false -> ¬ jpf false f l s)) (fun _ wr => wr.rangeLeft bm w5.heap.size)
  case atStart =>
   refine ⟨_, _, hrg6, jhb HG6.out, hide (fun c s l hs hl hleft => ?_)⟩
   have := HL.out c (List.getElem?_eq_some_iff.1 hl).1
   rw [hs] at this
   rw [this] at hleft
   cases hleft
  case round =>
   obtain ⟨left, cnt, hrg, hb, HN⟩ := hrel
   obtain ⟨w7, rfl⟩ := zr wr
   have HB7 := hide hb
   clear hb hrg6 HG6
   go_wp2_with (at_next; refine jdq rfl _ rfl left cnt HH.out HL.out HV.out rfl hrg ?_ ?_)
   ·intro hl0
    have HB7O := hide (HBW.out.trans ((HB5O.out.trans (HB7.out.mono HB5O.out.size)).mono hszo))
    go_wp2
    go_roundw
    case rel =>
     refine ⟨k + 1, by omega, by go_num, HB7O.out, hide (fun j g hj hg => ?_)⟩
     rcases Nat.lt_succ_iff_lt_or_eq.1 hj with hj | rfl
     ·exact HA.out j g hj hg
     ·have e := HF.out.symm.trans hg
      injection e with e
      subst e
      rintro ⟨b, l, s, hbl, hpth, hkat, hask⟩
      exact HN.out b s l (HBI.out.ask HKF.out hpth hkat) hbl (hl0 _) hask
    case measure => simp [intOf]; omega
   ·intro c sa sb A1 A2 d1 d2 w8 cnt8 hc hs hS1 hS2 hrg8 hltc hg8 hz8 hen
    obtain ⟨s, hse⟩ : ∃ s : KSt, s = (sa, sb) := ⟨_, rfl⟩
    obtain rfl : sa = s.1 := by rw [hse]
    obtain rfl : sb = s.2 := by rw [hse]
    clear hse
    have hs : L c = some s := hs
    have HS1 := hide hS1
    have HS2 := hide hS2
    have HLC := hide hs
    have HB8 := hide (jfz HB7.out hg8 (Nat.le_refl _))
    have HB8O := hide (HB5O.out.trans (HB8.out.mono HB5O.out.size))
    have hz58 := HB8.out.size
    have hz8o := HB8O.out.size
    clear hS1 hS2 hg8 hz8
    have hcl : c < ls := by have := HLS.out; omega
    obtain ⟨l, hl⟩ : ∃ l, f.blocks[c]? = some l := ⟨_, List.getElem?_eq_getElem hc⟩
    obtain ⟨bb, ob, Al, cl, hAs, hbb, q0, hli⟩ := (HBL.out w8 HB8O.out).get hl
    subst hAs
    have HLL0 := hide hl
    have HLM := hide (List.mem_of_getElem? hl)
    have hbs8 : bb < w8.heap.size := by omega
    have HLI := hide (fun (W : World) (hW : Below w8.heap.size w8 W) => hli.keep (S := (· < B)) (up hW (by omega)) (fun _ h => h))
    have HBE1 := hide (HBE.out l HLM.out)
    have HUS1 := hide (HUS.out l HLM.out)
    have HUR1 := hide (HUR.out l HLM.out)
    obtain ⟨ll, hll⟩ := zl l.length
    have HLL := hide hll
    rw [hll] at HLI q0
    have hm4 : ll <= 9223372036854775807 := by obtain ⟨A, c, -, h1, h2⟩ := hli.open'; omega
    have HGS := hide (HBI.out.ok c s hs).2.2.1
    have HGD := hide (fun k => (jev HKF.out.kinds (l.take k) s (fun x hx => HKF.out.sets l HLM.out x (List.mem_of_mem_take hx)) HGS.out).1)
    clear hli hll hl hs
    obtain ⟨tk, htk⟩ : ∃ tk : Nat -> KSt, (fun k => thrW f (l.take k) s) = tk := ⟨_, rfl⟩
    have htk' : ∀ k, thrW f (l.take k) s = tk k := fun k => by rw [<- htk]
    have HST := hide (fun k x (hx' : l[k]? = some x) => (show jb2 f x (tk k) = tk (k + 1) by rw [<- htk', <- htk', List.take_add_one, hx', Option.toList_some, jdu]))
    simp only [htk'] at HGD
    have HTK := hide htk'
    have HT0 := hide (show tk 0 = s by rw [<- htk']; rfl)
    clear htk htk'
    obtain ⟨n1, hn1⟩ := zl s.1.length
    obtain ⟨n2, hn2⟩ := zl s.2.length
    rw [hn1] at HS1 hen ⊢
    rw [hn2] at HS2 hen ⊢
    clear hn1 hn2
    have hkc : (0 : Int) <= (c : Int) := by omega
    have hkd : (c : Int) < (ls : Int) := by omega
    go_upto_region 7 with (fail)
    obtain ⟨w9, hw9⟩ := zr (w8.alloc (.cells #[.slice A1 n1 d1, .slice A2 n2 d2] 119))
    obtain ⟨h8, hh8⟩ := zl w8.heap.size
    have HSX0 := zx1 hw9 hh8
    have HB9 := zb1 hw9
    have w9s := HB9.out.size
    have w9z := zs1 hw9 hh8
    have HSK0 := zk2 HSX0
    have lHSX0 := HSX0.out.lt
    have h8g : w8.heap.size <= h8 := by omega
    rw [<- hw9, hh8]
    clear hw9 hh8
    have hF9 := HFX0.out.below ((HB5.out.trans (HB8.out.mono HB5.out.size)).trans (HB9.out.mono (by omega)))
    have c4 := (hF9.cell 4 (v := .slice (some ⟨bb, ob, none⟩) ls cs) rfl).1
    have q0 := (HB9.out.cell (p := ⟨bb, ob + c, none⟩) hbs8).trans q0
    have HFXA := hide (fun (W : World) (hW : Below w9.heap.size w9 W) => hF9.below hW)
    have HM1 := hide (HS1.out.into (HB8.out.trans (HB9.out.mono HB8.out.size)) (g := h8) (by omega))
    have HM2 := hide (HS2.out.into (HB8.out.trans (HB9.out.mono HB8.out.size)) (g := h8) (by omega))
    clear hF9 hen
    go_wp2
    go_loopw [35] (fun i wr => ∃ (k3 : Nat) (u1 u2 : Value), k3 <= ll /\ i = .int .i64 k3 /\ Box wr h8 #[u1, u2] 119 /\ Hid (SetM wr (fun b => b = h8) u1 (tk k3).1) /\ Hid (SetM wr (fun b => b = h8) u2 (tk k3).2) /\ But h8 w9 wr /\ Hid (∀ j x, j < k3 -> l[j]? = some x -> ∀ v ∈ jas x, je0 false f v (tk j) = false)) (fun i _ => ll - (intOf i).toNat)
    case atStart => exact ⟨0, _, _, Nat.zero_le _, rfl, HSX0.out, hide (by rw [HT0.out]; exact HM1.out), hide (by rw [HT0.out]; exact HM2.out), But.refl _ _, hide (fun j x h => absurd h (Nat.not_lt_zero _))⟩
    case round =>
     obtain ⟨k3, u1, u2, hk3, rfl, b0, HU1, HU2, hbt, HN3⟩ := hrel
     obtain ⟨wo3, rfl⟩ := zr wr
     have hszo3 := hbt.size
     have HBT := hide hbt
     have HBC := hide (hbt.below HB9.out (by omega) HB9.out.size)
     have HBC5 := hide (HB8.out.trans (HBC.out.mono HB8.out.size))
     have HBCO := hide (HB5O.out.trans (HBC5.out.mono HB5O.out.size))
     have HY0 := hide b0
     have lb0 := b0.lt
     have HF3 := hide (hbt.box (HFXA.out w9 (Below.refl _ _)) (by omega))
     clear hbt b0 c4 q0
     obtain ⟨B1, e1, hq1, -, -, -, -⟩ := HU1.out
     obtain ⟨B2, e2, hq2, -, -, -, -⟩ := HU2.out
     subst hq1
     subst hq2
     by_cases hlt3 : k3 < ll
     case neg =>
      obtain rfl : k3 = ll := by omega
      have HRK := hide (hrg8.kept (jha HBC.out) (by simp) (by simp))
      go_wp2
      go_roundw
      case rel =>
       refine ⟨_, cnt8, HRK.out, HBC5.out, hide (fun c' s' l' hs' hl' hleft => ?_)⟩
       by_cases hcc : c' = c
       ·subst hcc
        have e1 := HLC.out.symm.trans hs'
        have e2 := HLL0.out.symm.trans hl'
        injection e1 with e1
        injection e2 with e2
        subst e1
        subst e2
        refine jqu (fun j x hx v hv => ?_)
        rw [HTK.out]
        exact HN3.out j x (by rw [<- HLL.out]; exact (List.getElem?_eq_some_iff.1 hx).1) hx v hv
       ·exact HN.out c' s' l' hs' hl' (jgw hcc hleft)
      case measure => rw [HRK.out.left_eq, hrg.left_eq]; exact hltc
     have HGK := hide (HGD.out k3)
     obtain ⟨tq, htq⟩ := zl (tk k3)
     rw [htq] at HU1 HU2 HGK
     have HTQ := hide htq
     have HZ0 := hide (show Box wo3 h8 #[.slice B1 tq.1.length e1, .slice B2 tq.2.length e2] 119 by rw [<- htq]; exact HY0.out)
     clear HY0
     clear htq
     obtain ⟨x, hx⟩ : ∃ x, l[k3]? = some x := ⟨_, List.getElem?_eq_getElem (by have := HLL.out; omega)⟩
     obtain ⟨bx, ox, Ay, cy, hAl, hbx, ⟨z0, z1, z2, z3, z4, z5, z6⟩, hxi⟩ := (HLI.out wo3 HBC.out).get hx
     subst hAl
     have HXX := hide hx
     have HXM := hide (List.mem_of_getElem? hx)
     have HNX := hide (HST.out k3 x hx)
     rw [HTQ.out] at HNX
     have HXI := hide (fun (W : World) (hW : Below wo3.heap.size wo3 W) => hxi.keep (up hW (by omega)) (fun _ h => h))
     have HW3 := hide (fun (W : World) (hW : Below wo3.heap.size wo3 W) => HBCO.out.trans (hW.mono HBCO.out.size))
     have HBE2 := hide (fun W (hW : Below wo3.heap.size wo3 W) u1 u2 g1 g2 => HBE1.out x HXM.out (.slice Ay x.args.length cy) W (HW3.out W hW) (HXI.out W hW) u1 u2 tq HGK.out g1 g2)
     have HUS2 := hide (fun W (hW : Below wo3.heap.size wo3 W) => HUS1.out x HXM.out (.slice Ay x.args.length cy) W (HW3.out W hW) (HXI.out W hW))
     have HUR2 := hide (HUR1.out x HXM.out)
     have hbs3 : bx < wo3.heap.size := by omega
     obtain ⟨ul, hul⟩ := zl (jas x)
     have HUL := hide hul
     rw [hul] at HUS2 HUR2
     clear hxi hx HXI hul
     generalize jb2 f x tq = nq at *
     have HPV := hide (fun (W : World) (hW : Below wo3.heap.size wo3 W) => And.intro (HU1.out.below hW).v (HU2.out.below hW).v)
     have HFA1 := hide (fun (v : Int) (hv : i64R v) W (hW : Below wo3.heap.size wo3 W) => HFA.out v hv W (HW3.out W hW) _ _ tq HGK.out (HPV.out W hW).1 (HPV.out W hW).2)
     have HBE3 := hide (fun W (hW : Below wo3.heap.size wo3 W) => HBE2.out W hW _ _ (HPV.out W hW).1 (HPV.out W hW).2)
     clear HBE2 HPV
     obtain ⟨m1, hm1⟩ := zl tq.1.length
     obtain ⟨m2, hm2⟩ := zl tq.2.length
     rw [hm1] at HZ0 HFA1 HBE3
     rw [hm2] at HZ0 HFA1 HBE3
     clear hm1 hm2
     generalize x.args.length = ly, x.op = yo, x.d = yd, x.a = ya, x.b = yb, x.n = yn, x.m = ym at *
     have hki3 : (0 : Int) <= (k3 : Int) := by omega
     have hkl3 : (k3 : Int) < (ll : Int) := by omega
     go_upto_region 10 with (fail)
     obtain ⟨w10, hw10⟩ := zr (wo3.alloc (.cells #[.int .i64 yo, .int .i64 yd, .int .i64 ya, .int .i64 yb, .int .i64 yn, .int .i64 ym, .slice Ay ly cy] 57))
     obtain ⟨h9, hh9⟩ := zl wo3.heap.size
     have HYX0 := zx1 hw10 hh9
     have HB10 := zb1 hw10
     have w10s := HB10.out.size
     have w10z := zs1 hw10 hh9
     have HYK0 := zk7 HYX0
     have lHYX0 := HYX0.out.lt
     have h9g : wo3.heap.size <= h9 := by omega
     rw [<- hw10, hh9]
     clear hw10 hh9
     obtain ⟨x0, x1, x2, x3, x4, x5, x6⟩ := HYK0.out w10 (Below.refl _ _)
     clear z0 z1 z2 z3 z4 z5 z6
     go_wp2_with (go_at_call 83; (with_reducible refine (HUS2.out w10 HB10.out).mono ?_); rintro e w11 ⟨vu, rfl, how, hb11⟩; have HB11 := hide (HB10.out.trans (hb11.mono HB10.out.size)); have HYX11 := hide (HYX0.out.below hb11); obtain ⟨An, cn, hvu, hcn, hcn2, hsl⟩ := how.sl; subst hvu; have HSL := hide hsl; have hz11 := hb11.size; clear how hb11 hsl)
     obtain ⟨nu, hnu⟩ := zl ul.length
     have HNU := hide hnu
     rw [hnu] at hcn ⊢
     clear hnu x0 x1 x2 x3 x4 x5 x6
     have hcn3 : nu <= 9223372036854775807 := by unfold maxLen at hcn2; omega
     have HZ11 := hide (HZ0.out.below HB11.out)
     have HF11 := hide (HF3.out.below HB11.out)
     go_loopw [42] (fun i wr => ∃ k4 : Nat, k4 <= nu /\ i = .int .i64 k4 /\ Below w11.heap.size w11 wr /\ Hid (∀ j v, j < k4 -> ul[j]? = some v -> je0 false f v tq = false)) (fun i _ => nu - (intOf i).toNat)
     case atStart => exact ⟨0, Nat.zero_le _, rfl, Below.refl _ _, hide (fun j v h => absurd h (Nat.not_lt_zero _))⟩
     case round =>
      obtain ⟨k4, hk4, rfl, hb, HN4⟩ := hrel
      obtain ⟨wo4, rfl⟩ := zr wr
      have hszo4 := hb.size
      have HB12 := hide (HB11.out.trans (hb.mono HB11.out.size))
      obtain ⟨s0, f0⟩ := (HZ11.out.below hb).cell 0 (v := .slice B1 m1 e1) rfl
      obtain ⟨s1, f1⟩ := (HZ11.out.below hb).cell 1 (v := .slice B2 m2 e2) rfl
      have HZ12 := hide (HZ11.out.below hb)
      have hF12 := HF11.out.below hb
      have c0 := (hF12.cell 0 (v := .slice Ak lk ck) rfl).1
      have c1 := (hF12.cell 1 (v := .slice Ab lb cb) rfl).1
      have c2 := (hF12.cell 2 (v := .int .i64 fp) rfl).1
      have c3 := (hF12.cell 3 (v := .int .i64 fr) rfl).1
      have c4 := (hF12.cell 4 (v := .slice (some ⟨bb, ob, none⟩) ls cs) rfl).1
      have HBI4 := hide hb
      clear hF12
      by_cases hlt4 : k4 < nu
      case neg =>
       obtain rfl : k4 = nu := by omega
       have hy := HYX11.out.below hb
       clear hb
       obtain ⟨x0, x1, x2, x3, x4, x5, x6⟩ : _ /\ _ /\ _ /\ _ /\ _ /\ _ /\ _ := ⟨(hy.cell 0 (v := .int .i64 yo) rfl).1, (hy.cell 1 (v := .int .i64 yd) rfl).1, (hy.cell 2 (v := .int .i64 ya) rfl).1, (hy.cell 3 (v := .int .i64 yb) rfl).1, (hy.cell 4 (v := .int .i64 yn) rfl).1, (hy.cell 5 (v := .int .i64 ym) rfl).1, (hy.cell 6 (v := .slice Ay ly cy) rfl).1⟩
       clear hy
       go_wp2_with (go_at_call 84; (with_reducible refine (HBE3.out wo4 HB12.out).mono ?_); rintro e w13 ⟨r1, r2, rfl, hn1, hn2, hb13⟩; have HN1 := hide hn1; have HN2 := hide hn2; have HB13 := hide hb13; have hq13 := HZ12.out.below hb13; obtain ⟨t0, g0⟩ := hq13.cell 0 (v := .slice B1 m1 e1) rfl; obtain ⟨t1, g1⟩ := hq13.cell 1 (v := .slice B2 m2 e2) rfl; have HQ13 := hide hq13; obtain ⟨D1, j1, hr1, -, -, -, -⟩ := hn1; obtain ⟨D2, j2, hr2, -, -, -, -⟩ := hn2; subst hr1; subst hr2; have hz13 := hb13.size; clear hb13 hq13)
       obtain ⟨w14, hw14⟩ := zr ((w13.setCell ⟨h8, 0, none⟩ (.slice D1 nq.1.length j1)).setCell ⟨h8, 1, none⟩ (.slice D2 nq.2.length j2))
       have HBG4 := hide (show But h8 w13 w14 by rw [hw14]; exact ((But.refl _ _).set).set)
       have HX14 := hide (show Box w14 h8 #[.slice D1 nq.1.length j1, .slice D2 nq.2.length j2] 119 by rw [hw14]; exact (HQ13.out.set 0 (.slice D1 nq.1.length j1)).set 1 (.slice D2 nq.2.length j2))
       rw [<- hw14]
       clear hw14
       have HRL := hide (show SetM w14 (fun b => b = h8) (.slice D1 nq.1.length j1) (tk (k3 + 1)).1 /\ SetM w14 (fun b => b = h8) (.slice D2 nq.2.length j2) (tk (k3 + 1)).2 by
        have hlt4 : ∀ b, b = h8 -> b < wo4.heap.size := fun b hm => by have := HB12.out.size; omega
        rw [<- HNX.out]
        exact ⟨(HN1.out.setM hlt4).keep HBG4.out.size (fun b hb hm => HBG4.out.block b hb hm) (fun _ _ h => h), (HN2.out.setM hlt4).keep HBG4.out.size (fun b hb hm => HBG4.out.block b hb hm) (fun _ _ h => h)⟩)
       have HBTT := hide (HBT.out.trans' ((But.of_bel (b := h8) (HB12.out.trans (HB13.out.mono HB12.out.size))).trans' HBG4.out))
       go_roundw
       case rel =>
        refine ⟨k3 + 1, _, _, by omega, by go_num, HX14.out, hide HRL.out.1, hide HRL.out.2, HBTT.out, hide (fun j y hj hy v hv => ?_)⟩
        rcases Nat.lt_succ_iff_lt_or_eq.1 hj with hj | rfl
        ·exact HN3.out j y hj hy v hv
        ·have e := HXX.out.symm.trans hy
         injection e with e
         subst e
         rw [HUL.out] at hv
         obtain ⟨i, hi⟩ := List.mem_iff_getElem?.1 hv
         rw [HTQ.out]
         exact HN4.out i v (by rw [<- HNU.out]; exact (List.getElem?_eq_some_iff.1 hi).1) hi
       case measure => simp [intOf]; omega
      obtain ⟨v, hv⟩ : ∃ v, ul[k4]? = some v := ⟨_, List.getElem?_eq_getElem (by have := HNU.out; omega)⟩
      obtain ⟨be, oe, hAe, hbe, hce⟩ := HSL.out (by have := HNU.out; omega)
      subst hAe
      have q1 : wo4.cell? ⟨be, oe + k4, none⟩ = some (.int .i64 v) := by rw [hb.cell (p := ⟨be, oe + k4, none⟩) hbe, hce k4 (by have := HNU.out; omega)]; simp [List.getD, hv]
      have HVV := hide hv
      have HFA2 := hide (HFA1.out v (HUR2.out v (List.mem_of_getElem? hv)))
      obtain ⟨b9, hb9⟩ := zl (je0 false f v tq)
      have HB9F := hide hb9
      rw [hb9] at HFA2
      clear hb9 hce hv hb
      have hki4 : (0 : Int) <= (k4 : Int) := by omega
      have hkl4 : (k4 : Int) < (nu : Int) := by omega
      cases b9
      all_goals
       go_wp2_with (go_at_call 60; (with_reducible refine (HFA2.out wo4 HB12.out).mono ?_); rintro e w13 ⟨rfl, hb13⟩; have HB13 := hide hb13; clear hb13)
      ·go_roundw
       case rel =>
        refine ⟨k4 + 1, by omega, by go_num, HBI4.out.trans (HB13.out.mono HBI4.out.size), hide (fun j y hj hy => ?_)⟩
        rcases Nat.lt_succ_iff_lt_or_eq.1 hj with hj | rfl
        ·exact HN4.out j y hj hy
        ·have e := HVV.out.symm.trans hy
         injection e with e
         subst e
         exact HB9F.out
       case measure => simp [intOf]; omega
      ·go_ret
       exact ⟨true, rfl, ⟨fun _ => ⟨f, HFM.out, c, l, s, HLL0.out, (HBI.out.kat HKF.out HLC.out).1, (HBI.out.kat HKF.out HLC.out).2, k3, x, HXX.out, v, by rw [HUL.out]; exact List.mem_of_getElem? HVV.out, by rw [HTK.out, HTQ.out]; exact HB9F.out⟩, fun _ => rfl⟩, HBEL.out.trans ((HW3.out w13 (HB12.out.trans (HB13.out.mono HB12.out.size))).mono HBEL.out.size)⟩
theorem jmc (p : List FunV) (vp : Value) (w : World) (B : Nat) (hB : B <= w.heap.size) (hp : FunsV w (· < B) vp p) (hT : TabP w) (hk : ∀ f ∈ p, KOk f) (hu : ∀ f ∈ p, ∀ l ∈ f.blocks, ∀ x ∈ l, UseOk x) :
  Calls Tryz.prog 66 #[.agg #[vp], .func (.func 62) #[] #[]] w fun e w' => ∃ R : Bool, e = .returned (.bool R) /\ (R = true ↔ ∃ f ∈ p, AskF true f) /\ Below w.heap.size w w' := by
 have HPK := hide (fun (W : World) (hW : Below w.heap.size w W) => hp.keep (up hW hB) (fun _ h => h))
 have HTT := hide (fun (W : World) (hW : Below w.heap.size w W) => hT.below hW hT.1)
 have HKO := hide hk
 have HUO := hide hu
 obtain ⟨Ap, cp, rfl, hcp, hmp⟩ := hp.open'
 obtain ⟨lp, hlp⟩ := zl p.length
 have HLP := hide hlp
 rw [hlp] at HPK hcp ⊢
 clear hp hT hk hu hlp
 go_enter Tryz.func66, Tryz.ntmps66
 go_upto_region 1 with (fail)
 obtain ⟨w1, hw1⟩ := zr (w.alloc (.cells #[.slice Ap lp cp] 24))
 obtain ⟨h5, hh5⟩ := zl w.heap.size
 have HX0 := zx1 hw1 hh5
 have HB1 := zb1 hw1
 have w1s := HB1.out.size
 have w1z := zs1 hw1 hh5
 have HK0 := zk1 HX0
 have lHX0 := HX0.out.lt
 have h5g : w.heap.size <= h5 := by omega
 rw [<- hw1, hh5]
 clear hw1 hh5
 have p0 := HK0.out w1 (Below.refl _ _)
 go_wp2
 go_loopw [16] (fun i wr => ∃ k : Nat, k <= lp /\ i = .int .i64 k /\ Below w1.heap.size w1 wr /\ Hid (∀ j f, j < k -> p[j]? = some f -> ¬ AskF true f)) (fun i _ => lp - (intOf i).toNat)
 case atStart => exact ⟨0, Nat.zero_le _, rfl, Below.refl _ _, hide (fun j f h => absurd h (Nat.not_lt_zero _))⟩
 case round =>
  obtain ⟨k, hk, rfl, hb, HA⟩ := hrel
  obtain ⟨wo, rfl⟩ := zr wr
  have hszo := hb.size
  have HBEL := hide (HB1.out.trans (hb.mono HB1.out.size))
  have HBW := hide hb
  have HXO := hide (HX0.out.below hb)
  have xp := (HXO.out.cell 0 (v := .slice Ap lp cp) rfl).1
  have lxp := HXO.out.lt
  clear hb p0
  by_cases hlt : k < lp
  case neg =>
   obtain rfl : k = lp := by omega
   go_wp2
   go_ret
   exact ⟨false, rfl, ⟨fun h => (by cases h), fun ⟨f, hf, h⟩ => by obtain ⟨j, hj⟩ := List.mem_iff_getElem?.1 hf; exact absurd h (HA.out j f (by rw [<- HLP.out]; exact (List.getElem?_eq_some_iff.1 hj).1) hj)⟩, HBEL.out⟩
  obtain ⟨f, hf⟩ : ∃ f, p[k]? = some f := ⟨_, List.getElem?_eq_getElem (by have := HLP.out; omega)⟩
  obtain ⟨bg, og, Ak, ck, Ab, cb, As, cs, hAp, hbgb, ⟨e0, e1, e2, e3, e4⟩, hi⟩ := (HPK.out wo HBEL.out).get hf
  subst hAp
  have HF := hide hf
  have HFM := hide (List.mem_of_getElem? hf)
  have HKF := hide (HKO.out f (List.mem_of_getElem? hf))
  have hBo : B <= wo.heap.size := by omega
  have HIK := hide (fun (W : World) (hW : Below wo.heap.size wo W) => hi.keep (w := wo) (S := (· < B)) (up hW hBo) (fun _ h => h))
  have HTO := hide (fun (W : World) (hW : Below wo.heap.size wo W) => HTT.out W (HBEL.out.trans (hW.mono HBEL.out.size)))
  have HBO := hide (fun (W : World) (hW : Below wo.heap.size wo W) => (show B <= W.heap.size by have := hW.size; omega))
  have HBG := hide (fun (W : World) (hW : Below wo.heap.size wo W) => jgx (.slice Ak f.kinds.length ck) (.slice Ab f.base.length cb) (.slice As f.blocks.length cs) f HKF.out W B (HBO.out W hW) (HIK.out W hW) (HTO.out W hW))
  have HFA := hide (fun (v : Int) (hv : i64R v) (W : World) (hW : Below wo.heap.size wo W) (v1 v2 : Value) (s : KSt) (hs : GoodK f s) (h1 : SetV W v1 s.1) (h2 : SetV W v2 s.2) => jop (.slice Ak f.kinds.length ck) (.slice Ab f.base.length cb) (.slice As f.blocks.length cs) f v hv W B (HBO.out W hW) (HIK.out W hW) v1 v2 s hs h1 h2)
  have HBE := hide (fun (l : List InsV) (hl : l ∈ f.blocks) (x : InsV) (hx : x ∈ l) (va : Value) (W : World) (hW : Below wo.heap.size wo W) (hxi : InsI W (· < B) va x) (u1 u2 : Value) (q : KSt) (hq : GoodK f q) (g1 : SetV W u1 q.1) (g2 : SetV W u2 q.2) => jep (.slice Ak f.kinds.length ck) (.slice Ab f.base.length cb) (.slice As f.blocks.length cs) f x va W B (HBO.out W hW) (HIK.out W hW) hxi (HTO.out W hW) u1 u2 q hq g1 g2 HKF.out.kinds HKF.out.bl (HKF.out.sets l hl x hx))
  have HUS := hide (fun (l : List InsV) (hl : l ∈ f.blocks) (x : InsV) (hx : x ∈ l) (va : Value) (W : World) (hW : Below wo.heap.size wo W) (hxi : InsI W (· < B) va x) => jik x va W B (HBO.out W hW) (HTO.out W hW) hxi (HUO.out f HFM.out l hl x hx).1)
  have HUR := hide (fun (l : List InsV) (hl : l ∈ f.blocks) (x : InsV) (hx : x ∈ l) => (HUO.out f HFM.out l hl x hx).2)
  have HBL := hide (fun (W : World) (hW : Below wo.heap.size wo W) => (HIK.out W hW).2.2.1)
  have hbs : bg < wo.heap.size := by omega
  obtain ⟨ls, hls⟩ := zl f.blocks.length
  have HLS := hide hls
  rw [hls] at HBG HFA HBE HBL e4
  have hm3 : ls <= 9223372036854775807 := by obtain ⟨A, c, -, h1, h2⟩ := hi.2.2.1.open'; omega
  clear hi hls hf HIK HKO HUO HTT HPK HTO HBO
  generalize f.kinds.length = lk, f.base.length = lb, f.params = fp, f.result = fr at *
  have hki : (0 : Int) <= (k : Int) := by omega
  have hkl : (k : Int) < (lp : Int) := by omega
  go_upto_region 4 with (fail)
  obtain ⟨w4, hw4⟩ := zr (wo.alloc (.cells #[.slice Ak lk ck, .slice Ab lb cb, .int .i64 fp, .int .i64 fr, .slice As ls cs] 52))
  obtain ⟨h6, hh6⟩ := zl wo.heap.size
  have HFX0 := zx1 hw4 hh6
  have HB4 := zb1 hw4
  have w4s := HB4.out.size
  have w4z := zs1 hw4 hh6
  have HFK0 := zk5 HFX0
  have lHFX0 := HFX0.out.lt
  have h6g : wo.heap.size <= h6 := by omega
  rw [<- hw4, hh6]
  clear hw4 hh6
  obtain ⟨c0, c1, c2, c3, c4⟩ := HFK0.out w4 (Below.refl _ _)
  clear e0 e1 e2 e3 e4 xp
  go_wp2_with (first
   | (go_at_call 82; (with_reducible refine (HBG.out w4 HB4.out).mono ?_); rintro e w5 ⟨bm, L, rfl, ⟨D, n, hown, hn, hh, hL, hL0, hv⟩, hbi, hbm1, hbm2, hb5⟩; have HB5 := hide hb5; have HH := hide hh; have HL := hide hL; have HL0 := hide hL0; have HV := hide hv; have HBI := hide hbi; clear hb5 hn hh hL hL0 hv hbi)
   | (at_range; refine wpList_range_own _ rfl _ 137 rfl 3 119 keyed_int jbe RH bm n D rfl hown ?_; intro w6 hrg6 hg6 hs6; have HG6 := hide hg6; clear hg6))
  go_frame
  have HB5O := hide (HB4.out.trans (HB5.out.mono HB4.out.size))
  have hz45 := HB5.out.size
  go_loopw [7] (fun _ wr => ∃ (left : Lit -> Bool) (cnt : Nat), wr.ranges Tryz.prog 3 RH bm w5.heap.size n D left cnt /\ Below w5.heap.size w5 wr /\ Hid (∀ (c : Nat) (s : KSt) (l : List InsV), L c = some s -> f.blocks[c]? = some l -> left (litN c) = false -> ¬ jpf true f l s)) (fun _ wr => wr.rangeLeft bm w5.heap.size)
  case atStart =>
   refine ⟨_, _, hrg6, jhb HG6.out, hide (fun c s l hs hl hleft => ?_)⟩
   have := HL.out c (List.getElem?_eq_some_iff.1 hl).1
   rw [hs] at this
   rw [this] at hleft
   cases hleft
  case round =>
   obtain ⟨left, cnt, hrg, hb, HN⟩ := hrel
   obtain ⟨w7, rfl⟩ := zr wr
   have HB7 := hide hb
   clear hb hrg6 HG6
   go_wp2_with (at_next; refine jdq rfl _ rfl left cnt HH.out HL.out HV.out rfl hrg ?_ ?_)
   ·intro hl0
    have HB7O := hide (HBW.out.trans ((HB5O.out.trans (HB7.out.mono HB5O.out.size)).mono hszo))
    go_wp2
    go_roundw
    case rel =>
     refine ⟨k + 1, by omega, by go_num, HB7O.out, hide (fun j g hj hg => ?_)⟩
     rcases Nat.lt_succ_iff_lt_or_eq.1 hj with hj | rfl
     ·exact HA.out j g hj hg
     ·have e := HF.out.symm.trans hg
      injection e with e
      subst e
      rintro ⟨b, l, s, hbl, hpth, hkat, hask⟩
      exact HN.out b s l (HBI.out.ask HKF.out hpth hkat) hbl (hl0 _) hask
    case measure => simp [intOf]; omega
   ·intro c sa sb A1 A2 d1 d2 w8 cnt8 hc hs hS1 hS2 hrg8 hltc hg8 hz8 hen
    obtain ⟨s, hse⟩ : ∃ s : KSt, s = (sa, sb) := ⟨_, rfl⟩
    obtain rfl : sa = s.1 := by rw [hse]
    obtain rfl : sb = s.2 := by rw [hse]
    clear hse
    have hs : L c = some s := hs
    have HS1 := hide hS1
    have HS2 := hide hS2
    have HLC := hide hs
    have HB8 := hide (jfz HB7.out hg8 (Nat.le_refl _))
    have HB8O := hide (HB5O.out.trans (HB8.out.mono HB5O.out.size))
    have hz58 := HB8.out.size
    have hz8o := HB8O.out.size
    clear hS1 hS2 hg8 hz8
    have hcl : c < ls := by have := HLS.out; omega
    obtain ⟨l, hl⟩ : ∃ l, f.blocks[c]? = some l := ⟨_, List.getElem?_eq_getElem hc⟩
    obtain ⟨bb, ob, Al, cl, hAs, hbb, q0, hli⟩ := (HBL.out w8 HB8O.out).get hl
    subst hAs
    have HLL0 := hide hl
    have HLM := hide (List.mem_of_getElem? hl)
    have hbs8 : bb < w8.heap.size := by omega
    have HLI := hide (fun (W : World) (hW : Below w8.heap.size w8 W) => hli.keep (S := (· < B)) (up hW (by omega)) (fun _ h => h))
    have HBE1 := hide (HBE.out l HLM.out)
    have HUS1 := hide (HUS.out l HLM.out)
    have HUR1 := hide (HUR.out l HLM.out)
    obtain ⟨ll, hll⟩ := zl l.length
    have HLL := hide hll
    rw [hll] at HLI q0
    have hm4 : ll <= 9223372036854775807 := by obtain ⟨A, c, -, h1, h2⟩ := hli.open'; omega
    have HGS := hide (HBI.out.ok c s hs).2.2.1
    have HGD := hide (fun k => (jev HKF.out.kinds (l.take k) s (fun x hx => HKF.out.sets l HLM.out x (List.mem_of_mem_take hx)) HGS.out).1)
    clear hli hll hl hs
    obtain ⟨tk, htk⟩ : ∃ tk : Nat -> KSt, (fun k => thrW f (l.take k) s) = tk := ⟨_, rfl⟩
    have htk' : ∀ k, thrW f (l.take k) s = tk k := fun k => by rw [<- htk]
    have HST := hide (fun k x (hx' : l[k]? = some x) => (show jb2 f x (tk k) = tk (k + 1) by rw [<- htk', <- htk', List.take_add_one, hx', Option.toList_some, jdu]))
    simp only [htk'] at HGD
    have HTK := hide htk'
    have HT0 := hide (show tk 0 = s by rw [<- htk']; rfl)
    clear htk htk'
    obtain ⟨n1, hn1⟩ := zl s.1.length
    obtain ⟨n2, hn2⟩ := zl s.2.length
    rw [hn1] at HS1 hen ⊢
    rw [hn2] at HS2 hen ⊢
    clear hn1 hn2
    have hkc : (0 : Int) <= (c : Int) := by omega
    have hkd : (c : Int) < (ls : Int) := by omega
    go_upto_region 7 with (fail)
    obtain ⟨w9, hw9⟩ := zr (w8.alloc (.cells #[.slice A1 n1 d1, .slice A2 n2 d2] 119))
    obtain ⟨h8, hh8⟩ := zl w8.heap.size
    have HSX0 := zx1 hw9 hh8
    have HB9 := zb1 hw9
    have w9s := HB9.out.size
    have w9z := zs1 hw9 hh8
    have HSK0 := zk2 HSX0
    have lHSX0 := HSX0.out.lt
    have h8g : w8.heap.size <= h8 := by omega
    rw [<- hw9, hh8]
    clear hw9 hh8
    have hF9 := HFX0.out.below ((HB5.out.trans (HB8.out.mono HB5.out.size)).trans (HB9.out.mono (by omega)))
    have c4 := (hF9.cell 4 (v := .slice (some ⟨bb, ob, none⟩) ls cs) rfl).1
    have q0 := (HB9.out.cell (p := ⟨bb, ob + c, none⟩) hbs8).trans q0
    have HFXA := hide (fun (W : World) (hW : Below w9.heap.size w9 W) => hF9.below hW)
    have HM1 := hide (HS1.out.into (HB8.out.trans (HB9.out.mono HB8.out.size)) (g := h8) (by omega))
    have HM2 := hide (HS2.out.into (HB8.out.trans (HB9.out.mono HB8.out.size)) (g := h8) (by omega))
    clear hF9 hen
    go_wp2
    go_loopw [35] (fun i wr => ∃ (k3 : Nat) (u1 u2 : Value), k3 <= ll /\ i = .int .i64 k3 /\ Box wr h8 #[u1, u2] 119 /\ Hid (SetM wr (fun b => b = h8) u1 (tk k3).1) /\ Hid (SetM wr (fun b => b = h8) u2 (tk k3).2) /\ But h8 w9 wr /\ Hid (∀ j x, j < k3 -> l[j]? = some x -> ∀ v ∈ jas x, je0 true f v (tk j) = false)) (fun i _ => ll - (intOf i).toNat)
    case atStart => exact ⟨0, _, _, Nat.zero_le _, rfl, HSX0.out, hide (by rw [HT0.out]; exact HM1.out), hide (by rw [HT0.out]; exact HM2.out), But.refl _ _, hide (fun j x h => absurd h (Nat.not_lt_zero _))⟩
    case round =>
     obtain ⟨k3, u1, u2, hk3, rfl, b0, HU1, HU2, hbt, HN3⟩ := hrel
     obtain ⟨wo3, rfl⟩ := zr wr
     have hszo3 := hbt.size
     have HBT := hide hbt
     have HBC := hide (hbt.below HB9.out (by omega) HB9.out.size)
     have HBC5 := hide (HB8.out.trans (HBC.out.mono HB8.out.size))
     have HBCO := hide (HB5O.out.trans (HBC5.out.mono HB5O.out.size))
     have HY0 := hide b0
     have lb0 := b0.lt
     have HF3 := hide (hbt.box (HFXA.out w9 (Below.refl _ _)) (by omega))
     clear hbt b0 c4 q0
     obtain ⟨B1, e1, hq1, -, -, -, -⟩ := HU1.out
     obtain ⟨B2, e2, hq2, -, -, -, -⟩ := HU2.out
     subst hq1
     subst hq2
     by_cases hlt3 : k3 < ll
     case neg =>
      obtain rfl : k3 = ll := by omega
      have HRK := hide (hrg8.kept (jha HBC.out) (by simp) (by simp))
      go_wp2
      go_roundw
      case rel =>
       refine ⟨_, cnt8, HRK.out, HBC5.out, hide (fun c' s' l' hs' hl' hleft => ?_)⟩
       by_cases hcc : c' = c
       ·subst hcc
        have e1 := HLC.out.symm.trans hs'
        have e2 := HLL0.out.symm.trans hl'
        injection e1 with e1
        injection e2 with e2
        subst e1
        subst e2
        refine jqu (fun j x hx v hv => ?_)
        rw [HTK.out]
        exact HN3.out j x (by rw [<- HLL.out]; exact (List.getElem?_eq_some_iff.1 hx).1) hx v hv
       ·exact HN.out c' s' l' hs' hl' (jgw hcc hleft)
      case measure => rw [HRK.out.left_eq, hrg.left_eq]; exact hltc
     have HGK := hide (HGD.out k3)
     obtain ⟨tq, htq⟩ := zl (tk k3)
     rw [htq] at HU1 HU2 HGK
     have HTQ := hide htq
     have HZ0 := hide (show Box wo3 h8 #[.slice B1 tq.1.length e1, .slice B2 tq.2.length e2] 119 by rw [<- htq]; exact HY0.out)
     clear HY0
     clear htq
     obtain ⟨x, hx⟩ : ∃ x, l[k3]? = some x := ⟨_, List.getElem?_eq_getElem (by have := HLL.out; omega)⟩
     obtain ⟨bx, ox, Ay, cy, hAl, hbx, ⟨z0, z1, z2, z3, z4, z5, z6⟩, hxi⟩ := (HLI.out wo3 HBC.out).get hx
     subst hAl
     have HXX := hide hx
     have HXM := hide (List.mem_of_getElem? hx)
     have HNX := hide (HST.out k3 x hx)
     rw [HTQ.out] at HNX
     have HXI := hide (fun (W : World) (hW : Below wo3.heap.size wo3 W) => hxi.keep (up hW (by omega)) (fun _ h => h))
     have HW3 := hide (fun (W : World) (hW : Below wo3.heap.size wo3 W) => HBCO.out.trans (hW.mono HBCO.out.size))
     have HBE2 := hide (fun W (hW : Below wo3.heap.size wo3 W) u1 u2 g1 g2 => HBE1.out x HXM.out (.slice Ay x.args.length cy) W (HW3.out W hW) (HXI.out W hW) u1 u2 tq HGK.out g1 g2)
     have HUS2 := hide (fun W (hW : Below wo3.heap.size wo3 W) => HUS1.out x HXM.out (.slice Ay x.args.length cy) W (HW3.out W hW) (HXI.out W hW))
     have HUR2 := hide (HUR1.out x HXM.out)
     have hbs3 : bx < wo3.heap.size := by omega
     obtain ⟨ul, hul⟩ := zl (jas x)
     have HUL := hide hul
     rw [hul] at HUS2 HUR2
     clear hxi hx HXI hul
     generalize jb2 f x tq = nq at *
     have HPV := hide (fun (W : World) (hW : Below wo3.heap.size wo3 W) => And.intro (HU1.out.below hW).v (HU2.out.below hW).v)
     have HFA1 := hide (fun (v : Int) (hv : i64R v) W (hW : Below wo3.heap.size wo3 W) => HFA.out v hv W (HW3.out W hW) _ _ tq HGK.out (HPV.out W hW).1 (HPV.out W hW).2)
     have HBE3 := hide (fun W (hW : Below wo3.heap.size wo3 W) => HBE2.out W hW _ _ (HPV.out W hW).1 (HPV.out W hW).2)
     clear HBE2 HPV
     obtain ⟨m1, hm1⟩ := zl tq.1.length
     obtain ⟨m2, hm2⟩ := zl tq.2.length
     rw [hm1] at HZ0 HFA1 HBE3
     rw [hm2] at HZ0 HFA1 HBE3
     clear hm1 hm2
     generalize x.args.length = ly, x.op = yo, x.d = yd, x.a = ya, x.b = yb, x.n = yn, x.m = ym at *
     have hki3 : (0 : Int) <= (k3 : Int) := by omega
     have hkl3 : (k3 : Int) < (ll : Int) := by omega
     go_upto_region 10 with (fail)
     obtain ⟨w10, hw10⟩ := zr (wo3.alloc (.cells #[.int .i64 yo, .int .i64 yd, .int .i64 ya, .int .i64 yb, .int .i64 yn, .int .i64 ym, .slice Ay ly cy] 57))
     obtain ⟨h9, hh9⟩ := zl wo3.heap.size
     have HYX0 := zx1 hw10 hh9
     have HB10 := zb1 hw10
     have w10s := HB10.out.size
     have w10z := zs1 hw10 hh9
     have HYK0 := zk7 HYX0
     have lHYX0 := HYX0.out.lt
     have h9g : wo3.heap.size <= h9 := by omega
     rw [<- hw10, hh9]
     clear hw10 hh9
     obtain ⟨x0, x1, x2, x3, x4, x5, x6⟩ := HYK0.out w10 (Below.refl _ _)
     clear z0 z1 z2 z3 z4 z5 z6
     go_wp2_with (go_at_call 83; (with_reducible refine (HUS2.out w10 HB10.out).mono ?_); rintro e w11 ⟨vu, rfl, how, hb11⟩; have HB11 := hide (HB10.out.trans (hb11.mono HB10.out.size)); have HYX11 := hide (HYX0.out.below hb11); obtain ⟨An, cn, hvu, hcn, hcn2, hsl⟩ := how.sl; subst hvu; have HSL := hide hsl; have hz11 := hb11.size; clear how hb11 hsl)
     obtain ⟨nu, hnu⟩ := zl ul.length
     have HNU := hide hnu
     rw [hnu] at hcn ⊢
     clear hnu x0 x1 x2 x3 x4 x5 x6
     have hcn3 : nu <= 9223372036854775807 := by unfold maxLen at hcn2; omega
     have HZ11 := hide (HZ0.out.below HB11.out)
     have HF11 := hide (HF3.out.below HB11.out)
     go_loopw [42] (fun i wr => ∃ k4 : Nat, k4 <= nu /\ i = .int .i64 k4 /\ Below w11.heap.size w11 wr /\ Hid (∀ j v, j < k4 -> ul[j]? = some v -> je0 true f v tq = false)) (fun i _ => nu - (intOf i).toNat)
     case atStart => exact ⟨0, Nat.zero_le _, rfl, Below.refl _ _, hide (fun j v h => absurd h (Nat.not_lt_zero _))⟩
     case round =>
      obtain ⟨k4, hk4, rfl, hb, HN4⟩ := hrel
      obtain ⟨wo4, rfl⟩ := zr wr
      have hszo4 := hb.size
      have HB12 := hide (HB11.out.trans (hb.mono HB11.out.size))
      obtain ⟨s0, f0⟩ := (HZ11.out.below hb).cell 0 (v := .slice B1 m1 e1) rfl
      obtain ⟨s1, f1⟩ := (HZ11.out.below hb).cell 1 (v := .slice B2 m2 e2) rfl
      have HZ12 := hide (HZ11.out.below hb)
      have hF12 := HF11.out.below hb
      have c0 := (hF12.cell 0 (v := .slice Ak lk ck) rfl).1
      have c1 := (hF12.cell 1 (v := .slice Ab lb cb) rfl).1
      have c2 := (hF12.cell 2 (v := .int .i64 fp) rfl).1
      have c3 := (hF12.cell 3 (v := .int .i64 fr) rfl).1
      have c4 := (hF12.cell 4 (v := .slice (some ⟨bb, ob, none⟩) ls cs) rfl).1
      have HBI4 := hide hb
      clear hF12
      by_cases hlt4 : k4 < nu
      case neg =>
       obtain rfl : k4 = nu := by omega
       have hy := HYX11.out.below hb
       clear hb
       obtain ⟨x0, x1, x2, x3, x4, x5, x6⟩ : _ /\ _ /\ _ /\ _ /\ _ /\ _ /\ _ := ⟨(hy.cell 0 (v := .int .i64 yo) rfl).1, (hy.cell 1 (v := .int .i64 yd) rfl).1, (hy.cell 2 (v := .int .i64 ya) rfl).1, (hy.cell 3 (v := .int .i64 yb) rfl).1, (hy.cell 4 (v := .int .i64 yn) rfl).1, (hy.cell 5 (v := .int .i64 ym) rfl).1, (hy.cell 6 (v := .slice Ay ly cy) rfl).1⟩
       clear hy
       go_wp2_with (go_at_call 84; (with_reducible refine (HBE3.out wo4 HB12.out).mono ?_); rintro e w13 ⟨r1, r2, rfl, hn1, hn2, hb13⟩; have HN1 := hide hn1; have HN2 := hide hn2; have HB13 := hide hb13; have hq13 := HZ12.out.below hb13; obtain ⟨t0, g0⟩ := hq13.cell 0 (v := .slice B1 m1 e1) rfl; obtain ⟨t1, g1⟩ := hq13.cell 1 (v := .slice B2 m2 e2) rfl; have HQ13 := hide hq13; obtain ⟨D1, j1, hr1, -, -, -, -⟩ := hn1; obtain ⟨D2, j2, hr2, -, -, -, -⟩ := hn2; subst hr1; subst hr2; have hz13 := hb13.size; clear hb13 hq13)
       obtain ⟨w14, hw14⟩ := zr ((w13.setCell ⟨h8, 0, none⟩ (.slice D1 nq.1.length j1)).setCell ⟨h8, 1, none⟩ (.slice D2 nq.2.length j2))
       have HBG4 := hide (show But h8 w13 w14 by rw [hw14]; exact ((But.refl _ _).set).set)
       have HX14 := hide (show Box w14 h8 #[.slice D1 nq.1.length j1, .slice D2 nq.2.length j2] 119 by rw [hw14]; exact (HQ13.out.set 0 (.slice D1 nq.1.length j1)).set 1 (.slice D2 nq.2.length j2))
       rw [<- hw14]
       clear hw14
       have HRL := hide (show SetM w14 (fun b => b = h8) (.slice D1 nq.1.length j1) (tk (k3 + 1)).1 /\ SetM w14 (fun b => b = h8) (.slice D2 nq.2.length j2) (tk (k3 + 1)).2 by
        have hlt4 : ∀ b, b = h8 -> b < wo4.heap.size := fun b hm => by have := HB12.out.size; omega
        rw [<- HNX.out]
        exact ⟨(HN1.out.setM hlt4).keep HBG4.out.size (fun b hb hm => HBG4.out.block b hb hm) (fun _ _ h => h), (HN2.out.setM hlt4).keep HBG4.out.size (fun b hb hm => HBG4.out.block b hb hm) (fun _ _ h => h)⟩)
       have HBTT := hide (HBT.out.trans' ((But.of_bel (b := h8) (HB12.out.trans (HB13.out.mono HB12.out.size))).trans' HBG4.out))
       go_roundw
       case rel =>
        refine ⟨k3 + 1, _, _, by omega, by go_num, HX14.out, hide HRL.out.1, hide HRL.out.2, HBTT.out, hide (fun j y hj hy v hv => ?_)⟩
        rcases Nat.lt_succ_iff_lt_or_eq.1 hj with hj | rfl
        ·exact HN3.out j y hj hy v hv
        ·have e := HXX.out.symm.trans hy
         injection e with e
         subst e
         rw [HUL.out] at hv
         obtain ⟨i, hi⟩ := List.mem_iff_getElem?.1 hv
         rw [HTQ.out]
         exact HN4.out i v (by rw [<- HNU.out]; exact (List.getElem?_eq_some_iff.1 hi).1) hi
       case measure => simp [intOf]; omega
      obtain ⟨v, hv⟩ : ∃ v, ul[k4]? = some v := ⟨_, List.getElem?_eq_getElem (by have := HNU.out; omega)⟩
      obtain ⟨be, oe, hAe, hbe, hce⟩ := HSL.out (by have := HNU.out; omega)
      subst hAe
      have q1 : wo4.cell? ⟨be, oe + k4, none⟩ = some (.int .i64 v) := by rw [hb.cell (p := ⟨be, oe + k4, none⟩) hbe, hce k4 (by have := HNU.out; omega)]; simp [List.getD, hv]
      have HVV := hide hv
      have HFA2 := hide (HFA1.out v (HUR2.out v (List.mem_of_getElem? hv)))
      obtain ⟨b9, hb9⟩ := zl (je0 true f v tq)
      have HB9F := hide hb9
      rw [hb9] at HFA2
      clear hb9 hce hv hb
      have hki4 : (0 : Int) <= (k4 : Int) := by omega
      have hkl4 : (k4 : Int) < (nu : Int) := by omega
      cases b9
      all_goals
       go_wp2_with (go_at_call 62; (with_reducible refine (HFA2.out wo4 HB12.out).mono ?_); rintro e w13 ⟨rfl, hb13⟩; have HB13 := hide hb13; clear hb13)
      ·go_roundw
       case rel =>
        refine ⟨k4 + 1, by omega, by go_num, HBI4.out.trans (HB13.out.mono HBI4.out.size), hide (fun j y hj hy => ?_)⟩
        rcases Nat.lt_succ_iff_lt_or_eq.1 hj with hj | rfl
        ·exact HN4.out j y hj hy
        ·have e := HVV.out.symm.trans hy
         injection e with e
         subst e
         exact HB9F.out
       case measure => simp [intOf]; omega
      ·go_ret
       exact ⟨true, rfl, ⟨fun _ => ⟨f, HFM.out, c, l, s, HLL0.out, (HBI.out.kat HKF.out HLC.out).1, (HBI.out.kat HKF.out HLC.out).2, k3, x, HXX.out, v, by rw [HUL.out]; exact List.mem_of_getElem? HVV.out, by rw [HTK.out, HTQ.out]; exact HB9F.out⟩, fun _ => rfl⟩, HBEL.out.trans ((HW3.out w13 (HB12.out.trans (HB13.out.mono HB12.out.size))).mono HBEL.out.size)⟩
end Go.Proofs.YthbnbaikdcfbmaaGreatDoor
