/- Texts of several names, of which only what the statement needs is kept. -/
import Derived.Test.YthbnbaikdcfbmaaGreatDoorPmKD
set_option linter.unusedSimpArgs false
set_option linter.unusedVariables false
set_option maxHeartbeats 4000000
set_option maxRecDepth 100000
namespace Go.Proofs.YthbnbaikdcfbmaaGreatDoor
open Go.RowKit
def FitOk (p : List FunV) (x : InsV) : Prop := (1 <= x.op /\ x.op <= 23) /\ (x.op = 19 -> ∃ (n : Nat) (g : FunV), x.n = (n : Int) /\ p[n]? = some g /\ x.args.length <= g.kinds.length)
theorem fitOk_of {p : List FunV} (h : jad p = true) : ∀ f ∈ p, ∀ l ∈ f.blocks, ∀ x ∈ l, FitOk p x := by
 intro f hf l hl x hx
 obtain ⟨-, -, -, hall⟩ := jal h
 obtain ⟨-, -, -, -, hmay⟩ := jah (hall f hf)
 obtain ⟨h1, -, -, -, h5⟩ := jcm (hmay l hl x hx)
 refine ⟨jiv h1, fun h19 => ?_⟩
 unfold jc9 at h5
 rw [if_neg (by omega), if_neg (by omega), if_neg (by omega), if_neg (by omega), if_pos h19] at h5
 unfold jbk at h5
 simp only [Bool.and_eq_true, inB_iff, decide_eq_true_eq] at h5
 obtain ⟨⟨h6, h7⟩, h8⟩ := h5
 cases hg : p[x.n.toNat]? with
 | none => rw [hg] at h8; cases h8
 | some g =>
  rw [hg] at h8
  simp at h8
  have := (jah (hall g (List.mem_of_getElem? hg))).2.1
  exact ⟨x.n.toNat, g, by omega, hg, by omega⟩
theorem jkw {p : List FunV} (h : jad p = true) : ∀ f ∈ p, KOk f := by
 intro f hf
 obtain ⟨-, -, -, hall⟩ := jal h
 obtain ⟨⟨h1, h2, -⟩, ⟨h3, -, h4⟩, -, -, hmay⟩ := jah (hall f hf)
 exact ⟨(jh4 h f hf).1, (jh4 h f hf).2, h2, fun l hl x hx hd => jc6 ((jcm (hmay l hl x hx)).2.2.1 hd), by omega, by omega, h1⟩
def jfc (p : List FunV) (f : FunV) : Bool := f.blocks.all (·.all (fitB p f))
def misB (p : List FunV) : Bool := !p.all (jfc p)
theorem kmis_any (p : List FunV) (vp : Value) (w : World) (B : Nat) (hB : B <= w.heap.size) (hp : FunsV w (· < B) vp p) (hR : RowP w) (hok : ∀ f ∈ p, ∀ l ∈ f.blocks, ∀ x ∈ l, FitOk p x) :
  Calls Tryz.prog 65 #[.agg #[vp]] w fun e w' => e = .returned (.bool (misB p)) /\ Below w.heap.size w w' := by
 have HFI := hide (fun (n : Nat) (f : FunV) (hf : p[n]? = some f) (l : List InsV) (hl : l ∈ f.blocks) (x : InsV) (hx : x ∈ l) (va : Value) (W : World) (hW : Below w.heap.size w W) (hxi : InsI W (· < B) va x) => jrm vp p f n x va W B (by have := hW.size; omega) (hp.keep (up hW hB) (fun _ h => h)) hf hxi (hR.below hW hR.1) (hok f (List.mem_of_getElem? hf) l hl x hx).1 (hok f (List.mem_of_getElem? hf) l hl x hx).2)
 have HPK := hide (fun (W : World) (hW : Below w.heap.size w W) => hp.keep (up hW hB) (fun _ h => h))
 obtain ⟨Ap, cp, rfl, hcp, hmp⟩ := hp.open'
 obtain ⟨lp, hlp⟩ := zl p.length
 have HLP := hide hlp
 rw [hlp] at HPK HFI hcp ⊢
 clear hp hR hok hlp
 go_enter Tryz.func65, Tryz.ntmps65
 go_upto_region 1 with (fail)
 obtain ⟨w1, hw1⟩ := zr (w.alloc (.cells #[.slice Ap lp cp] 24))
 obtain ⟨h5, hh5⟩ := zl w.heap.size
 have HX0 := zx1 hw1 hh5
 have HB1 := zb1 hw1
 have w1s := HB1.out.size
 have w1z := zs1 hw1 hh5
 have HK0 := zk1 HX0
 have lHX0 := HX0.out.lt
 have h5g : w.heap.size <= h5 := by omega
 rw [<- hw1, hh5]
 clear hw1 hh5
 have p0 := HK0.out w1 (Below.refl _ _)
 go_wp2
 go_loopw [12] (fun i wr => ∃ k : Nat, k <= lp /\ i = .int .i64 k /\ Below w1.heap.size w1 wr /\ Hid ((p.take k).all (jfc p) = true)) (fun i _ => lp - (intOf i).toNat)
 case atStart => exact ⟨0, Nat.zero_le _, rfl, Below.refl _ _, hide (by simp)⟩
 case round =>
  obtain ⟨k, hk, rfl, hb, HA⟩ := hrel
  obtain ⟨wo, rfl⟩ := zr wr
  have hszo := hb.size
  have HBEL := hide (HB1.out.trans (hb.mono HB1.out.size))
  have HBW := hide hb
  have HXO := hide (HX0.out.below hb)
  have xp := (HXO.out.cell 0 (v := .slice Ap lp cp) rfl).1
  have lxp := HXO.out.lt
  clear hb p0
  by_cases hlt : k < lp
  case neg =>
   obtain rfl : k = lp := by omega
   go_wp2
   go_ret
   exact ⟨by have h := HA.out; rw [<- HLP.out, List.take_length] at h; unfold misB; rw [h]; rfl, HBEL.out⟩
  obtain ⟨f, hf⟩ : ∃ f, p[k]? = some f := ⟨_, List.getElem?_eq_getElem (by have := HLP.out; omega)⟩
  obtain ⟨bg, og, Ak, ck, Ab, cb, As, cs, hAp, hbgb, ⟨e0, e1, e2, e3, e4⟩, hi⟩ := (HPK.out wo HBEL.out).get hf
  subst hAp
  have HF := hide hf
  have HFI1 := hide (HFI.out k f hf)
  have HIK := hide (fun (W : World) (hW : Below wo.heap.size wo W) => (hi.keep (w := wo) (S := (· < B)) (up hW (by omega)) (fun _ h => h)).2.2.1)
  have hbs : bg < wo.heap.size := by omega
  obtain ⟨ls, hls⟩ := zl f.blocks.length
  have HLS := hide hls
  rw [hls] at HIK e4
  have hm3 : ls <= 9223372036854775807 := by obtain ⟨A, c, -, h1, h2⟩ := hi.2.2.1.open'; omega
  clear hi hls hf
  generalize f.kinds.length = lk, f.base.length = lb, f.params = fp, f.result = fr at *
  have hki : (0 : Int) <= (k : Int) := by omega
  have hkl : (k : Int) < (lp : Int) := by omega
  go_upto_region 4 with (fail)
  obtain ⟨w4, hw4⟩ := zr (wo.alloc (.cells #[.slice Ak lk ck, .slice Ab lb cb, .int .i64 fp, .int .i64 fr, .slice As ls cs] 52))
  obtain ⟨h6, hh6⟩ := zl wo.heap.size
  have HFX0 := zx1 hw4 hh6
  have HB4 := zb1 hw4
  have w4s := HB4.out.size
  have w4z := zs1 hw4 hh6
  have HFK0 := zk5 HFX0
  have lHFX0 := HFX0.out.lt
  have h6g : wo.heap.size <= h6 := by omega
  rw [<- hw4, hh6]
  clear hw4 hh6
  have c4 := (HFK0.out w4 (Below.refl _ _)).2.2.2.2
  have HX4 := hide (HXO.out.below HB4.out)
  clear e0 e1 e2 e3 e4 xp
  go_wp2
  go_loopw [20] (fun i wr => ∃ k2 : Nat, k2 <= ls /\ i = .int .i64 k2 /\ Below w4.heap.size w4 wr /\ Hid ((f.blocks.take k2).all (·.all (fitB p f)) = true)) (fun i _ => ls - (intOf i).toNat)
  case atStart => exact ⟨0, Nat.zero_le _, rfl, Below.refl _ _, hide (by simp)⟩
  case round =>
   obtain ⟨k2, hk2, rfl, hb, HA2⟩ := hrel
   obtain ⟨wo2, rfl⟩ := zr wr
   have hszo2 := hb.size
   have HBW4 := hide (HB4.out.trans (hb.mono HB4.out.size))
   have HBC2 := hide hb
   have HXO2 := hide (HX4.out.below hb)
   have lxp2 := HXO2.out.lt
   clear hb c4
   by_cases hlt2 : k2 < ls
   case neg =>
    obtain rfl : k2 = ls := by omega
    go_wp2
    go_roundw
    case rel => exact ⟨k + 1, by omega, by go_num, HBW.out.trans (HBW4.out.mono hszo), hide (by rw [List.take_add_one, HF.out, List.all_append, HA.out]; have h := HA2.out; rw [<- HLS.out, List.take_length] at h; simp only [Option.toList_some, List.all_cons, List.all_nil, Bool.and_true, Bool.true_and]; exact h)⟩
    case measure => simp [intOf]; omega
   obtain ⟨l, hl⟩ : ∃ l, f.blocks[k2]? = some l := ⟨_, List.getElem?_eq_getElem (by have := HLS.out; omega)⟩
   obtain ⟨bb, ob, Al, cl, hAs, hbb, d0, hli⟩ := (HIK.out wo2 HBW4.out).get hl
   subst hAs
   have HL := hide hl
   have HFI2 := hide (HFI1.out l (List.mem_of_getElem? hl))
   have HLI := hide (fun (W : World) (hW : Below wo2.heap.size wo2 W) => hli.keep (S := (· < B)) (up hW (by omega)) (fun _ h => h))
   have hbs2 : bb < wo2.heap.size := by omega
   obtain ⟨ll, hll⟩ := zl l.length
   have HLL := hide hll
   rw [hll] at HLI d0
   have hm4 : ll <= 9223372036854775807 := by obtain ⟨A, c, -, h1, h2⟩ := hli.open'; omega
   clear hli hll hl
   have hki2 : (0 : Int) <= (k2 : Int) := by omega
   have hkl2 : (k2 : Int) < (ls : Int) := by omega
   go_upto_region 7 with (fail)
   obtain ⟨w5, hw5⟩ := zr (wo2.alloc (.cells #[.slice Al ll cl] 55))
   obtain ⟨h7, hh7⟩ := zl wo2.heap.size
   have HLX0 := zx1 hw5 hh7
   have HB5 := zb1 hw5
   have w5s := HB5.out.size
   have w5z := zs1 hw5 hh7
   have HLK0 := zk1 HLX0
   have lHLX0 := HLX0.out.lt
   have h7g : wo2.heap.size <= h7 := by omega
   rw [<- hw5, hh7]
   clear hw5 hh7
   have q0 := HLK0.out w5 (Below.refl _ _)
   have HX5 := hide (HXO2.out.below HB5.out)
   clear d0
   go_wp2
   go_loopw [27] (fun i wr => ∃ k3 : Nat, k3 <= ll /\ i = .int .i64 k3 /\ Below w5.heap.size w5 wr /\ Hid ((l.take k3).all (fitB p f) = true)) (fun i _ => ll - (intOf i).toNat)
   case atStart => exact ⟨0, Nat.zero_le _, rfl, Below.refl _ _, hide (by simp)⟩
   case round =>
    obtain ⟨k3, hk3, rfl, hb, HA3⟩ := hrel
    obtain ⟨wo3, rfl⟩ := zr wr
    have hszo3 := hb.size
    have HBW5 := hide (HB5.out.trans (hb.mono HB5.out.size))
    have HBC3 := hide hb
    have HXO3 := hide (HX5.out.below hb)
    have lxp3 := HXO3.out.lt
    clear hb q0
    by_cases hlt3 : k3 < ll
    case neg =>
     obtain rfl : k3 = ll := by omega
     go_wp2
     go_roundw
     case rel => exact ⟨k2 + 1, by omega, by go_num, HBC2.out.trans (HBW5.out.mono HBC2.out.size), hide (by rw [List.take_add_one, HL.out, List.all_append, HA2.out]; have h := HA3.out; rw [<- HLL.out, List.take_length] at h; simp only [Option.toList_some, List.all_cons, List.all_nil, Bool.and_true, Bool.true_and]; exact h)⟩
     case measure => simp [intOf]; omega
    obtain ⟨x, hx⟩ : ∃ x, l[k3]? = some x := ⟨_, List.getElem?_eq_getElem (by have := HLL.out; omega)⟩
    obtain ⟨bx, ox, Ay, cy, hAl, hbx, ⟨z0, z1, z2, z3, z4, z5, z6⟩, hxi⟩ := (HLI.out wo3 HBW5.out).get hx
    subst hAl
    have HXX := hide hx
    have HBA := hide (HBEL.out.trans ((HBW4.out.trans (HBW5.out.mono HBW4.out.size)).mono HBEL.out.size))
    have HFI3 := hide (fun W hW => HFI2.out x (List.mem_of_getElem? hx) (.slice Ay x.args.length cy) W (HBA.out.trans (Below.mono hW HBA.out.size)) (hxi.keep (up hW (by omega)) (fun _ h => h)))
    have hbs3 : bx < wo3.heap.size := by omega
    clear hxi hx
    obtain ⟨b9, hb9⟩ := zl (fitB p f x)
    have HB9 := hide hb9
    rw [hb9] at HFI3
    clear hb9
    have hki3 : (0 : Int) <= (k3 : Int) := by omega
    have hkl3 : (k3 : Int) < (ll : Int) := by omega
    generalize x.args.length = ly, x.op = yo, x.d = yd, x.a = ya, x.b = yb, x.n = yn, x.m = ym at *
    go_upto_region 10 with (fail)
    obtain ⟨w6, hw6⟩ := zr (wo3.alloc (.cells #[.int .i64 yo, .int .i64 yd, .int .i64 ya, .int .i64 yb, .int .i64 yn, .int .i64 ym, .slice Ay ly cy] 57))
    obtain ⟨h8, hh8⟩ := zl wo3.heap.size
    have HYX0 := zx1 hw6 hh8
    have HB6 := zb1 hw6
    have w6s := HB6.out.size
    have w6z := zs1 hw6 hh8
    have HYK0 := zk7 HYX0
    have lHYX0 := HYX0.out.lt
    have h8g : wo3.heap.size <= h8 := by omega
    rw [<- hw6, hh8]
    clear hw6 hh8
    obtain ⟨x0, x1, x2, x3, x4, x5, x6⟩ := HYK0.out w6 (Below.refl _ _)
    have p0 := ((HXO3.out.below HB6.out).cell 0 (v := .slice (some ⟨bg, og, none⟩) lp cp) rfl).1
    clear z0 z1 z2 z3 z4 z5 z6
    cases b9
    all_goals
     go_wp2_with (go_at_call 81; (with_reducible refine (HFI3.out w6 HB6.out).mono ?_); rintro e w7 ⟨rfl, hb7⟩; have HB7 := hide (HB6.out.trans (hb7.mono HB6.out.size)); clear hb7)
    ·go_ret
     refine ⟨?_, HBA.out.trans (HB7.out.mono HBA.out.size)⟩
     have : misB p = true := by
      unfold misB
      rw [Bool.not_eq_true', List.all_eq_false]
      exact ⟨f, List.mem_of_getElem? HF.out, by unfold jfc; rw [List.all_eq_true]; intro h; have := h l (List.mem_of_getElem? HL.out); rw [List.all_eq_true] at this; have := this x (List.mem_of_getElem? HXX.out); rw [HB9.out] at this; cases this⟩
     rw [this]; rfl
    ·go_roundw
     case rel => exact ⟨k3 + 1, by omega, by go_num, HBC3.out.trans (HB7.out.mono HBC3.out.size), hide (by rw [List.take_add_one, HXX.out, List.all_append, HA3.out]; simp only [Option.toList_some, List.all_cons, List.all_nil, Bool.and_true, Bool.true_and]; exact HB9.out)⟩
     case measure => simp [intOf]; omega
def je0 (st : Bool) (f : FunV) (v : Int) (s : KSt) : Bool := if st = true then isK f v 2 && !hasB s.2 v else !hasB s.1 v
theorem joo (vk vb vs : Value) (f : FunV) (v : Int) (hv : i64R v) (w : World) (B : Nat) (hB : B <= w.heap.size) (hi : FunI w (· < B) vk vb vs f) (v1 v2 : Value) (s : KSt) (hs : GoodK f s) (h1 : SetV w v1 s.1) (h2 : SetV w v2 s.2) :
  Calls Tryz.prog 60 #[.agg #[vk, vb, .int .i64 f.params, .int .i64 f.result, vs], .int .i64 v, .agg #[v1, v2]] w fun e w' => e = .returned (.bool (je0 false f v s)) /\ Below w.heap.size w w' := by
 have HHA := hide (fun (W : World) (hW : Below w.heap.size w W) => hasV (h1.below hW) (by have := hs.l1; omega) hs.w1 v hv)
 show Calls _ _ _ _ fun e w' => e = .returned (.bool (!hasB s.1 v)) /\ Below w.heap.size w w'
 generalize hasB s.1 v = b1 at *
 obtain ⟨Ak, ck, rfl, hck, hmk⟩ := hi.1.open'
 obtain ⟨Ab, cb, rfl, hcb, hmb⟩ := hi.2.1.open'
 obtain ⟨As, cs, rfl, hcs, hms⟩ := hi.2.2.1.open'
 obtain ⟨A1, d1, rfl, -, -, -⟩ := h1
 obtain ⟨A2, d2, rfl, -, -, -⟩ := h2
 generalize s.1.length = n1, s.2.length = n2 at *
 clear hi hs hv
 generalize f.kinds.length = lk, f.base.length = lb, f.blocks.length = ls, f.params = fp, f.result = fr at *
 go_enter Tryz.func60, Tryz.ntmps60
 go_upto_region 1 with (fail)
 obtain ⟨w1, hw1⟩ := zr ((w.alloc (.cells #[.slice Ak lk ck, .slice Ab lb cb, .int .i64 fp, .int .i64 fr, .slice As ls cs] 52)).alloc (.cells #[.slice A1 n1 d1, .slice A2 n2 d2] 119))
 obtain ⟨h5, hh5⟩ := zl w.heap.size
 have HX0 := zy2 hw1 hh5
 have HX1 := zx2 hw1 hh5
 have HB1 := zb2 hw1
 have w1s := HB1.out.size
 have w1z := zs2 hw1 hh5
 have HK0 := zk5 HX0
 have lHX0 := HX0.out.lt
 have HK1 := zk2 HX1
 have lHX1 := HX1.out.lt
 have h5g : w.heap.size <= h5 := by omega
 rw [<- hw1, hh5]
 clear hw1 hh5
 obtain ⟨c0, c1, c2, c3, c4⟩ := HK0.out w1 (Below.refl _ _)
 obtain ⟨s0, s1⟩ := HK1.out w1 (Below.refl _ _)
 go_wp2_with (go_at_call 61; (with_reducible refine (HHA.out w1 HB1.out).mono ?_); rintro e w2 ⟨rfl, q, rfl⟩)
 go_ret
 exact ⟨rfl, ja0 HB1.out q⟩
theorem jop (vk vb vs : Value) (f : FunV) (v : Int) (hv : i64R v) (w : World) (B : Nat) (hB : B <= w.heap.size) (hi : FunI w (· < B) vk vb vs f) (v1 v2 : Value) (s : KSt) (hs : GoodK f s) (h1 : SetV w v1 s.1) (h2 : SetV w v2 s.2) :
  Calls Tryz.prog 62 #[.agg #[vk, vb, .int .i64 f.params, .int .i64 f.result, vs], .int .i64 v, .agg #[v1, v2]] w fun e w' => e = .returned (.bool (je0 true f v s)) /\ Below w.heap.size w w' := by
 have HHA := hide (fun (W : World) (hW : Below w.heap.size w W) => hasV (h2.below hW) (by have := hs.l2; omega) hs.w2 v hv)
 have HIS := hide (fun (W : World) (hW : Below w.heap.size w W) => jfs vk vb vs f v 2 W B (by have := hW.size; omega) (hi.keep (up hW hB) (fun _ h => h)))
 show Calls _ _ _ _ fun e w' => e = .returned (.bool (isK f v 2 && !hasB s.2 v)) /\ Below w.heap.size w w'
 generalize hasB s.2 v = b1 at *
 generalize isK f v 2 = b2 at *
 obtain ⟨Ak, ck, rfl, hck, hmk⟩ := hi.1.open'
 obtain ⟨Ab, cb, rfl, hcb, hmb⟩ := hi.2.1.open'
 obtain ⟨As, cs, rfl, hcs, hms⟩ := hi.2.2.1.open'
 obtain ⟨A1, d1, rfl, -, -, -⟩ := h1
 obtain ⟨A2, d2, rfl, -, -, -⟩ := h2
 generalize s.1.length = n1, s.2.length = n2 at *
 clear hi hs hv
 generalize f.kinds.length = lk, f.base.length = lb, f.blocks.length = ls, f.params = fp, f.result = fr at *
 cases b2
 all_goals
  go_enter Tryz.func62, Tryz.ntmps62
  go_upto_region 1 with (fail)
  obtain ⟨w1, hw1⟩ := zr ((w.alloc (.cells #[.slice Ak lk ck, .slice Ab lb cb, .int .i64 fp, .int .i64 fr, .slice As ls cs] 52)).alloc (.cells #[.slice A1 n1 d1, .slice A2 n2 d2] 119))
  obtain ⟨h5, hh5⟩ := zl w.heap.size
  have HX0 := zy2 hw1 hh5
  have HX1 := zx2 hw1 hh5
  have HB1 := zb2 hw1
  have w1s := HB1.out.size
  have w1z := zs2 hw1 hh5
  have HK0 := zk5 HX0
  have lHX0 := HX0.out.lt
  have HK1 := zk2 HX1
  have lHX1 := HX1.out.lt
  have h5g : w.heap.size <= h5 := by omega
  rw [<- hw1, hh5]
  clear hw1 hh5
  obtain ⟨c0, c1, c2, c3, c4⟩ := HK0.out w1 (Below.refl _ _)
  obtain ⟨s0, s1⟩ := HK1.out w1 (Below.refl _ _)
  go_wp2_with (first
   | (go_at_call 63; (with_reducible refine (HIS.out w1 HB1.out).mono ?_); rintro e w2 ⟨rfl, hb2⟩; obtain ⟨t0, t1⟩ := HK1.out w2 hb2; have HB2 := hide (HB1.out.trans (hb2.mono HB1.out.size)); clear hb2)
   | (go_at_call 61; (with_reducible refine (HHA.out w2 HB2.out).mono ?_); rintro e w3 ⟨rfl, q, rfl⟩))
  go_ret
  first
   | exact ⟨rfl, ja0 HB2.out q⟩
   | exact ⟨rfl, HB2.out⟩
end Go.Proofs.YthbnbaikdcfbmaaGreatDoor
