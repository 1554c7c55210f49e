/- Layer 8, the program: contracts of restFits and Fits. Condition: the table of rows reads as listed; the operation is one of a program, a .. -/
import Derived.Test.YthbnbaikdcfbmaaGreatDoorPmKC
set_option linter.unusedSimpArgs false
set_option linter.unusedVariables false
set_option maxHeartbeats 4000000
set_option maxRecDepth 100000
namespace Go.Proofs.YthbnbaikdcfbmaaGreatDoor
open Go.RowKit
theorem krest2 (vk vb vs : Value) (f : FunV) (vp : Value) (p : List FunV) (x : InsV) (va : Value) (w : World) (B : Nat) (hB : B <= w.heap.size) (hi : FunI w (· < B) vk vb vs f) (hp : FunsV w (· < B) vp p) (hx : InsI w (· < B) va x) (h2 : x.op = 2) :
  Calls Tryz.prog 99 #[.agg #[vp], .agg #[vk, vb, .int .i64 f.params, .int .i64 f.result, vs], .agg #[.int .i64 x.op, .int .i64 x.d, .int .i64 x.a, .int .i64 x.b, .int .i64 x.n, .int .i64 x.m, va]] w fun e w' => e = .returned (.bool (jb4 p f x)) /\ Below w.heap.size w w' := by
 have HBO := hide (fun (k : Int) (hf hx' : Nat) (W : World) (hW : Below w.heap.size w W) (h1 : FBx W hf vk vb vs f) (h2 : XBx W hx' va x) => jrk vk vb vs f x va k hf hx' W B (by have := hW.size; omega) (hi.keep (up hW hB) (fun _ h => h)) h1 h2)
 have HFX := hide (fun (W : World) (h : Nat) (hb : Box W h #[vk, vb, .int .i64 f.params, .int .i64 f.result, vs] 52) => (show FBx W h vk vb vs f from hb))
 have HXX := hide (fun (W : World) (h : Nat) (hb : Box W h #[.int .i64 2, .int .i64 x.d, .int .i64 x.a, .int .i64 x.b, .int .i64 x.n, .int .i64 x.m, va] 57) => (show XBx W h va x by unfold XBx; rw [h2]; exact hb))
 obtain ⟨Ak, ck, rfl, hck, hmk⟩ := hi.1.open'
 obtain ⟨Ab, cb, rfl, hcb, hmb⟩ := hi.2.1.open'
 obtain ⟨As, cs, rfl, hcs, hms⟩ := hi.2.2.1.open'
 obtain ⟨Ax, cx, rfl, hcx, hmx⟩ := hx.1.open'
 obtain ⟨Ap, cp, rfl, hcp, hmp⟩ := hp.open'
 have hr : jb4 p f x = ((isK f x.d 0 && isK f x.a 0) || (isK f x.d 1 && isK f x.a 1)) := by unfold jb4; rw [if_pos h2]
 rw [hr, h2]
 have HB0 := hide (fun hf hx' W hW h1 h2 => HBO.out 0 hf hx' W hW h1 h2)
 have HB9 := hide (fun hf hx' W hW h1 h2 => HBO.out 1 hf hx' W hW h1 h2)
 clear hr h2 hi hp hx HBO
 generalize (isK f x.d 0 && isK f x.a 0) = b0 at *
 generalize (isK f x.d 1 && isK f x.a 1) = b9 at *
 generalize p.length = lp at *
 generalize x.args.length = lx, x.d = xd, x.a = xa, x.b = xb, x.n = xn, x.m = xm at *
 generalize f.kinds.length = lk, f.base.length = lb, f.blocks.length = ls, f.params = fp, f.result = fr at *
 cases b0
 all_goals
  go_enter Tryz.func99, Tryz.ntmps99
  go_upto_region 1 with (fail)
  obtain ⟨w1, hw1⟩ := zr (((w.alloc (.cells #[.slice Ap lp cp] 24)).alloc (.cells #[.slice Ak lk ck, .slice Ab lb cb, .int .i64 fp, .int .i64 fr, .slice As ls cs] 52)).alloc (.cells #[.int .i64 2, .int .i64 xd, .int .i64 xa, .int .i64 xb, .int .i64 xn, .int .i64 xm, .slice Ax lx cx] 57))
  obtain ⟨h5, hh5⟩ := zl w.heap.size
  have HX0 := zy3 hw1 hh5
  have HX1 := zm3 hw1 hh5
  have HX2 := zx3 hw1 hh5
  have HB1 := zb3 hw1
  have w1s := HB1.out.size
  have w1z := hide (show w1.heap.size = h5 + 1 + 1 + 1 by rw [hw1, <- hh5]; simp only [World.size_alloc])
  have HK0 := zk1 HX0
  have lHX0 := HX0.out.lt
  have HK1 := zk5 HX1
  have lHX1 := HX1.out.lt
  have HK2 := zk7 HX2
  have lHX2 := HX2.out.lt
  rw [<- hw1, hh5]
  clear hw1 hh5
  obtain ⟨x0, x1, x2, x3, x4, x5, x6⟩ := HK2.out w1 (Below.refl _ _)
  obtain ⟨c0, c1, c2, c3, c4⟩ := HK1.out w1 (Below.refl _ _)
  have HUP := hide (fun (W : World) (hW : Below w1.heap.size w1 W) => HB1.out.trans (hW.mono HB1.out.size))
  go_wp2_with (first
    | (go_at_call 123; (with_reducible refine (HB9.out _ _ _ (HUP.out _ HB2.out) (HFX.out _ _ (HX1.out.below HB2.out)) (HXX.out _ _ (HX2.out.below HB2.out))).mono ?_); rintro e w3 ⟨rfl, hb3⟩)
    | (go_at_call 123; (with_reducible refine (HB0.out _ _ _ (HUP.out w1 (Below.refl _ _)) (HFX.out _ _ HX1.out) (HXX.out _ _ HX2.out)).mono ?_); rintro e w2 ⟨rfl, hb2⟩; have HB2 := hide hb2; clear hb2))
  go_ret
  first
   | exact ⟨rfl, (HUP.out _ HB2.out).trans (hb3.mono (HUP.out _ HB2.out).size)⟩
   | exact ⟨rfl, HUP.out _ HB2.out⟩
theorem krest15 (vk vb vs : Value) (f : FunV) (vp : Value) (p : List FunV) (x : InsV) (va : Value) (w : World) (B : Nat) (hB : B <= w.heap.size) (hi : FunI w (· < B) vk vb vs f) (hp : FunsV w (· < B) vp p) (hx : InsI w (· < B) va x) (h15 : x.op = 15) :
  Calls Tryz.prog 99 #[.agg #[vp], .agg #[vk, vb, .int .i64 f.params, .int .i64 f.result, vs], .agg #[.int .i64 x.op, .int .i64 x.d, .int .i64 x.a, .int .i64 x.b, .int .i64 x.n, .int .i64 x.m, va]] w fun e w' => e = .returned (.bool (jb4 p f x)) /\ Below w.heap.size w w' := by
 have HBS := hide (fun (v : Int) (W : World) (hW : Below w.heap.size w W) => jkv vk vb vs f v W B (by have := hW.size; omega) (hi.keep (up hW hB) (fun _ h => h)))
 obtain ⟨Ak, ck, rfl, hck, hmk⟩ := hi.1.open'
 obtain ⟨Ab, cb, rfl, hcb, hmb⟩ := hi.2.1.open'
 obtain ⟨As, cs, rfl, hcs, hms⟩ := hi.2.2.1.open'
 obtain ⟨Ax, cx, rfl, hcx, hmx⟩ := hx.1.open'
 obtain ⟨Ap, cp, rfl, hcp, hmp⟩ := hp.open'
 have hr : jb4 p f x = (jeg f x.d == x.a) := by unfold jb4; rw [if_neg (by omega), if_pos h15]
 rw [hr, h15]
 have HBD := hide (fun W hW => HBS.out x.d W hW)
 generalize jeg f x.d = bd at *
 clear HBS hr h15 hi hp hx
 generalize p.length = lp at *
 generalize x.args.length = lx, x.d = xd, x.a = xa, x.b = xb, x.n = xn, x.m = xm at *
 generalize f.kinds.length = lk, f.base.length = lb, f.blocks.length = ls, f.params = fp, f.result = fr at *
 go_enter Tryz.func99, Tryz.ntmps99
 go_upto_region 1 with (fail)
 obtain ⟨w1, hw1⟩ := zr (((w.alloc (.cells #[.slice Ap lp cp] 24)).alloc (.cells #[.slice Ak lk ck, .slice Ab lb cb, .int .i64 fp, .int .i64 fr, .slice As ls cs] 52)).alloc (.cells #[.int .i64 15, .int .i64 xd, .int .i64 xa, .int .i64 xb, .int .i64 xn, .int .i64 xm, .slice Ax lx cx] 57))
 obtain ⟨h5, hh5⟩ := zl w.heap.size
 have HX0 := zy3 hw1 hh5
 have HX1 := zm3 hw1 hh5
 have HX2 := zx3 hw1 hh5
 have HB1 := zb3 hw1
 have w1s := HB1.out.size
 have w1z := hide (show w1.heap.size = h5 + 1 + 1 + 1 by rw [hw1, <- hh5]; simp only [World.size_alloc])
 have HK0 := zk1 HX0
 have lHX0 := HX0.out.lt
 have HK1 := zk5 HX1
 have lHX1 := HX1.out.lt
 have HK2 := zk7 HX2
 have lHX2 := HX2.out.lt
 rw [<- hw1, hh5]
 clear hw1 hh5
 obtain ⟨x0, x1, x2, x3, x4, x5, x6⟩ := HK2.out w1 (Below.refl _ _)
 obtain ⟨c0, c1, c2, c3, c4⟩ := HK1.out w1 (Below.refl _ _)
 have HUP := hide (fun (W : World) (hW : Below w1.heap.size w1 W) => HB1.out.trans (hW.mono HB1.out.size))
 have HC := hide (show Below w1.heap.size w1 w1.drew from (Below.refl _ _).drew)
 go_upto_region 6 with (fail)
 go_region_held3 (fun w' => (w'.cell? ⟨h5 + 1, 0, none⟩ = some (.slice Ak lk ck) /\ w'.cell? ⟨h5 + 1, 1, none⟩ = some (.slice Ab lb cb) /\ w'.cell? ⟨h5 + 1, 2, none⟩ = some (.int .i64 fp) /\ w'.cell? ⟨h5 + 1, 3, none⟩ = some (.int .i64 fr) /\ w'.cell? ⟨h5 + 1, 4, none⟩ = some (.slice As ls cs)) /\ w'.cell? ⟨h5 + 1 + 1, 1, none⟩ = some (.int .i64 xd) /\ w'.cell? ⟨h5 + 1 + 1, 2, none⟩ = some (.int .i64 xa)) (first | go_keep | (exact q6))
  (first | (go_at_call 124; refine (HBD.out _ (HUP.out _ (ja0 (Below.refl _ _) 1))).mono ?_; rintro e w6 ⟨rfl, hb6⟩; have hc6 : Below w1.heap.size w1 w6 := ⟨hb6.os, hb6.tape, hb6.output, hb6.size, hb6.block⟩; have q6 := And.intro (HK1.out w6 hc6) (And.intro (HK2.out w6 hc6).2.1 (HK2.out w6 hc6).2.2.1); have HB2 := hide hc6; clear hb6 hc6))
 all_goals
  go_wp2
  go_ret
  exact ⟨rfl, HUP.out w6 HB2.out⟩
theorem krest16 (vk vb vs : Value) (f : FunV) (vp : Value) (p : List FunV) (x : InsV) (va : Value) (w : World) (B : Nat) (hB : B <= w.heap.size) (hi : FunI w (· < B) vk vb vs f) (hp : FunsV w (· < B) vp p) (hx : InsI w (· < B) va x) (h16 : x.op = 16) :
  Calls Tryz.prog 99 #[.agg #[vp], .agg #[vk, vb, .int .i64 f.params, .int .i64 f.result, vs], .agg #[.int .i64 x.op, .int .i64 x.d, .int .i64 x.a, .int .i64 x.b, .int .i64 x.n, .int .i64 x.m, va]] w fun e w' => e = .returned (.bool (jb4 p f x)) /\ Below w.heap.size w w' := by
 have HBS := hide (fun (v : Int) (W : World) (hW : Below w.heap.size w W) => jkv vk vb vs f v W B (by have := hW.size; omega) (hi.keep (up hW hB) (fun _ h => h)))
 obtain ⟨Ak, ck, rfl, hck, hmk⟩ := hi.1.open'
 obtain ⟨Ab, cb, rfl, hcb, hmb⟩ := hi.2.1.open'
 obtain ⟨As, cs, rfl, hcs, hms⟩ := hi.2.2.1.open'
 obtain ⟨Ax, cx, rfl, hcx, hmx⟩ := hx.1.open'
 obtain ⟨Ap, cp, rfl, hcp, hmp⟩ := hp.open'
 have hr : jb4 p f x = (jeg f x.d == jeg f x.a) := by unfold jb4; rw [if_neg (by omega), if_neg (by omega), if_pos h16]
 rw [hr, h16]
 have HBD := hide (fun W hW => HBS.out x.d W hW)
 have HBA := hide (fun W hW => HBS.out x.a W hW)
 generalize jeg f x.d = bd at *
 generalize jeg f x.a = ba at *
 clear HBS hr h16 hi hp hx
 generalize p.length = lp at *
 generalize x.args.length = lx, x.d = xd, x.a = xa, x.b = xb, x.n = xn, x.m = xm at *
 generalize f.kinds.length = lk, f.base.length = lb, f.blocks.length = ls, f.params = fp, f.result = fr at *
 go_enter Tryz.func99, Tryz.ntmps99
 go_upto_region 1 with (fail)
 obtain ⟨w1, hw1⟩ := zr (((w.alloc (.cells #[.slice Ap lp cp] 24)).alloc (.cells #[.slice Ak lk ck, .slice Ab lb cb, .int .i64 fp, .int .i64 fr, .slice As ls cs] 52)).alloc (.cells #[.int .i64 16, .int .i64 xd, .int .i64 xa, .int .i64 xb, .int .i64 xn, .int .i64 xm, .slice Ax lx cx] 57))
 obtain ⟨h5, hh5⟩ := zl w.heap.size
 have HX0 := zy3 hw1 hh5
 have HX1 := zm3 hw1 hh5
 have HX2 := zx3 hw1 hh5
 have HB1 := zb3 hw1
 have w1s := HB1.out.size
 have w1z := hide (show w1.heap.size = h5 + 1 + 1 + 1 by rw [hw1, <- hh5]; simp only [World.size_alloc])
 have HK0 := zk1 HX0
 have lHX0 := HX0.out.lt
 have HK1 := zk5 HX1
 have lHX1 := HX1.out.lt
 have HK2 := zk7 HX2
 have lHX2 := HX2.out.lt
 rw [<- hw1, hh5]
 clear hw1 hh5
 obtain ⟨x0, x1, x2, x3, x4, x5, x6⟩ := HK2.out w1 (Below.refl _ _)
 obtain ⟨c0, c1, c2, c3, c4⟩ := HK1.out w1 (Below.refl _ _)
 have HUP := hide (fun (W : World) (hW : Below w1.heap.size w1 W) => HB1.out.trans (hW.mono HB1.out.size))
 have HC := hide (show Below w1.heap.size w1 w1.drew from (Below.refl _ _).drew)
 go_upto_region 8 with (fail)
 go_region_held3 (fun w' => (w'.cell? ⟨h5 + 1, 0, none⟩ = some (.slice Ak lk ck) /\ w'.cell? ⟨h5 + 1, 1, none⟩ = some (.slice Ab lb cb) /\ w'.cell? ⟨h5 + 1, 2, none⟩ = some (.int .i64 fp) /\ w'.cell? ⟨h5 + 1, 3, none⟩ = some (.int .i64 fr) /\ w'.cell? ⟨h5 + 1, 4, none⟩ = some (.slice As ls cs)) /\ w'.cell? ⟨h5 + 1 + 1, 1, none⟩ = some (.int .i64 xd) /\ w'.cell? ⟨h5 + 1 + 1, 2, none⟩ = some (.int .i64 xa)) (first | go_keep | (exact q7) | (exact q6))
  (first
   | (go_at_call 124; refine (HBA.out w6 (HUP.out w6 HC6.out)).mono ?_; rintro e w7 ⟨rfl, hb7⟩; have hc7 := HC6.out.trans (hb7.mono HC6.out.size); have q7 := And.intro (HK1.out w7 hc7) (And.intro (HK2.out w7 hc7).2.1 (HK2.out w7 hc7).2.2.1); have HF := hide hc7; clear hb7 hc7)
   | (go_at_call 124; refine (HBD.out _ (HUP.out _ (ja0 (Below.refl _ _) 1))).mono ?_; rintro e w6 ⟨rfl, hb6⟩; have hc6 : Below w1.heap.size w1 w6 := ⟨hb6.os, hb6.tape, hb6.output, hb6.size, hb6.block⟩; have q6 := And.intro (HK1.out w6 hc6) (And.intro (HK2.out w6 hc6).2.1 (HK2.out w6 hc6).2.2.1); have HC6 := hide hc6; clear hb6 hc6))
 all_goals
  go_wp2
  go_ret
  exact ⟨rfl, HUP.out w7 HF.out⟩
theorem krest19 (vk vb vs : Value) (f : FunV) (vp : Value) (p : List FunV) (x : InsV) (va : Value) (w : World) (B : Nat) (hB : B <= w.heap.size) (hi : FunI w (· < B) vk vb vs f) (hp : FunsV w (· < B) vp p) (hx : InsI w (· < B) va x) (h19 : x.op = 19) (n : Nat) (g : FunV) (e1 : x.n = (n : Int)) (e2 : p[n]? = some g) (e3 : x.args.length <= g.kinds.length) :
  Calls Tryz.prog 99 #[.agg #[vp], .agg #[vk, vb, .int .i64 f.params, .int .i64 f.result, vs], .agg #[.int .i64 x.op, .int .i64 x.d, .int .i64 x.a, .int .i64 x.b, .int .i64 x.n, .int .i64 x.m, va]] w fun e w' => e = .returned (.bool (jb4 p f x)) /\ Below w.heap.size w w' := by
 have HC1 := hide (fun (W : World) (hW : Below w.heap.size w W) => jrj vk vb vs f vp p x va W B (by have := hW.size; omega) (hi.keep (up hW hB) (fun _ h => h)) (hp.keep (up hW hB) (fun _ h => h)) (hx.keep (up hW hB) (fun _ h => h)) g n e1 e2 e3)
 obtain ⟨Ak, ck, rfl, hck, hmk⟩ := hi.1.open'
 obtain ⟨Ab, cb, rfl, hcb, hmb⟩ := hi.2.1.open'
 obtain ⟨As, cs, rfl, hcs, hms⟩ := hi.2.2.1.open'
 obtain ⟨Ax, cx, rfl, hcx, hmx⟩ := hx.1.open'
 obtain ⟨Ap, cp, rfl, hcp, hmp⟩ := hp.open'
 have hr : jb4 p f x = jmr p f x := by unfold jb4; rw [if_neg (by omega), if_neg (by omega), if_neg (by omega), if_pos h19]
 rw [hr]
 rw [h19] at HC1 ⊢
 generalize jmr p f x = cb19 at *
 clear hr h19 hi hp hx e1 e2 e3
 generalize p.length = lp at *
 generalize x.args.length = lx, x.d = xd, x.a = xa, x.b = xb, x.n = xn, x.m = xm at *
 generalize f.kinds.length = lk, f.base.length = lb, f.blocks.length = ls, f.params = fp, f.result = fr at *
 go_enter Tryz.func99, Tryz.ntmps99
 go_upto_region 1 with (fail)
 obtain ⟨w1, hw1⟩ := zr (((w.alloc (.cells #[.slice Ap lp cp] 24)).alloc (.cells #[.slice Ak lk ck, .slice Ab lb cb, .int .i64 fp, .int .i64 fr, .slice As ls cs] 52)).alloc (.cells #[.int .i64 19, .int .i64 xd, .int .i64 xa, .int .i64 xb, .int .i64 xn, .int .i64 xm, .slice Ax lx cx] 57))
 obtain ⟨h5, hh5⟩ := zl w.heap.size
 have HX0 := zy3 hw1 hh5
 have HX1 := zm3 hw1 hh5
 have HX2 := zx3 hw1 hh5
 have HB1 := zb3 hw1
 have w1s := HB1.out.size
 have w1z := hide (show w1.heap.size = h5 + 1 + 1 + 1 by rw [hw1, <- hh5]; simp only [World.size_alloc])
 have HK0 := zk1 HX0
 have lHX0 := HX0.out.lt
 have HK1 := zk5 HX1
 have lHX1 := HX1.out.lt
 have HK2 := zk7 HX2
 have lHX2 := HX2.out.lt
 rw [<- hw1, hh5]
 clear hw1 hh5
 obtain ⟨x0, x1, x2, x3, x4, x5, x6⟩ := HK2.out w1 (Below.refl _ _)
 obtain ⟨c0, c1, c2, c3, c4⟩ := HK1.out w1 (Below.refl _ _)
 have HUP := hide (fun (W : World) (hW : Below w1.heap.size w1 W) => HB1.out.trans (hW.mono HB1.out.size))
 have p0 := HK0.out w1 (Below.refl _ _)
 go_wp2_with (go_at_call 125; (with_reducible refine (HC1.out w1 HB1.out).mono ?_); rintro e w2 ⟨rfl, hb2⟩)
 go_ret
 exact ⟨rfl, HUP.out _ hb2⟩
theorem krest23 (vk vb vs : Value) (f : FunV) (vp : Value) (p : List FunV) (x : InsV) (va : Value) (w : World) (B : Nat) (hB : B <= w.heap.size) (hi : FunI w (· < B) vk vb vs f) (hp : FunsV w (· < B) vp p) (hx : InsI w (· < B) va x) (h23 : x.op = 23) :
  Calls Tryz.prog 99 #[.agg #[vp], .agg #[vk, vb, .int .i64 f.params, .int .i64 f.result, vs], .agg #[.int .i64 x.op, .int .i64 x.d, .int .i64 x.a, .int .i64 x.b, .int .i64 x.n, .int .i64 x.m, va]] w fun e w' => e = .returned (.bool (jb4 p f x)) /\ Below w.heap.size w w' := by
 have HISK := hide (fun (v k : Int) (W : World) (hW : Below w.heap.size w W) => jfs vk vb vs f v k W B (by have := hW.size; omega) (hi.keep (up hW hB) (fun _ h => h)))
 obtain ⟨Ak, ck, rfl, hck, hmk⟩ := hi.1.open'
 obtain ⟨Ab, cb, rfl, hcb, hmb⟩ := hi.2.1.open'
 obtain ⟨As, cs, rfl, hcs, hms⟩ := hi.2.2.1.open'
 obtain ⟨Ax, cx, rfl, hcx, hmx⟩ := hx.1.open'
 obtain ⟨Ap, cp, rfl, hcp, hmp⟩ := hp.open'
 have hr : jb4 p f x = isK f x.a f.result := by unfold jb4; rw [if_neg (by omega), if_neg (by omega), if_neg (by omega), if_neg (by omega), if_pos h23]
 rw [hr, h23]
 have HI1 := hide (fun W hW => HISK.out x.a f.result W hW)
 generalize isK f x.a f.result = br at *
 clear hr h23 hi hp hx HISK
 generalize p.length = lp at *
 generalize x.args.length = lx, x.d = xd, x.a = xa, x.b = xb, x.n = xn, x.m = xm at *
 generalize f.kinds.length = lk, f.base.length = lb, f.blocks.length = ls, f.params = fp, f.result = fr at *
 go_enter Tryz.func99, Tryz.ntmps99
 go_upto_region 1 with (fail)
 obtain ⟨w1, hw1⟩ := zr (((w.alloc (.cells #[.slice Ap lp cp] 24)).alloc (.cells #[.slice Ak lk ck, .slice Ab lb cb, .int .i64 fp, .int .i64 fr, .slice As ls cs] 52)).alloc (.cells #[.int .i64 23, .int .i64 xd, .int .i64 xa, .int .i64 xb, .int .i64 xn, .int .i64 xm, .slice Ax lx cx] 57))
 obtain ⟨h5, hh5⟩ := zl w.heap.size
 have HX0 := zy3 hw1 hh5
 have HX1 := zm3 hw1 hh5
 have HX2 := zx3 hw1 hh5
 have HB1 := zb3 hw1
 have w1s := HB1.out.size
 have w1z := hide (show w1.heap.size = h5 + 1 + 1 + 1 by rw [hw1, <- hh5]; simp only [World.size_alloc])
 have HK0 := zk1 HX0
 have lHX0 := HX0.out.lt
 have HK1 := zk5 HX1
 have lHX1 := HX1.out.lt
 have HK2 := zk7 HX2
 have lHX2 := HX2.out.lt
 rw [<- hw1, hh5]
 clear hw1 hh5
 obtain ⟨x0, x1, x2, x3, x4, x5, x6⟩ := HK2.out w1 (Below.refl _ _)
 obtain ⟨c0, c1, c2, c3, c4⟩ := HK1.out w1 (Below.refl _ _)
 have HUP := hide (fun (W : World) (hW : Below w1.heap.size w1 W) => HB1.out.trans (hW.mono HB1.out.size))
 go_wp2_with (go_at_call 63; (with_reducible refine (HI1.out w1 HB1.out).mono ?_); rintro e w2 ⟨rfl, hb2⟩)
 go_ret
 exact ⟨rfl, HUP.out _ hb2⟩
theorem krestO (vk vb vs : Value) (f : FunV) (vp : Value) (p : List FunV) (x : InsV) (va : Value) (w : World) (B : Nat) (hB : B <= w.heap.size) (hi : FunI w (· < B) vk vb vs f) (hp : FunsV w (· < B) vp p) (hx : InsI w (· < B) va x) (h2 : ¬ x.op = 2) (h15 : ¬ x.op = 15) (h16 : ¬ x.op = 16) (h19 : ¬ x.op = 19) (h23 : ¬ x.op = 23) :
  Calls Tryz.prog 99 #[.agg #[vp], .agg #[vk, vb, .int .i64 f.params, .int .i64 f.result, vs], .agg #[.int .i64 x.op, .int .i64 x.d, .int .i64 x.a, .int .i64 x.b, .int .i64 x.n, .int .i64 x.m, va]] w fun e w' => e = .returned (.bool (jb4 p f x)) /\ Below w.heap.size w w' := by
 obtain ⟨Ak, ck, rfl, hck, hmk⟩ := hi.1.open'
 obtain ⟨Ab, cb, rfl, hcb, hmb⟩ := hi.2.1.open'
 obtain ⟨As, cs, rfl, hcs, hms⟩ := hi.2.2.1.open'
 obtain ⟨Ax, cx, rfl, hcx, hmx⟩ := hx.1.open'
 obtain ⟨Ap, cp, rfl, hcp, hmp⟩ := hp.open'
 have hr : jb4 p f x = true := by unfold jb4; rw [if_neg h2, if_neg h15, if_neg h16, if_neg h19, if_neg h23]
 rw [hr]
 have q2 : (x.op == 2) = false := by simpa using h2
 have q15 : (x.op == 15) = false := by simpa using h15
 have q16 : (x.op == 16) = false := by simpa using h16
 have q19 : (x.op == 19) = false := by simpa using h19
 have q23 : (x.op == 23) = false := by simpa using h23
 clear hr h2 h15 h16 h19 h23 hi hp hx
 generalize p.length = lp at *
 generalize x.args.length = lx, x.op = xo, x.d = xd, x.a = xa, x.b = xb, x.n = xn, x.m = xm at *
 generalize f.kinds.length = lk, f.base.length = lb, f.blocks.length = ls, f.params = fp, f.result = fr at *
 go_enter Tryz.func99, Tryz.ntmps99
 go_upto_region 1 with (fail)
 obtain ⟨w1, hw1⟩ := zr (((w.alloc (.cells #[.slice Ap lp cp] 24)).alloc (.cells #[.slice Ak lk ck, .slice Ab lb cb, .int .i64 fp, .int .i64 fr, .slice As ls cs] 52)).alloc (.cells #[.int .i64 xo, .int .i64 xd, .int .i64 xa, .int .i64 xb, .int .i64 xn, .int .i64 xm, .slice Ax lx cx] 57))
 obtain ⟨h5, hh5⟩ := zl w.heap.size
 have HX0 := zy3 hw1 hh5
 have HX1 := zm3 hw1 hh5
 have HX2 := zx3 hw1 hh5
 have HB1 := zb3 hw1
 have w1s := HB1.out.size
 have w1z := hide (show w1.heap.size = h5 + 1 + 1 + 1 by rw [hw1, <- hh5]; simp only [World.size_alloc])
 have HK0 := zk1 HX0
 have lHX0 := HX0.out.lt
 have HK1 := zk5 HX1
 have lHX1 := HX1.out.lt
 have HK2 := zk7 HX2
 have lHX2 := HX2.out.lt
 rw [<- hw1, hh5]
 clear hw1 hh5
 obtain ⟨x0, x1, x2, x3, x4, x5, x6⟩ := HK2.out w1 (Below.refl _ _)
 obtain ⟨c0, c1, c2, c3, c4⟩ := HK1.out w1 (Below.refl _ _)
 have HUP := hide (fun (W : World) (hW : Below w1.heap.size w1 W) => HB1.out.trans (hW.mono HB1.out.size))
 go_wp2
 go_ret
 exact ⟨rfl, HB1.out⟩
theorem jre (vk vb vs : Value) (f : FunV) (vp : Value) (p : List FunV) (x : InsV) (va : Value) (w : World) (B : Nat) (hB : B <= w.heap.size) (hi : FunI w (· < B) vk vb vs f) (hp : FunsV w (· < B) vp p) (hx : InsI w (· < B) va x) (hcall : x.op = 19 -> ∃ (n : Nat) (g : FunV), x.n = (n : Int) /\ p[n]? = some g /\ x.args.length <= g.kinds.length) :
  Calls Tryz.prog 99 #[.agg #[vp], .agg #[vk, vb, .int .i64 f.params, .int .i64 f.result, vs], .agg #[.int .i64 x.op, .int .i64 x.d, .int .i64 x.a, .int .i64 x.b, .int .i64 x.n, .int .i64 x.m, va]] w fun e w' => e = .returned (.bool (jb4 p f x)) /\ Below w.heap.size w w' := by
 by_cases h2 : x.op = 2
 ·exact krest2 vk vb vs f vp p x va w B hB hi hp hx h2
 by_cases h15 : x.op = 15
 ·exact krest15 vk vb vs f vp p x va w B hB hi hp hx h15
 by_cases h16 : x.op = 16
 ·exact krest16 vk vb vs f vp p x va w B hB hi hp hx h16
 by_cases h19 : x.op = 19
 ·obtain ⟨n, g, e1, e2, e3⟩ := hcall h19
  exact krest19 vk vb vs f vp p x va w B hB hi hp hx h19 n g e1 e2 e3
 by_cases h23 : x.op = 23
 ·exact krest23 vk vb vs f vp p x va w B hB hi hp hx h23
 exact krestO vk vb vs f vp p x va w B hB hi hp hx h2 h15 h16 h19 h23
theorem jrm (vp : Value) (p : List FunV) (f : FunV) (n : Nat) (x : InsV) (va : Value) (w : World) (B : Nat) (hB : B <= w.heap.size) (hp : FunsV w (· < B) vp p) (hf : p[n]? = some f) (hx : InsI w (· < B) va x) (hR : RowP w) (hop : 1 <= x.op /\ x.op <= 23) (hcall : x.op = 19 -> ∃ (n : Nat) (g : FunV), x.n = (n : Int) /\ p[n]? = some g /\ x.args.length <= g.kinds.length) :
  Calls Tryz.prog 81 #[.agg #[vp], .int .i64 (n : Int), .agg #[.int .i64 x.op, .int .i64 x.d, .int .i64 x.a, .int .i64 x.b, .int .i64 x.n, .int .i64 x.m, va]] w fun e w' => e = .returned (.bool (fitB p f x)) /\ Below w.heap.size w w' := by
 obtain ⟨Ap, cp, rfl, hcp, hmp⟩ := hp.open'
 obtain ⟨bg, og, Ak, ck, Ab, cb, As, cs, hAp, hbgb, ⟨e0, e1, e2, e3, e4⟩, hi⟩ := hp.get hf
 subst hAp
 have HRO := hide (fun (W : World) (hW : Below w.heap.size w W) => jkt (.slice Ak f.kinds.length ck) (.slice Ab f.base.length cb) (.slice As f.blocks.length cs) f x va W B (by have := hW.size; omega) (hi.keep (up hW hB) (fun _ h => h)) (hx.keep (up hW hB) (fun _ h => h)) (hR.below hW hR.1) hop)
 have HRE := hide (fun (W : World) (hW : Below w.heap.size w W) => jre (.slice Ak f.kinds.length ck) (.slice Ab f.base.length cb) (.slice As f.blocks.length cs) f _ p x va W B (by have := hW.size; omega) (hi.keep (up hW hB) (fun _ h => h)) (hp.keep (up hW hB) (fun _ h => h)) (hx.keep (up hW hB) (fun _ h => h)) hcall)
 have HOP := hide (fun (W : World) => jrg x.op W hop)
 obtain ⟨Ax, cx, rfl, hcx, hmx⟩ := hx.1.open'
 have hnp : n < p.length := (List.getElem?_eq_some_iff.1 hf).1
 have hbw : bg < w.heap.size := by omega
 unfold fitB
 generalize rowB f x = b0 at *
 generalize jb4 p f x = b9 at *
 clear hp hf hx hR hop hcall hi
 generalize p.length = lp at *
 generalize x.args.length = lx, x.op = xo, x.d = xd, x.a = xa, x.b = xb, x.n = xn, x.m = xm at *
 generalize f.kinds.length = lk, f.base.length = lb, f.blocks.length = ls, f.params = fp, f.result = fr at *
 cases b0
 all_goals
  go_enter Tryz.func81, Tryz.ntmps81
  go_upto_region 1 with (fail)
  obtain ⟨w1, hw1⟩ := zr ((w.alloc (.cells #[.slice (some ⟨bg, og, none⟩) lp cp] 24)).alloc (.cells #[.int .i64 xo, .int .i64 xd, .int .i64 xa, .int .i64 xb, .int .i64 xn, .int .i64 xm, .slice Ax lx cx] 57))
  obtain ⟨h5, hh5⟩ := zl w.heap.size
  have HX0 := zy2 hw1 hh5
  have HX1 := zx2 hw1 hh5
  have HB1 := zb2 hw1
  have w1s := HB1.out.size
  have w1z := zs2 hw1 hh5
  have HK0 := zk1 HX0
  have lHX0 := HX0.out.lt
  have HK1 := zk7 HX1
  have lHX1 := HX1.out.lt
  rw [<- hw1, hh5]
  clear hw1 hh5
  obtain ⟨x0, x1, x2, x3, x4, x5, x6⟩ := HK1.out w1 (Below.refl _ _)
  have p0 := HK0.out w1 (Below.refl _ _)
  have g0 := (HB1.out.cell (p := ⟨bg, og + n * 5, none⟩) hbw).trans e0
  have g1 := (HB1.out.cell (p := ⟨bg, og + n * 5 + 1, none⟩) hbw).trans e1
  have g2 := (HB1.out.cell (p := ⟨bg, og + n * 5 + 2, none⟩) hbw).trans e2
  have g3 := (HB1.out.cell (p := ⟨bg, og + n * 5 + 3, none⟩) hbw).trans e3
  have g4 := (HB1.out.cell (p := ⟨bg, og + n * 5 + 4, none⟩) hbw).trans e4
  go_upto_region 4 with (go_at_call 97; (with_reducible refine (HOP.out _).mono ?_); rintro e w' ⟨rfl, rfl⟩)
  obtain ⟨w2, hw2⟩ := zr (w1.alloc (.cells #[.slice Ak lk ck, .slice Ab lb cb, .int .i64 fp, .int .i64 fr, .slice As ls cs] 52))
  obtain ⟨h6, hh6⟩ := zl w1.heap.size
  have HL0 := zx1 hw2 hh6
  have HB2 := zb1 hw2
  have w2s := HB2.out.size
  have w2z := zs1 hw2 hh6
  have HQ0 := zk5 HL0
  have lHL0 := HL0.out.lt
  rw [<- hw2, hh6]
  clear hw2 hh6
  clear g0 g1 g2 g3 g4 x0 x1 x2 x3 x4 x5 x6 p0
  have HUP := hide (fun (W : World) (hW : Below w2.heap.size w2 W) => HB1.out.trans ((HB2.out.trans (hW.mono HB2.out.size)).mono HB1.out.size))
  obtain ⟨y0, y1, y2, y3, y4, y5, y6⟩ := HK1.out w2 HB2.out
  have p1 := HK0.out w2 HB2.out
  obtain ⟨c0, c1, c2, c3, c4⟩ := HQ0.out w2 (Below.refl _ _)
  go_wp2_with (first
   | (go_at_call 98; (with_reducible refine (HRO.out _ (HUP.out w2 (Below.refl _ _))).mono ?_); rintro e w3 ⟨rfl, hb3⟩; obtain ⟨d0, d1, d2, d3, d4⟩ := HQ0.out w3 hb3; obtain ⟨z0, z1, z2, z3, z4, z5, z6⟩ := HK1.out w3 (HB2.out.trans (hb3.mono HB2.out.size)); have p2 := HK0.out w3 (HB2.out.trans (hb3.mono HB2.out.size)); have hz3 := hb3.size; have HB3 := hide hb3; clear hb3)
   | (go_at_call 99; (with_reducible refine (HRE.out _ (HUP.out _ HB3.out)).mono ?_); rintro e w4 ⟨rfl, hb4⟩))
  go_ret
  first
   | exact ⟨rfl, (HUP.out _ HB3.out).trans (hb4.mono (HUP.out _ HB3.out).size)⟩
   | exact ⟨rfl, HUP.out _ HB3.out⟩
end Go.Proofs.YthbnbaikdcfbmaaGreatDoor
