/- Layer 8, the program: contracts of Step, behind, through, meet, same, arguments, Contains. Condition: the table of parts reads as listed. -/
import Derived.Test.YthbnbaikdcfbmaaGreatDoorPmKB
import Derived.Test.YthbnbaikdcfbmaaGreatDoorPmNQ
set_option linter.unusedSimpArgs false
set_option linter.unusedVariables false
set_option maxHeartbeats 4000000
set_option maxRecDepth 100000
namespace Go.Proofs.YthbnbaikdcfbmaaGreatDoor
open Go.RowKit
def WN (W w' : World) (v : Value) (s : List Nat) : Prop := ∃ A c, v = .slice A s.length c /\ s.length <= c /\ c <= 9223372036854775807 /\ Sl w' w'.heap.size .u64 A (nI s) /\ ∀ b o, A = some ⟨b, o, none⟩ -> W.heap.size <= b
theorem WN.below {W w w1 : World} {v : Value} {s : List Nat} (h : WN W w v s) (hb : Below w.heap.size w w1) : WN W w1 v s := by
 obtain ⟨A, c, h1, h2, h3, h4, h5⟩ := h
 exact ⟨A, c, h1, h2, h3, (h4.below hb).more hb.size, h5⟩
theorem WN.lower {W W0 w : World} {v : Value} {s : List Nat} (h : WN W w v s) (hb : W0.heap.size <= W.heap.size) : WN W0 w v s := by
 obtain ⟨A, c, h1, h2, h3, h4, h5⟩ := h
 exact ⟨A, c, h1, h2, h3, h4, fun b o e => Nat.le_trans hb (h5 b o e)⟩
theorem MadeN.wn {W : World} {r : List Nat} {e : Ending} {w' : World} (h : MadeN W r e w') : ∃ v, e = .returned v /\ WN W w' v r /\ Below W.heap.size W w' := by
 obtain ⟨A, c, h1, h2, h3, h4, h5, h6⟩ := h
 exact ⟨_, h1, ⟨A, c, rfl, h2, h3, h4, h6⟩, h5⟩
def SetV (w : World) (v : Value) (s : List Nat) : Prop := ∃ A c, v = .slice A s.length c /\ s.length <= c /\ c <= 9223372036854775807 /\ Sl w w.heap.size .u64 A (nI s)
theorem WN.ws {W w : World} {v : Value} {s : List Nat} (h : WN W w v s) : SetV w v s := let ⟨A, c, h1, h2, h3, h4, _⟩ := h; ⟨A, c, h1, h2, h3, h4⟩
theorem SetV.below {w w1 : World} {v : Value} {s : List Nat} (h : SetV w v s) (hb : Below w.heap.size w w1) : SetV w1 v s := by
 obtain ⟨A, c, h1, h2, h3, h4⟩ := h
 exact ⟨A, c, h1, h2, h3, (h4.below hb).more hb.size⟩
theorem withV {w : World} {v : Value} {s : List Nat} (h : SetV w v s) (hl : s.length <= 1000) (hw : W64 s) (T : Option Addr) (m d : Nat) (l : List Int) (hr : Sl w w.heap.size .i64 T l) (hm : l.length = m) (hm2 : m <= 1099511627776) (hR : ∀ z ∈ l, i64R z) :
  Calls Tryz.prog 137 #[v, .slice T m d] w fun e w' => ∃ r, e = .returned r /\ WN w w' r (jaw [s, ofL l]) /\ Below w.heap.size w w' := by
 obtain ⟨A, c, rfl, h2, h3, h4⟩ := h
 exact (jpi A T s.length c m d s l w ⟨h4, hw, h2, h3⟩ rfl (by omega) hr hm hm2 (fun z hz => hR z hz)).mono fun _ _ h => h.wn
theorem jmx {w : World} {v : Value} {s : List Nat} (h : SetV w v s) (hl : s.length <= 1000) (hw : W64 s) (T : Option Addr) (m d : Nat) (l : List Int) (hr : Sl w w.heap.size .i64 T l) (hm : l.length = m) (hm2 : m <= 1099511627776) (hR : ∀ z ∈ l, i64R z) :
  Calls Tryz.prog 138 #[v, .slice T m d] w fun e w' => ∃ r, e = .returned r /\ WN w w' r (ja3 s l) /\ Below w.heap.size w w' := by
 obtain ⟨A, c, rfl, h2, h3, h4⟩ := h
 exact (jjk A T s.length c m d s l w h4 rfl (by omega) hw hr hm hm2 (fun z hz => hR z hz)).mono fun _ _ h => h.wn
theorem hasV {w : World} {v : Value} {s : List Nat} (h : SetV w v s) (hl : s.length <= 1000) (hw : W64 s) (m : Int) (hR : i64R m) :
  Calls Tryz.prog 61 #[v, .int .i64 m] w fun e w' => e = .returned (.bool (hasB s m)) /\ ∃ q, w' = w.drewN q := by
 obtain ⟨A, c, rfl, h2, h3, h4⟩ := h
 exact has_any A s.length c s m w _ h4 rfl (by omega) hw hR
theorem meetV {w : World} {v u : Value} {s t : List Nat} (h : SetV w v s) (h' : SetV w u t) (hl : s.length <= 1000) (hl' : t.length <= 1000) (hw : W64 s) (hw' : W64 t) :
  Calls Tryz.prog 155 #[v, u] w fun e w' => ∃ r, e = .returned r /\ WN w w' r (jce s t) /\ Below w.heap.size w w' := by
 obtain ⟨A, c, rfl, h2, h3, h4⟩ := h
 obtain ⟨A', c', rfl, h2', h3', h4'⟩ := h'
 exact (jr5 A A' s.length c t.length c' s t w h4 h4' rfl rfl h2 h3 h2' h3' (by omega) hw hw').mono fun _ _ h => h.wn
theorem sameV {w : World} {v u : Value} {s t : List Nat} (h : SetV w v s) (h' : SetV w u t) (hl : s.length <= 1000) (hl' : t.length <= 1000) (ts : Tidy s) (tt : Tidy t) :
  Calls Tryz.prog 156 #[v, u] w fun e w' => e = .returned (.bool (decide (s = t))) /\ ∃ q, w' = w.drewN q := by
 obtain ⟨A, c, rfl, h2, h3, h4⟩ := h
 obtain ⟨A', c', rfl, h2', h3', h4'⟩ := h'
 have := jsn A A' s.length c t.length c' s t w _ _ h4 h4' rfl rfl h2 h3 h2' h3' (by omega) (by omega)
 rw [jcv ts, jcv tt] at this
 exact this
theorem kstep_no (vk vb vs : Value) (f : FunV) (x : InsV) (va : Value) (w : World) (B : Nat) (hB : B <= w.heap.size) (hi : FunI w (· < B) vk vb vs f) (hx : InsI w (· < B) va x) (hT : TabP w) (v1 v2 : Value) (s : KSt) (hs : GoodK f s) (h1 : SetV w v1 s.1) (h2 : SetV w v2 s.2) (h68 : ja9 x.op 68 = false) :
  Calls Tryz.prog 106 #[.agg #[vk, vb, .int .i64 f.params, .int .i64 f.result, vs], .agg #[.int .i64 x.op, .int .i64 x.d, .int .i64 x.a, .int .i64 x.b, .int .i64 x.n, .int .i64 x.m, va], v1, v2] w fun e w' => ∃ r1 r2, e = .returned (.tuple #[r1, r2]) /\ WN w w' r1 (jb2 f x s).1 /\ WN w w' r2 (jb2 f x s).2 /\ Below w.heap.size w w' := by
 have hst : jb2 f x s = (jaw [s.1, ofL []], jaw [s.2, ofL []]) := by unfold jb2; rw [h68]; rfl
 rw [hst]
 have HSE := hide (fun (W : World) (hW : Below w.heap.size w W) (A : Option Addr) (n c : Nat) => jin x A n c W (hT.below hW hT.1) hx.2.1)
 rw [h68] at HSE
 have hl1 := hs.l1
 have hl2 := hs.l2
 have HW1 := hide hs.w1
 have HW2 := hide hs.w2
 have HS1 := hide (fun (W : World) (hW : Below w.heap.size w W) => withV (h1.below hW) (by omega) hs.w1 none 0 0 [] (Sl.nil _ _ _ _) rfl (by omega) (by simp))
 have HS2 := hide (fun (W : World) (hW : Below w.heap.size w W) => withV (h2.below hW) (by omega) hs.w2 none 0 0 [] (Sl.nil _ _ _ _) rfl (by omega) (by simp))
 obtain ⟨Ak, ck, rfl, hck, hmk⟩ := hi.1.open'
 obtain ⟨Ab, cb, rfl, hcb, hmb⟩ := hi.2.1.open'
 obtain ⟨As, cs, rfl, hcs, hms⟩ := hi.2.2.1.open'
 obtain ⟨Ax, cx, rfl, hcx, hmx⟩ := hx.1.open'
 obtain ⟨A1, d1, rfl, -, -, -⟩ := h1
 obtain ⟨A2, d2, rfl, -, -, -⟩ := h2
 generalize jaw [s.1, ofL []] = j1, jaw [s.2, ofL []] = j2, s.1.length = n1, s.2.length = n2 at *
 clear hi hx hT hs h68 hst
 generalize x.args.length = lx, x.op = xo, x.d = xd, x.a = xa, x.b = xb, x.n = xn, x.m = xm at *
 generalize f.kinds.length = lk, f.base.length = lb, f.blocks.length = ls, f.params = fp, f.result = fr at *
 simp only [if_neg (show ¬ (false = true) by simp)] at HSE
 go_enter Tryz.func106, Tryz.ntmps106
 go_upto_region 1 with (fail)
 obtain ⟨w1, hw1⟩ := zr ((w.alloc (.cells #[.slice Ak lk ck, .slice Ab lb cb, .int .i64 fp, .int .i64 fr, .slice As ls cs] 52)).alloc (.cells #[.int .i64 xo, .int .i64 xd, .int .i64 xa, .int .i64 xb, .int .i64 xn, .int .i64 xm, .slice Ax lx cx] 57))
 obtain ⟨h5, hh5⟩ := zl w.heap.size
 have HX0 := zy2 hw1 hh5
 have HX1 := zx2 hw1 hh5
 have HB1 := zb2 hw1
 have w1s := HB1.out.size
 have w1z := zs2 hw1 hh5
 have HK0 := zk5 HX0
 have lHX0 := HX0.out.lt
 have HK1 := zk7 HX1
 have lHX1 := HX1.out.lt
 rw [<- hw1, hh5]
 clear hw1 hh5
 obtain ⟨x0, x1, x2, x3, x4, x5, x6⟩ := HK1.out w1 (Below.refl _ _)
 go_wp2_with (first
  | (go_at_call 137; (with_reducible refine (HS2.out _ HB3.out).mono ?_); rintro e w4 ⟨r2, rfl, hn2, hb4⟩)
  | (go_at_call 137; (with_reducible refine (HS1.out _ HB2.out).mono ?_); rintro e w3 ⟨r1, rfl, hn1, hb3⟩; have HN1 := hide hn1; have HB3 := hide (HB2.out.trans (hb3.mono HB2.out.size)); have hz3 := hb3.size; clear hn1 hb3)
  | (go_at_call 136; (with_reducible refine (HSE.out _ HB1.out _ _ _).mono ?_); rintro e w2 ⟨rfl, hb2⟩; have HB2 := hide (HB1.out.trans (hb2.mono HB1.out.size)); have hz2 := hb2.size; clear hb2))
 go_ret2
 exact ⟨_, _, rfl, (HN1.out.below hb4).lower HB2.out.size, hn2.lower HB3.out.size, HB3.out.trans (hb4.mono HB3.out.size)⟩
theorem jje (w : World) (n : Nat) (o : Obj) : Below w.heap.size w ((w.drewN n).alloc o) := by
 have h := ja4 (w.drewN n) o
 exact ⟨h.os, h.tape, h.output, h.size, h.block⟩
theorem jrb (vk vb vs : Value) (f : FunV) (x : InsV) (va : Value) (w : World) (B : Nat) (hB : B <= w.heap.size) (hi : FunI w (· < B) vk vb vs f) (hx : InsI w (· < B) va x) (hT : TabP w) (v1 v2 : Value) (s : KSt) (hs : GoodK f s) (h1 : SetV w v1 s.1) (h2 : SetV w v2 s.2) (h68 : ja9 x.op 68 = true) (dn : Nat) (hd : x.d = (dn : Int)) (hdl : dn < f.kinds.length) (hbl : f.base.length <= 1000) (hk : f.kinds.length <= 1000) :
  Calls Tryz.prog 106 #[.agg #[vk, vb, .int .i64 f.params, .int .i64 f.result, vs], .agg #[.int .i64 x.op, .int .i64 x.d, .int .i64 x.a, .int .i64 x.b, .int .i64 x.n, .int .i64 x.m, va], v1, v2] w fun e w' => ∃ r1 r2, e = .returned (.tuple #[r1, r2]) /\ WN w w' r1 (jb2 f x s).1 /\ WN w w' r2 (jb2 f x s).2 /\ Below w.heap.size w w' := by
 have hst1 : (jb2 f x s).1 = jaw [s.1, ofL [(dn : Int)]] := by unfold jb2; rw [if_pos h68, hd]
 have hst2 : (jb2 f x s).2 = if jdp f x s.2 = true then jaw [ja3 (ja3 s.2 [(dn : Int)]) (jca f dn f.base.length), ofL [(dn : Int)]] else ja3 (ja3 s.2 [(dn : Int)]) (jca f dn f.base.length) := by unfold jb2; rw [if_pos h68, hd]
 have hnd : jdp f x s.2 = (isK f dn 2 && (!(x.op == 16) || hasB s.2 x.a)) := by
  unfold jdp isK
  have hin : jbt f (dn : Int) = true := by unfold jbt; rw [inB_iff]; omega
  rw [hd, hin, Bool.true_and]
 rw [hst1, hst2, hnd]
 have hR1 : i64R (dn : Int) := by unfold i64R; omega
 have HSE := hide (fun (W : World) (hW : Below w.heap.size w W) (A : Option Addr) (n c : Nat) => jin x A n c W (hT.below hW hT.1) hx.2.1)
 rw [h68, hd] at HSE
 simp only [if_pos] at HSE
 have HIS := hide (fun (W : World) (hW : Below w.heap.size w W) => jfs vk vb vs f dn 2 W B (by have := hW.size; omega) (hi.keep (up hW hB) (fun _ h => h)))
 have HDE := hide (fun (W : World) (hW : Below w.heap.size w W) => jrh vk vb vs f dn hbl W B (by have := hW.size; omega) (hi.keep (up hW hB) (fun _ h => h)))
 have hl1 := hs.l1
 have hl2 := hs.l2
 have HS1 := hide (fun (W : World) (hW : Below w.heap.size w W) (A : Option Addr) (hr : Sl W W.heap.size .i64 A [(dn : Int)]) => withV (h1.below hW) (by omega) hs.w1 A 1 1 [(dn : Int)] hr rfl (by omega) (by simpa using hR1))
 have HW0 := hide (fun (W : World) (hW : Below w.heap.size w W) (A : Option Addr) (hr : Sl W W.heap.size .i64 A [(dn : Int)]) => jmx (h2.below hW) (by omega) hs.w2 A 1 1 [(dn : Int)] hr rfl (by omega) (by simpa using hR1))
 have HHA := hide (fun (W : World) (hW : Below w.heap.size w W) => hasV (h2.below hW) (by omega) hs.w2 x.a hx.2.2.2.1)
 have hul := jb5 s.2 [(dn : Int)]
 have huw := jag hs.w2 [(dn : Int)]
 have hder := jle f dn f.base.length
 have hdR : ∀ z ∈ jca f dn f.base.length, i64R z := fun z hz => by
  obtain ⟨d, rfl, h1, -⟩ := dersN_mem.1 hz
  unfold i64R; omega
 have HW9 := hide (fun (W : World) (v : Value) (hv : SetV W v (ja3 s.2 [(dn : Int)])) (A : Option Addr) (n c : Nat) (hn : (jca f dn f.base.length).length = n) (hr : Sl W W.heap.size .i64 A (jca f dn f.base.length)) => jmx hv (by omega) huw A n c _ hr hn (by omega) hdR)
 have hul9 := jb5 (ja3 s.2 [(dn : Int)]) (jca f dn f.base.length)
 have huw9 := jag huw (jca f dn f.base.length)
 have HS9 := hide (fun (W : World) (v : Value) (hv : SetV W v (ja3 (ja3 s.2 [(dn : Int)]) (jca f dn f.base.length))) (A : Option Addr) (hr : Sl W W.heap.size .i64 A [(dn : Int)]) => withV hv (by omega) huw9 A 1 1 [(dn : Int)] hr rfl (by omega) (by simpa using hR1))
 obtain ⟨Ak, ck, rfl, hck, hmk⟩ := hi.1.open'
 obtain ⟨Ab, cb, rfl, hcb, hmb⟩ := hi.2.1.open'
 obtain ⟨As, cs, rfl, hcs, hms⟩ := hi.2.2.1.open'
 obtain ⟨Ax, cx, rfl, hcx, hmx⟩ := hx.1.open'
 have HTH := hide (fun (W : World) => jfr (dn : Int) Ak Ab As f.kinds.length ck f.base.length cb f.blocks.length cs f.params f.result W)
 have hin : inB 0 ((f.kinds.length : Int) - 1) (dn : Int) = true := by rw [inB_iff]; omega
 rw [hin] at HTH
 obtain ⟨A1, d1, rfl, -, -, -⟩ := h1
 obtain ⟨A2, d2, rfl, -, -, -⟩ := h2
 rw [hd]
 generalize jaw [s.1, ofL [(dn : Int)]] = j1 at *
 generalize jca f dn f.base.length = ders at *
 generalize ja3 s.2 [(dn : Int)] = u0 at *
 generalize ja3 u0 ders = u9 at *
 generalize jaw [u9, ofL [(dn : Int)]] = j2 at *
 generalize isK f dn 2 = b1 at *
 generalize hasB s.2 x.a = b3 at *
 generalize s.1.length = n1, s.2.length = n2 at *
 clear hi hx hT hs h68 hst1 hst2 hnd hin hR1 hul huw hder hdR hul9 huw9 hd
 generalize x.args.length = lx, x.op = xo, x.a = xa, x.b = xb, x.n = xn, x.m = xm at *
 generalize f.kinds.length = lk, f.base.length = lb, f.blocks.length = ls, f.params = fp, f.result = fr at *
 obtain ⟨b2, hb2⟩ := zl (xo == 16)
 have hbn : (xo != 16) = !b2 := by rw [<- hb2]; rfl
 rw [hb2]
 go_enter Tryz.func106, Tryz.ntmps106
 go_upto_region 1 with (fail)
 obtain ⟨w1, hw1⟩ := zr ((w.alloc (.cells #[.slice Ak lk ck, .slice Ab lb cb, .int .i64 fp, .int .i64 fr, .slice As ls cs] 52)).alloc (.cells #[.int .i64 xo, .int .i64 (dn : Int), .int .i64 xa, .int .i64 xb, .int .i64 xn, .int .i64 xm, .slice Ax lx cx] 57))
 obtain ⟨h5, hh5⟩ := zl w.heap.size
 have HX0 := zy2 hw1 hh5
 have HX1 := zx2 hw1 hh5
 have HB1 := zb2 hw1
 have w1s := HB1.out.size
 have w1z := zs2 hw1 hh5
 have HK0 := zk5 HX0
 have lHX0 := HX0.out.lt
 have HK1 := zk7 HX1
 have lHX1 := HX1.out.lt
 rw [<- hw1, hh5]
 clear hw1 hh5
 obtain ⟨c0, c1, c2, c3, c4⟩ := HK0.out w1 (Below.refl _ _)
 obtain ⟨x0, x1, x2, x3, x4, x5, x6⟩ := HK1.out w1 (Below.refl _ _)
 go_upto_region 4 with (first
  | (go_at_call 79; (with_reducible refine (HTH.out _).mono ?_); rintro e w3 ⟨rfl, hb3⟩; have HB3 := hide (HB2.out.trans (hb3.mono HB2.out.size)); clear hb3)
  | (go_at_call 136; (with_reducible refine (HSE.out _ HB1.out _ _ _).mono ?_); rintro e w2 ⟨rfl, hb2'⟩; have HB2 := hide hb2'; obtain ⟨c0, c1, c2, c3, c4⟩ := HK0.out w2 hb2'; have hz2 := hb2'.size; clear hb2'))
 obtain ⟨c0, c1, c2, c3, c4⟩ := HK0.out w3 HB3.out
 have HUP := hide (fun (W : World) (hW : Below w3.heap.size w3 W) => HB1.out.trans ((HB3.out.trans (hW.mono HB3.out.size)).mono HB1.out.size))
 have HKC := hide (fun (W : World) (hW : Below w3.heap.size w3 W) => HK0.out W (HB3.out.trans (hW.mono HB3.out.size)))
 have HKX := hide (fun (W : World) (hW : Below w3.heap.size w3 W) => HK1.out W (HB3.out.trans (hW.mono HB3.out.size)))
 have hz3 := HB3.out.size
 clear x0 x1 x2 x3 x4 x5 x6
 go_region_held3 (fun w' => w'.cell? ⟨h5, 0, none⟩ = some (.slice Ak lk ck) /\ w'.cell? ⟨h5, 1, none⟩ = some (.slice Ab lb cb) /\ w'.cell? ⟨h5, 2, none⟩ = some (.int .i64 fp) /\ w'.cell? ⟨h5, 3, none⟩ = some (.int .i64 fr) /\ w'.cell? ⟨h5, 4, none⟩ = some (.slice As ls cs)) (first | go_keep | (exact q7) | (exact q6))
  (first
   | (go_at_call 138; refine (HW9.out w7 _ HU7.out Ad _ cd rfl HD7.out).mono ?_; rintro e w8 ⟨vr, rfl, hnr, hb8⟩; have HNR := hide hnr; have hc8 := HC7.out.trans (hb8.mono HC7.out.size); have q7 := HKC.out w8 hc8; have HC8 := hide hc8; clear hnr hb8 hc8)
   | (go_at_call 139; refine (HDE.out w6 (HUP.out w6 HC6.out)).mono ?_; rintro e w7 ⟨vd, rfl, hod, hb7⟩; obtain ⟨Ad, cd, rfl, -, -, hsd⟩ := hod.sl; have HD7 := hide hsd; have HU7 := hide (HU6.out.below hb7); have hc7 := HC6.out.trans (hb7.mono HC6.out.size); have q7 := HKC.out w7 hc7; have HC7 := hide hc7; clear hod hsd hb7 hc7 q6)
   | (go_at_call 138; refine (HW0.out _ (HUP.out _ (jje w3 1 _)) _ (Sl.lit' _ _ _ _ _ rfl)).mono ?_; rintro e w6 ⟨vu, rfl, hnu, hb6⟩; have HU6 := hide hnu.ws; have hc6 : Below w3.heap.size w3 w6 := (jje w3 1 _).trans (hb6.mono (jje w3 1 _).size); have q6 := HKC.out w6 hc6; have HC6 := hide hc6; clear hnu hb6 hc6))
 cases b1
 case false =>
  go_wp2_with (first
   | (go_at_call 137; refine (HS1.out _ ((HUP.out w9 HC9.out).alloc ((HUP.out w9 HC9.out)).size _) _ (Sl.lit' _ _ _ _ _ rfl)).mono ?_; rintro e w12 ⟨r1, rfl, hn1, hb12⟩; have HB12 := hide ((ja4 (w9) _).trans (hb12.mono (by simp))); have HN1 := hide (hn1.lower (W0 := w) (Nat.le_trans ((HUP.out w9 HC9.out)).size (by simp))); clear hn1 hb12)
   | (go_at_call 63; (with_reducible refine (HIS.out w8 (HUP.out w8 HC8.out)).mono ?_); rintro e w9 ⟨rfl, hb9⟩; have HB9 := hide hb9; have HC9 := hide (HC8.out.trans (hb9.mono HC8.out.size)); obtain ⟨y0, y1, y2, y3, y4, y5, y6⟩ := HKX.out w9 HC9.out; have hz9 := (HUP.out w9 HC9.out).size; have hz99 := hb9.size; have hc93 := HC9.out.size; clear hb9))
  go_ret2
  exact ⟨_, _, rfl, HN1.out, ((HNR.out.below HB9.out).below HB12.out).lower (HUP.out w7 HC7.out).size, (HUP.out w9 HC9.out).trans (HB12.out.mono (HUP.out w9 HC9.out).size)⟩
 cases b2
 case false =>
  go_wp2_with (first
   | (go_at_call 137; refine (HS1.out _ (HC11.out.alloc (HC11.out).size _) _ (Sl.lit' _ _ _ _ _ rfl)).mono ?_; rintro e w12 ⟨r1, rfl, hn1, hb12⟩; have HB12 := hide ((ja4 (w11) _).trans (hb12.mono (by simp))); have HN1 := hide (hn1.lower (W0 := w) (Nat.le_trans (HC11.out).size (by simp))); clear hn1 hb12)
   | (go_at_call 137; refine (HS9.out _ vr (HNR.out.ws.below (HB9.out.alloc (HB9.out).size _)) _ (Sl.lit' _ _ _ _ _ rfl)).mono ?_; rintro e w11 ⟨r2, rfl, hn2, hb11⟩; have HB11 := hide ((ja4 (w9) _).trans (hb11.mono (by simp))); have HN2 := hide (hn2.lower (W0 := w) (Nat.le_trans (HUP.out _ (HC8.out.trans ((HB9.out).mono HC8.out.size))).size (by simp))); have HC11 := hide (HUP.out _ ((HC8.out.trans ((HB9.out).mono HC8.out.size)).trans (HB11.out.mono (HC8.out.trans ((HB9.out).mono HC8.out.size)).size))); clear hn2 hb11)
   | (go_at_call 63; (with_reducible refine (HIS.out w8 (HUP.out w8 HC8.out)).mono ?_); rintro e w9 ⟨rfl, hb9⟩; have HB9 := hide hb9; have HC9 := hide (HC8.out.trans (hb9.mono HC8.out.size)); obtain ⟨y0, y1, y2, y3, y4, y5, y6⟩ := HKX.out w9 HC9.out; have hz9 := (HUP.out w9 HC9.out).size; have hz99 := hb9.size; have hc93 := HC9.out.size; clear hb9))
  go_ret2
  exact ⟨_, _, rfl, HN1.out, HN2.out.below HB12.out, HC11.out.trans (HB12.out.mono HC11.out.size)⟩
 cases b3
 case false =>
  go_wp2_with (first
   | (go_at_call 137; refine (HS1.out _ (HCQ.out.alloc (HCQ.out).size _) _ (Sl.lit' _ _ _ _ _ rfl)).mono ?_; rintro e w12 ⟨r1, rfl, hn1, hb12⟩; have HB12 := hide ((ja4 (w9.drewN q) _).trans (hb12.mono (by simp))); have HN1 := hide (hn1.lower (W0 := w) (Nat.le_trans (HCQ.out).size (by simp))); clear hn1 hb12)
   | (go_at_call 61; (with_reducible refine (HHA.out w9 (HUP.out w9 HC9.out)).mono ?_); rintro e w10 ⟨rfl, q, rfl⟩; have HBQ := hide (ja0 HB9.out q); have HCQ := hide (HUP.out _ (HC8.out.trans (HBQ.out.mono HC8.out.size))))
   | (go_at_call 63; (with_reducible refine (HIS.out w8 (HUP.out w8 HC8.out)).mono ?_); rintro e w9 ⟨rfl, hb9⟩; have HB9 := hide hb9; have HC9 := hide (HC8.out.trans (hb9.mono HC8.out.size)); obtain ⟨y0, y1, y2, y3, y4, y5, y6⟩ := HKX.out w9 HC9.out; have hz9 := (HUP.out w9 HC9.out).size; have hz99 := hb9.size; have hc93 := HC9.out.size; clear hb9))
  go_ret2
  exact ⟨_, _, rfl, HN1.out, ((HNR.out.below HBQ.out).below HB12.out).lower (HUP.out w7 HC7.out).size, HCQ.out.trans (HB12.out.mono HCQ.out.size)⟩
 case true =>
  go_wp2_with (first
   | (go_at_call 137; refine (HS1.out _ (HC11.out.alloc (HC11.out).size _) _ (Sl.lit' _ _ _ _ _ rfl)).mono ?_; rintro e w12 ⟨r1, rfl, hn1, hb12⟩; have HB12 := hide ((ja4 (w11) _).trans (hb12.mono (by simp))); have HN1 := hide (hn1.lower (W0 := w) (Nat.le_trans (HC11.out).size (by simp))); clear hn1 hb12)
   | (go_at_call 137; refine (HS9.out _ vr (HNR.out.ws.below (HBQ.out.alloc (HBQ.out).size _)) _ (Sl.lit' _ _ _ _ _ rfl)).mono ?_; rintro e w11 ⟨r2, rfl, hn2, hb11⟩; have HB11 := hide ((ja4 (w9.drewN q) _).trans (hb11.mono (by simp))); have HN2 := hide (hn2.lower (W0 := w) (Nat.le_trans (HUP.out _ (HC8.out.trans ((HBQ.out).mono HC8.out.size))).size (by simp))); have HC11 := hide (HUP.out _ ((HC8.out.trans ((HBQ.out).mono HC8.out.size)).trans (HB11.out.mono (HC8.out.trans ((HBQ.out).mono HC8.out.size)).size))); clear hn2 hb11)
   | (go_at_call 61; (with_reducible refine (HHA.out w9 (HUP.out w9 HC9.out)).mono ?_); rintro e w10 ⟨rfl, q, rfl⟩; have HBQ := hide (ja0 HB9.out q); have HCQ := hide (HUP.out _ (HC8.out.trans (HBQ.out.mono HC8.out.size))))
   | (go_at_call 63; (with_reducible refine (HIS.out w8 (HUP.out w8 HC8.out)).mono ?_); rintro e w9 ⟨rfl, hb9⟩; have HB9 := hide hb9; have HC9 := hide (HC8.out.trans (hb9.mono HC8.out.size)); obtain ⟨y0, y1, y2, y3, y4, y5, y6⟩ := HKX.out w9 HC9.out; have hz9 := (HUP.out w9 HC9.out).size; have hz99 := hb9.size; have hc93 := HC9.out.size; clear hb9))
  go_ret2
  exact ⟨_, _, rfl, HN1.out, HN2.out.below HB12.out, HC11.out.trans (HB12.out.mono HC11.out.size)⟩
end Go.Proofs.YthbnbaikdcfbmaaGreatDoor
