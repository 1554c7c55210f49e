/- Texts of several names, of which only what the statement needs is kept. -/
import Derived.Test.YthbnbaikdcfbmaaGreatDoorPmKI
set_option linter.unusedSimpArgs false
set_option linter.unusedVariables false
set_option maxHeartbeats 4000000
set_option maxRecDepth 100000
namespace Go.Proofs.YthbnbaikdcfbmaaGreatDoor
open Go.RowKit Go.Maps
theorem jdq {w : World} {ops : Array Oper} {rest : List Oper} {o : Oper} {a : Act} {Q : Exit -> Act -> World -> Prop} (hg : o.guard = none) (it : Operand) (hop : o.op = Op.next it false) {b r n : Nat} {D : DataW Value} {f : FunV} {L : Nat -> Option KSt} {M : Nat -> Prop} {w0 : World} (left : Lit -> Bool) (cnt : Nat)
  (hh : ∀ kl, Maps.has D kl = true -> ∃ k : Nat, k < f.blocks.length /\ kl = litN k) (hL : ∀ k : Nat, k < f.blocks.length -> Maps.has D (litN k) = (L k).isSome) (hv : ∀ k s, L k = some s -> ∃ v1 v2, (∀ zd, D.atKey (litN k) zd = .held (.agg #[v1, v2])) /\ SetM w0 M v1 s.1 /\ SetM w0 M v2 s.2)
  (hit : a.eval it = .pointer (some ⟨r, 0, none⟩)) (h : w.ranges Tryz.prog 3 RH b r n D left cnt)
  (hDone : (∀ kl, left kl = false) -> wpList Tryz.prog ops Q rest (a.put o.dst (.tuple #[.bool false])) w)
  (hMore : ∀ (c : Nat) (s : KSt) (A1 A2 : Option Addr) (d1 d2 : Nat) (w' : World) (cnt' : Nat), c < f.blocks.length -> L c = some s -> SetM w0 M (.slice A1 s.1.length d1) s.1 -> SetM w0 M (.slice A2 s.2.length d2) s.2 -> w'.ranges Tryz.prog 3 RH b r n D (fun z => left z && !z.sameKey (litN c)) cnt' -> cnt' < cnt -> w.grownBy w' (some r) -> w'.heap.size = w.heap.size ->
   (Instr.entry (.pointer (some ⟨r, 0, none⟩))).run Tryz.prog w' = .ok (.tuple #[.int .i64 (c : Int), .agg #[.slice A1 s.1.length d1, .slice A2 s.2.length d2]]) w' -> wpList Tryz.prog ops Q rest (a.put o.dst (.tuple #[.bool true, .int .i64 (c : Int), .agg #[.slice A1 s.1.length d1, .slice A2 s.2.length d2]])) w') :
  wpList Tryz.prog ops Q (o :: rest) a w := by
 refine wpList_next_ranges (α := Int) (β := Value) w hg it hop 3 keyed_int RH (Value.int .i64) (fun v => v) (fun key kl hkey => ?_) (fun v y hv => ⟨v, rfl⟩) b r n D left cnt hit h (fun _ h => hDone h) (fun x v kl y w' cnt' hkey hlk hv' hat hrg hlt hgr hsz hen => ?_)
 ·obtain ⟨x, rfl, -⟩ := keyOf_int_inv (q := .i64) (by kernel_rfl) hkey
  exact ⟨x, rfl⟩
 ·have hy : y.1 = .held v := by
   have e := Option.some.inj hv'
   exact (congrArg Prod.fst e).symm
  have hhas := has_true_of_atKey hat
  obtain ⟨c, hc, rfl⟩ := hh kl hhas
  have hx : x = (c : Int) := by
   obtain ⟨x', e, e2, -⟩ := keyOf_int_inv (q := .i64) (by kernel_rfl) hkey
   cases e
   have e3 : Lit.int .i64 (c : Int) = Lit.int .i64 x := e2
   exact (Lit.int.inj e3).2.symm
  subst hx
  have hsome := (hL c hc).symm.trans hhas
  obtain ⟨s, hs⟩ := Option.isSome_iff_exists.1 hsome
  obtain ⟨v1, v2, e, g1, g2⟩ := hv c s hs
  have e2 := (hat (.held v)).symm.trans (e (.held v))
  rw [hy] at e2
  injection e2 with e2
  subst e2
  have G1 := g1
  have G2 := g2
  obtain ⟨A1, d1, rfl, -, -, -, -⟩ := g1
  obtain ⟨A2, d2, rfl, -, -, -, -⟩ := g2
  exact hMore c s A1 A2 d1 d2 w' cnt' hc hs G1 G2 hrg hlt hgr hsz hen
def rowsT : List (List Nat) := [[0, 0, 0], [105, 0, 0], [0, 0, 0], [105, 105, 105], [105, 105, 105], [105, 105, 105], [105, 105, 105], [114, 0, 0], [105, 114, 0], [105, 114, 114], [114, 0, 0], [105, 114, 0], [45, 114, 105], [114, 114, 0], [45, 114, 114], [100, 114, 0], [100, 100, 0], [105, 100, 0], [45, 100, 105], [0, 0, 0], [45, 105, 0], [0, 0, 0], [45, 105, 0], [0, 0, 0]]
def rowN (op : Int) (i : Nat) : Nat := (rowsT.getD op.toNat []).getD i 0
def RowP (w : World) : Prop := 0 < w.heap.size /\ ∀ j i : Nat, j < 24 -> i < 3 -> w.cell? ⟨0, j * 3 + i, none⟩ = some (.int .u8 ((rowN (j : Int) i : Nat) : Int))
theorem RowP.below {w w' : World} {B : Nat} (h : RowP w) (hb : Below B w w') (hB : 0 < B) : RowP w' :=
 ⟨Nat.lt_of_lt_of_le h.1 hb.size, fun j i hj hi => (hb.cell (p := ⟨0, j * 3 + i, none⟩) hB).trans (h.2 j i hj hi)⟩
def letB (f : FunV) (c : Nat) (v : Int) : Bool := match kLet c with
 | some k => isK f v k
 | none => true
def rowB (f : FunV) (x : InsV) : Bool := letB f (rowN x.op 0) x.d && (letB f (rowN x.op 1) x.a && letB f (rowN x.op 2) x.b)
def jc3 (f : FunV) (q0 q1 q2 : Nat) (d a b : Int) : Bool := letB f q0 d && (letB f q1 a && letB f q2 b)
theorem jkt (vk vb vs : Value) (f : FunV) (x : InsV) (va : Value) (w : World) (B : Nat) (hB : B <= w.heap.size) (hi : FunI w (· < B) vk vb vs f) (hx : InsI w (· < B) va x) (hR : RowP w) (hop : 1 <= x.op /\ x.op <= 23) :
  Calls Tryz.prog 98 #[.agg #[vk, vb, .int .i64 f.params, .int .i64 f.result, vs], .agg #[.int .i64 x.op, .int .i64 x.d, .int .i64 x.a, .int .i64 x.b, .int .i64 x.n, .int .i64 x.m, va]] w fun e w' => e = .returned (.bool (rowB f x)) /\ Below w.heap.size w w' := by
 have HISK0 := hide (fun (v k : Int) (W : World) (hW : Below w.heap.size w W) => jfs vk vb vs f v k W B (by have := hW.size; omega) (hi.keep (up hW hB) (fun _ h => h)))
 obtain ⟨Ak, ck, rfl, hck, hmk⟩ := hi.1.open'
 obtain ⟨Ab, cb, rfl, hcb, hmb⟩ := hi.2.1.open'
 obtain ⟨As, cs, rfl, hcs, hms⟩ := hi.2.2.1.open'
 obtain ⟨Ax, cx, rfl, hcx, hmx⟩ := hx.1.open'
 obtain ⟨j, hj⟩ : ∃ j : Nat, x.op = j := ⟨x.op.toNat, by omega⟩
 have hj24 : j < 24 := by omega
 have r0 := hR.2 j 0 hj24 (by omega)
 have r1 := hR.2 j 1 hj24 (by omega)
 have r2 := hR.2 j 2 hj24 (by omega)
 have hg0 := hR.1
 rw [<- hj] at r0 r1 r2
 have HRES := hide (show rowB f x = jc3 f (rowN x.op 0) (rowN x.op 1) (rowN x.op 2) x.d x.a x.b from rfl)
 rw [HRES.out]
 have HKO0 := hide (fun (W : World) => jft (rowN x.op 0) W)
 have HKO1 := hide (fun (W : World) => jft (rowN x.op 1) W)
 have HKO2 := hide (fun (W : World) => jft (rowN x.op 2) W)
 generalize rowN x.op 0 = q0, rowN x.op 1 = q1, rowN x.op 2 = q2 at *
 obtain ⟨F, hF⟩ : ∃ F : Bool, jc3 f q0 q1 q2 x.d x.a x.b = F := ⟨_, rfl⟩
 rw [hj] at *
 clear HRES hR hx hi hj F hF
 generalize x.args.length = lx, x.d = xd, x.a = xa, x.b = xb, x.n = xn, x.m = xm at *
 generalize f.kinds.length = lk, f.base.length = lb, f.blocks.length = ls, f.params = fp, f.result = fr at *
 go_enter Tryz.func98, Tryz.ntmps98
 go_upto_region 1 with (fail)
 obtain ⟨w1, hw1⟩ := zr ((w.alloc (.cells #[.slice Ak lk ck, .slice Ab lb cb, .int .i64 fp, .int .i64 fr, .slice As ls cs] 52)).alloc (.cells #[.int .i64 (j : Int), .int .i64 xd, .int .i64 xa, .int .i64 xb, .int .i64 xn, .int .i64 xm, .slice Ax lx cx] 57))
 obtain ⟨h5, hh5⟩ := zl w.heap.size
 have HX0 := zy2 hw1 hh5
 have HX1 := zx2 hw1 hh5
 have HB1 := zb2 hw1
 have w1s := HB1.out.size
 have w1z := zs2 hw1 hh5
 have HK0 := zk5 HX0
 have lHX0 := HX0.out.lt
 have HK1 := zk7 HX1
 have lHX1 := HX1.out.lt
 rw [<- hw1, hh5]
 clear hw1 hh5
 obtain ⟨c0, c1_, c2, c3, c4⟩ := HK0.out w1 (Below.refl _ _)
 obtain ⟨x0, x1, x2, x3, x4, x5, x6⟩ := HK1.out w1 (Below.refl _ _)
 have s0 := (HB1.out.cell (p := ⟨0, j * 3, none⟩) hg0).trans r0
 have s1 := (HB1.out.cell (p := ⟨0, j * 3 + 1, none⟩) hg0).trans r1
 have s2 := (HB1.out.cell (p := ⟨0, j * 3 + 2, none⟩) hg0).trans r2
 go_upto_region 2 with (fail)
 obtain ⟨w2, hw2⟩ := zr (w1.alloc (.cells #[.int .u8 (q0 : Int), .int .u8 (q1 : Int), .int .u8 (q2 : Int)] 167))
 obtain ⟨h6, hh6⟩ := zl w1.heap.size
 have HL0 := zx1 hw2 hh6
 have HB2 := zb1 hw2
 have w2s := HB2.out.size
 have w2z := zs1 hw2 hh6
 have HQ0 := zk3 HL0
 have lHL0 := HL0.out.lt
 rw [<- hw2, hh6]
 clear hw2 hh6
 obtain ⟨y0, y1, y2, y3, y4, y5, y6⟩ := HK1.out w2 HB2.out
 clear x0 x1 x2 x3 x4 x5 x6 s0 s1 s2 c0 c1_ c2 c3 c4
 have HUP1 := hide (fun (W : World) (hW : Below w2.heap.size w2 W) => HB2.out.trans (hW.mono HB2.out.size))
 have ix0 : ∀ w, (Instr.index 169 (.agg #[.int .i64 xd, .int .i64 xa, .int .i64 xb]) (.int .i64 0)).run Tryz.prog w = .ok (.int .i64 xd) w := fun _ => by kernel_rfl
 have ix1 : ∀ w, (Instr.index 169 (.agg #[.int .i64 xd, .int .i64 xa, .int .i64 xb]) (.int .i64 1)).run Tryz.prog w = .ok (.int .i64 xa) w := fun _ => by kernel_rfl
 have ix2 : ∀ w, (Instr.index 169 (.agg #[.int .i64 xd, .int .i64 xa, .int .i64 xb]) (.int .i64 2)).run Tryz.prog w = .ok (.int .i64 xb) w := fun _ => by kernel_rfl
 go_wp2
 go_loopw [21] (fun i wr => Below w2.heap.size w2 wr /\ ((i = .int .i64 0) \/ (i = .int .i64 1 /\ Hid (letB f q0 xd = true)) \/ (i = .int .i64 2 /\ Hid (letB f q0 xd = true) /\ Hid (letB f q1 xa = true)) \/ (i = .int .i64 3 /\ Hid (letB f q0 xd = true) /\ Hid (letB f q1 xa = true) /\ Hid (letB f q2 xb = true)))) (fun i _ => 3 - (intOf i).toNat)
 case atStart => exact ⟨Below.refl _ _, .inl rfl⟩
 case round =>
  obtain ⟨hb, hrel⟩ := hrel
  obtain ⟨wo, rfl⟩ := zr wr
  have hsz := hb.size
  have HBW := hide hb
  have HBW1 := hide (HUP1.out wo hb)
  have HBEL := hide (HB1.out.trans (HBW1.out.mono HB1.out.size))
  clear hb y0 y1 y2 y3 y4 y5 y6
  obtain ⟨c0, c1_, c2, c3, c4⟩ := HK0.out wo HBW1.out
  obtain ⟨e0, e1, e2⟩ := HQ0.out wo HBW.out
  have lq : h6 < wo.heap.size := by omega
  have lf : h5 < wo.heap.size := by have := HBW1.out.size; omega
  rcases hrel with rfl | ⟨rfl, H0⟩ | ⟨rfl, H0, H1⟩ | ⟨rfl, H0, H1, H2⟩
  ·cases hkl : kLet q0 with
   | none =>
    have HLT := hide (show letB f q0 xd = true by unfold letB; rw [hkl])
    rw [hkl] at HKO0
    clear hkl
    go_wp2_with (go_at_call 122; refine (HKO0.out _).mono ?_; rintro e w' ⟨rfl, rfl⟩)
    go_roundw
    case rel => exact ⟨HBW.out, .inr (.inl ⟨rfl, HLT⟩)⟩
    case measure => simp [intOf]
   | some kk =>
    rw [hkl] at HKO0
    obtain ⟨bb, hbb2⟩ := zl (isK f xd kk)
    have HIS := hide (fun (W : World) (hW : Below w1.heap.size w1 W) => HISK0.out xd kk W (HB1.out.trans (hW.mono HB1.out.size)))
    rw [hbb2] at HIS
    have HLE := hide (show letB f q0 xd = bb by unfold letB; rw [hkl]; exact hbb2)
    clear hkl hbb2
    cases bb with
    | true =>
     have HLT := hide HLE.out
     go_wp2_with (first | (go_at_call 122; refine (HKO0.out _).mono ?_; rintro e w' ⟨rfl, rfl⟩) | (go_at_call 63; refine (HIS.out _ HBW1.out).mono ?_; rintro e w3 ⟨rfl, hb3⟩))
     go_roundw
     case rel => exact ⟨HBW.out.trans (hb3.mono hsz), .inr (.inl ⟨rfl, HLT⟩)⟩
     case measure => simp [intOf]
    | false =>
     have HFL := hide (show jc3 f q0 q1 q2 xd xa xb = false by unfold jc3; rw [HLE.out]; simp)
     go_wp2_with (first | (go_at_call 122; refine (HKO0.out _).mono ?_; rintro e w' ⟨rfl, rfl⟩) | (go_at_call 63; refine (HIS.out _ HBW1.out).mono ?_; rintro e w3 ⟨rfl, hb3⟩))
     go_ret
     exact ⟨ja1 HFL.out.symm, HBEL.out.trans (hb3.mono HBEL.out.size)⟩
  ·cases hkl : kLet q1 with
   | none =>
    have HLT := hide (show letB f q1 xa = true by unfold letB; rw [hkl])
    rw [hkl] at HKO1
    clear hkl
    go_wp2_with (go_at_call 122; refine (HKO1.out _).mono ?_; rintro e w' ⟨rfl, rfl⟩)
    go_roundw
    case rel => exact ⟨HBW.out, .inr (.inr (.inl ⟨rfl, H0, HLT⟩))⟩
    case measure => simp [intOf]
   | some kk =>
    rw [hkl] at HKO1
    obtain ⟨bb, hbb2⟩ := zl (isK f xa kk)
    have HIS := hide (fun (W : World) (hW : Below w1.heap.size w1 W) => HISK0.out xa kk W (HB1.out.trans (hW.mono HB1.out.size)))
    rw [hbb2] at HIS
    have HLE := hide (show letB f q1 xa = bb by unfold letB; rw [hkl]; exact hbb2)
    clear hkl hbb2
    cases bb with
    | true =>
     have HLT := hide HLE.out
     go_wp2_with (first | (go_at_call 122; refine (HKO1.out _).mono ?_; rintro e w' ⟨rfl, rfl⟩) | (go_at_call 63; refine (HIS.out _ HBW1.out).mono ?_; rintro e w3 ⟨rfl, hb3⟩))
     go_roundw
     case rel => exact ⟨HBW.out.trans (hb3.mono hsz), .inr (.inr (.inl ⟨rfl, H0, HLT⟩))⟩
     case measure => simp [intOf]
    | false =>
     have HFL := hide (show jc3 f q0 q1 q2 xd xa xb = false by unfold jc3; rw [HLE.out]; simp)
     go_wp2_with (first | (go_at_call 122; refine (HKO1.out _).mono ?_; rintro e w' ⟨rfl, rfl⟩) | (go_at_call 63; refine (HIS.out _ HBW1.out).mono ?_; rintro e w3 ⟨rfl, hb3⟩))
     go_ret
     exact ⟨ja1 HFL.out.symm, HBEL.out.trans (hb3.mono HBEL.out.size)⟩
  ·cases hkl : kLet q2 with
   | none =>
    have HLT := hide (show letB f q2 xb = true by unfold letB; rw [hkl])
    rw [hkl] at HKO2
    clear hkl
    go_wp2_with (go_at_call 122; refine (HKO2.out _).mono ?_; rintro e w' ⟨rfl, rfl⟩)
    go_roundw
    case rel => exact ⟨HBW.out, .inr (.inr (.inr ⟨rfl, H0, H1, HLT⟩))⟩
    case measure => simp [intOf]
   | some kk =>
    rw [hkl] at HKO2
    obtain ⟨bb, hbb2⟩ := zl (isK f xb kk)
    have HIS := hide (fun (W : World) (hW : Below w1.heap.size w1 W) => HISK0.out xb kk W (HB1.out.trans (hW.mono HB1.out.size)))
    rw [hbb2] at HIS
    have HLE := hide (show letB f q2 xb = bb by unfold letB; rw [hkl]; exact hbb2)
    clear hkl hbb2
    cases bb with
    | true =>
     have HLT := hide HLE.out
     go_wp2_with (first | (go_at_call 122; refine (HKO2.out _).mono ?_; rintro e w' ⟨rfl, rfl⟩) | (go_at_call 63; refine (HIS.out _ HBW1.out).mono ?_; rintro e w3 ⟨rfl, hb3⟩))
     go_roundw
     case rel => exact ⟨HBW.out.trans (hb3.mono hsz), .inr (.inr (.inr ⟨rfl, H0, H1, HLT⟩))⟩
     case measure => simp [intOf]
    | false =>
     have HFL := hide (show jc3 f q0 q1 q2 xd xa xb = false by unfold jc3; rw [HLE.out]; simp)
     go_wp2_with (first | (go_at_call 122; refine (HKO2.out _).mono ?_; rintro e w' ⟨rfl, rfl⟩) | (go_at_call 63; refine (HIS.out _ HBW1.out).mono ?_; rintro e w3 ⟨rfl, hb3⟩))
     go_ret
     exact ⟨ja1 HFL.out.symm, HBEL.out.trans (hb3.mono HBEL.out.size)⟩
  ·have HT := hide (show jc3 f q0 q1 q2 xd xa xb = true by unfold jc3; rw [H0.out, H1.out, H2.out]; rfl)
   go_wp2
   go_ret
   exact ⟨ja1 HT.out.symm, HBEL.out⟩
def FBx (w : World) (h : Nat) (vk vb vs : Value) (f : FunV) : Prop := Box w h #[vk, vb, .int .i64 f.params, .int .i64 f.result, vs] 52
def XBx (w : World) (h : Nat) (va : Value) (x : InsV) : Prop := Box w h #[.int .i64 x.op, .int .i64 x.d, .int .i64 x.a, .int .i64 x.b, .int .i64 x.n, .int .i64 x.m, va] 57
theorem jrk (vk vb vs : Value) (f : FunV) (x : InsV) (va : Value) (k : Int) (hf hx : Nat) (w : World) (B : Nat) (hB : B <= w.heap.size) (hi : FunI w (· < B) vk vb vs f) (hbf : FBx w hf vk vb vs f) (hbx : XBx w hx va x) :
  Calls Tryz.prog 123 #[.int .i64 k, .pointer (some ⟨hf, 0, none⟩), .pointer (some ⟨hx, 0, none⟩)] w fun e w' => e = .returned (.bool (isK f x.d k && isK f x.a k)) /\ Below w.heap.size w w' := by
 have HISK := hide (fun (v k : Int) (W : World) (hW : Below w.heap.size w W) => jfs vk vb vs f v k W B (by have := hW.size; omega) (hi.keep (up hW hB) (fun _ h => h)))
 obtain ⟨Ak, ck, rfl, hck, hmk⟩ := hi.1.open'
 obtain ⟨Ab, cb, rfl, hcb, hmb⟩ := hi.2.1.open'
 obtain ⟨As, cs, rfl, hcs, hms⟩ := hi.2.2.1.open'
 have HF := hide (fun (W : World) (hW : Below w.heap.size w W) => And.intro ((hbf.below hW).cell 0 (v := .slice Ak f.kinds.length ck) rfl).1 (And.intro ((hbf.below hW).cell 1 (v := .slice Ab f.base.length cb) rfl).1 (And.intro ((hbf.below hW).cell 2 (v := .int .i64 f.params) rfl).1 (And.intro ((hbf.below hW).cell 3 (v := .int .i64 f.result) rfl).1 ((hbf.below hW).cell 4 (v := .slice As f.blocks.length cs) rfl).1))))
 have HX := hide (fun (W : World) (hW : Below w.heap.size w W) => And.intro ((hbx.below hW).cell 1 (v := .int .i64 x.d) rfl).1 ((hbx.below hW).cell 2 (v := .int .i64 x.a) rfl).1)
 have l1 := hbf.lt
 have l2 := hbx.lt
 have HD := hide (fun W hW => HISK.out x.d k W hW)
 have HA := hide (fun W hW => HISK.out x.a k W hW)
 clear HISK hbf hbx hi
 generalize isK f x.d k = b1 at *
 generalize isK f x.a k = b2 at *
 generalize x.d = xd, x.a = xa at *
 generalize f.kinds.length = lk, f.base.length = lb, f.blocks.length = ls, f.params = fp, f.result = fr at *
 obtain ⟨c0, c1, c2, c3, c4⟩ := HF.out w (Below.refl _ _)
 obtain ⟨x1, x2⟩ := HX.out w (Below.refl _ _)
 cases b1
 all_goals
  go_enter Tryz.func123, Tryz.ntmps123
  go_wp2_with (first
   | (go_at_call 63; (with_reducible refine (HA.out _ HB2.out).mono ?_); rintro e w3 ⟨rfl, hb3⟩)
   | (go_at_call 63; (with_reducible refine (HD.out w (Below.refl _ _)).mono ?_); rintro e w2 ⟨rfl, hb2⟩; obtain ⟨d0, d1, d2, d3, d4⟩ := HF.out w2 hb2; obtain ⟨z1, z2⟩ := HX.out w2 hb2; have hz := hb2.size; have HB2 := hide hb2; clear hb2))
  go_ret
  first
   | exact ⟨rfl, HB2.out.trans (hb3.mono HB2.out.size)⟩
   | exact ⟨rfl, HB2.out⟩
theorem jkc {p : Nat -> Bool} {n k : Nat} (hk : k < n) (h : p k = false) : (List.range n).all p = false := by
 rw [List.all_eq_false]
 exact ⟨k, List.mem_range.2 hk, by rw [h]; simp⟩
def jln (f g : FunV) (l : List Int) : Bool := (List.range l.length).all (fun i => decide ((i : Int) < g.kinds.length) && isK f (l.getD i 0) (g.kinds.getD i 0))
def jmr (p : List FunV) (f : FunV) (x : InsV) : Bool := if x.n < 0 then false else match p[x.n.toNat]? with
 | some g => jln f g x.args && isK f x.d g.result
 | none => false
def jb4 (p : List FunV) (f : FunV) (x : InsV) : Bool :=
 if x.op = 2 then (isK f x.d 0 && isK f x.a 0) || (isK f x.d 1 && isK f x.a 1) else if x.op = 15 then jeg f x.d == x.a else if x.op = 16 then jeg f x.d == jeg f x.a
 else if x.op = 19 then jmr p f x else if x.op = 23 then isK f x.a f.result else true
def fitB (p : List FunV) (f : FunV) (x : InsV) : Bool := rowB f x && jb4 p f x
theorem jrj (vk vb vs : Value) (f : FunV) (vp : Value) (p : List FunV) (x : InsV) (va : Value) (w : World) (B : Nat) (hB : B <= w.heap.size) (hi : FunI w (· < B) vk vb vs f) (hp : FunsV w (· < B) vp p) (hx : InsI w (· < B) va x) (g : FunV) (n : Nat) (hn : x.n = n) (hg : p[n]? = some g) (hga : x.args.length <= g.kinds.length) :
  Calls Tryz.prog 125 #[.agg #[vp], .agg #[vk, vb, .int .i64 f.params, .int .i64 f.result, vs], .agg #[.int .i64 x.op, .int .i64 x.d, .int .i64 x.a, .int .i64 x.b, .int .i64 x.n, .int .i64 x.m, va]] w fun e w' => e = .returned (.bool (jmr p f x)) /\ Below w.heap.size w w' := by
 have HISK0 := hide (fun (v k : Int) (W : World) (hW : Below w.heap.size w W) => jfs vk vb vs f v k W B (by have := hW.size; omega) (hi.keep (up hW hB) (fun _ h => h)))
 have HGK := hide (fun (W : World) (hW : Below w.heap.size w W) => hp.keep (up hW hB) (fun _ h => h))
 have HXK := hide (fun (W : World) (hW : Below w.heap.size w W) => hx.1.keep (up hW hB) (fun _ h => h))
 obtain ⟨Ak, ck, rfl, hck, hmk⟩ := hi.1.open'
 obtain ⟨Ab, cb, rfl, hcb, hmb⟩ := hi.2.1.open'
 obtain ⟨As, cs, rfl, hcs, hms⟩ := hi.2.2.1.open'
 obtain ⟨Ax, cx, rfl, hcx, hmx⟩ := hx.1.open'
 obtain ⟨Ap, cp, rfl, hcp, hmp⟩ := hp.open'
 obtain ⟨bg, og, Agk, cgk, Agb, cgb, Ags, cgs, hAp, hbgb, ⟨e0, e1, e2, e3, e4⟩, hgi⟩ := hp.get hg
 subst hAp
 have HTH := hide (fun (z : Int) (W : World) => jfr z Agk Agb Ags g.kinds.length cgk g.base.length cgb g.blocks.length cgs g.params g.result W)
 have HGKI := hide (fun (W : World) (hW : Below w.heap.size w W) => hgi.1.keep (up hW hB) (fun _ h => h))
 have hnp : n < p.length := (List.getElem?_eq_some_iff.1 hg).1
 have HRES := hide (show jmr p f x = (jln f g x.args && isK f x.d g.result) by unfold jmr; rw [hn, if_neg (by omega), Int.toNat_natCast, hg])
 rw [HRES.out]
 obtain ⟨zs, hzs⟩ := zl x.args
 rw [hzs] at HXK hga hcx ⊢
 obtain ⟨na, hna⟩ := zl zs.length
 have HNA := hide hna
 obtain ⟨ng, hng⟩ := zl g.kinds.length
 have HNG := hide hng
 have HARG := hide (show jln f g zs = (List.range na).all (fun i => decide ((i : Int) < ng) && isK f (zs.getD i 0) (g.kinds.getD i 0)) by unfold jln; rw [hna, hng])
 rw [hna] at HXK hga hcx ⊢
 rw [hng] at HTH HGKI hga
 rw [hn]
 obtain ⟨gk, hgk⟩ := zl g.kinds
 rw [hgk] at HGKI HNG HARG
 obtain ⟨lp, hlp⟩ := zl p.length
 rw [hlp] at hnp hcp ⊢
 have hgs : w.cell? ⟨bg, og + n * 5, none⟩ = some (.slice Agk ng cgk) := by rw [<- hng]; exact e0
 have hbw : bg < w.heap.size := by omega
 clear e0 HRES hi hp hx hg hn hgi hgk hzs hna hng HGK hlp
 generalize jln f g zs = AR at *
 have HDR := hide (fun (W : World) (hW : Below w.heap.size w W) => HISK0.out x.d g.result W hW)
 generalize isK f x.d g.result = DR at *
 generalize g.base.length = glb, g.blocks.length = gls, g.params = gfp, g.result = gfr at *
 generalize x.op = xo, x.d = xd, x.a = xa, x.b = xb, x.m = xm at *
 generalize f.kinds.length = lk, f.base.length = lb, f.blocks.length = ls, f.params = fp, f.result = fr at *
 have q1 : decide ((n : Int) < 0) = false := by simp
 have q2 : decide (lp <= n) = false := by simp; omega
 go_enter Tryz.func125, Tryz.ntmps125
 go_upto_region 1 with (fail)
 obtain ⟨w1, hw1⟩ := zr (((w.alloc (.cells #[.slice (some ⟨bg, og, none⟩) lp cp] 24)).alloc (.cells #[.slice Ak lk ck, .slice Ab lb cb, .int .i64 fp, .int .i64 fr, .slice As ls cs] 52)).alloc (.cells #[.int .i64 xo, .int .i64 xd, .int .i64 xa, .int .i64 xb, .int .i64 (n : Int), .int .i64 xm, .slice Ax na cx] 57))
 obtain ⟨h5, hh5⟩ := zl w.heap.size
 have HX0 := zy3 hw1 hh5
 have HX1 := zm3 hw1 hh5
 have HX2 := zx3 hw1 hh5
 have HB1 := zb3 hw1
 have w1s := HB1.out.size
 have w1z := hide (show w1.heap.size = h5 + 1 + 1 + 1 by rw [hw1, <- hh5]; simp only [World.size_alloc])
 have HK0 := zk1 HX0
 have lHX0 := HX0.out.lt
 have HK1 := zk5 HX1
 have lHX1 := HX1.out.lt
 have HK2 := zk7 HX2
 have lHX2 := HX2.out.lt
 rw [<- hw1, hh5]
 clear hw1 hh5
 obtain p0 := HK0.out w1 (Below.refl _ _)
 obtain ⟨x0, x1, x2, x3, x4, x5, x6⟩ := HK2.out w1 (Below.refl _ _)
 have g0 := (HB1.out.cell (p := ⟨bg, og + n * 5, none⟩) hbw).trans hgs
 have g1 := (HB1.out.cell (p := ⟨bg, og + n * 5 + 1, none⟩) hbw).trans e1
 have g2 := (HB1.out.cell (p := ⟨bg, og + n * 5 + 2, none⟩) hbw).trans e2
 have g3 := (HB1.out.cell (p := ⟨bg, og + n * 5 + 3, none⟩) hbw).trans e3
 have g4 := (HB1.out.cell (p := ⟨bg, og + n * 5 + 4, none⟩) hbw).trans e4
 go_upto_region 4 with (fail)
 obtain ⟨w2, hw2⟩ := zr (w1.alloc (.cells #[.slice Agk ng cgk, .slice Agb glb cgb, .int .i64 gfp, .int .i64 gfr, .slice Ags gls cgs] 52))
 obtain ⟨h6, hh6⟩ := zl w1.heap.size
 have HL0 := zx1 hw2 hh6
 have HB2 := zb1 hw2
 have w2s := HB2.out.size
 have w2z := zs1 hw2 hh6
 have HQ0 := zk5 HL0
 have lHL0 := HL0.out.lt
 rw [<- hw2, hh6]
 clear hw2 hh6
 clear x0 x1 x2 x3 x4 x5 x6 g0 g1 g2 g3 g4 e1 e2 e3 e4 hgs p0
 have HUP1 := hide (fun (W : World) (hW : Below w2.heap.size w2 W) => HB2.out.trans (hW.mono HB2.out.size))
 obtain ⟨y0, y1, y2, y3, y4, y5, y6⟩ := HK2.out w2 HB2.out
 have hw2s := HB2.out.size
 go_wp2
 go_loopw [30] (fun i wr => ∃ k : Nat, k <= na /\ i = .int .i64 k /\ Below w2.heap.size w2 wr /\ Hid ((List.range k).all (fun i => decide ((i : Int) < ng) && isK f (zs.getD i 0) (gk.getD i 0)) = true)) (fun i _ => na - (intOf i).toNat)
 case atStart => exact ⟨0, Nat.zero_le _, rfl, Below.refl _ _, hide (by simp)⟩
 case round =>
  obtain ⟨k, hk, rfl, hb, HPRE⟩ := hrel
  obtain ⟨wo, rfl⟩ := zr wr
  have hsz := hb.size
  have HBW := hide hb
  have HBW1 := hide (HUP1.out wo hb)
  have HBEL := hide (HB1.out.trans (HBW1.out.mono HB1.out.size))
  clear hb y0 y1 y2 y3 y4 y5 y6
  obtain ⟨c0, c1, c2, c3, c4⟩ := HK1.out wo HBW1.out
  obtain ⟨x0, x1, x2, x3, x4, x5, x6⟩ := HK2.out wo HBW1.out
  obtain ⟨e0, e1, e2, e3, e4⟩ := HQ0.out wo HBW.out
  have lq : h6 < wo.heap.size := by omega
  have lf : h5 + 1 < wo.heap.size := by have := HBW1.out.size; omega
  have lx : h5 + 1 + 1 < wo.heap.size := by have := HBW1.out.size; omega
  by_cases hlt : k < na
  case neg =>
   obtain rfl : k = na := by omega
   have HTR := hide (show AR = true by rw [HARG.out]; exact HPRE.out)
   go_wp2_with (go_at_call 63; refine (HDR.out _ HBEL.out).mono ?_; rintro e w3 ⟨rfl, hb3⟩)
   go_ret
   exact ⟨ja1 (by rw [HTR.out]; rfl), HBEL.out.trans (hb3.mono HBEL.out.size)⟩
  obtain ⟨y, hy⟩ : ∃ y, zs[k]? = some y := ⟨_, List.getElem?_eq_getElem (by have := HNA.out; omega)⟩
  obtain ⟨u, hu⟩ : ∃ u, gk[k]? = some u := ⟨_, List.getElem?_eq_getElem (by have := HNG.out; omega)⟩
  obtain ⟨bz, oz, rfl, hbz, f0, -⟩ := (HXK.out wo HBEL.out).get hy
  obtain ⟨bk, ok, rfl, hbk, f1, -⟩ := (HGKI.out wo HBEL.out).get hu
  have hbzs : bz < wo.heap.size := by have := HBEL.out.size; omega
  have hbks : bk < wo.heap.size := by have := HBEL.out.size; omega
  have HBK := hide (show bk < w.heap.size by omega)
  have hin : inB 0 ((ng : Int) - 1) (k : Int) = true := by rw [inB_iff]; omega
  have HTK := hide (fun W => (show Calls Tryz.prog 79 #[.agg #[.slice (some ⟨bk, ok, none⟩) ng cgk, .slice Agb glb cgb, .int .i64 gfp, .int .i64 gfr, .slice Ags gls cgs], .int .i64 (k : Int)] W fun e w' => e = .returned (.bool true) /\ Below W.heap.size W w' by have h := HTH.out (k : Int) W; rw [hin] at h; exact h))
  have HIS := hide (fun (W : World) (hW : Below w.heap.size w W) => HISK0.out y u W hW)
  have HEL := hide (show (decide ((k : Int) < ng) && isK f (zs.getD k 0) (gk.getD k 0)) = isK f y u by rw [List.getD_eq_getElem?_getD, List.getD_eq_getElem?_getD, hy, hu, decide_eq_true (by omega)]; rfl)
  clear hin hy hu
  generalize isK f y u = bb at *
  cases bb with
  | true =>
   have HNEW := hide (show (List.range (k + 1)).all (fun i => decide ((i : Int) < ng) && isK f (zs.getD i 0) (gk.getD i 0)) = true by rw [List.range_succ, List.all_append, HPRE.out]; simp only [List.all_cons, List.all_nil, HEL.out]; rfl)
   have HDR7 := hide (show Below w2.heap.size w2 wo.drew from HBW.out.drew)
   have HDB7 := hide (show Below w.heap.size w wo.drew from HBEL.out.drew)
   go_upto_region 7 with (fail)
   go_region_with (first
    | (go_at_call 63; (with_reducible refine (HIS.out _ HC3.out).mono ?_); rintro e w4 ⟨rfl, hb4⟩)
    | (go_at_call 79; (with_reducible refine (HTK.out _).mono ?_); rintro e w3 ⟨rfl, hb3⟩; have HB3 := hide (HDR7.out.trans (hb3.mono HDR7.out.size)); have HC3 := hide (HDB7.out.trans (hb3.mono HDB7.out.size)); obtain ⟨c0, c1, c2, c3, c4⟩ := HK1.out w3 (HUP1.out w3 HB3.out); obtain ⟨e0, e1, e2, e3, e4⟩ := HQ0.out w3 HB3.out; have k1 := ((HC3.out.cell (p := ⟨bk, ok + k, none⟩) HBK.out).trans ((HBEL.out.cell (p := ⟨bk, ok + k, none⟩) HBK.out).symm)).trans f1; have hz3 := hb3.size; clear hb3))
   all_goals
    go_wp2
    go_roundw
    case rel => first | exact ⟨k + 1, by omega, by go_num, HB3.out.trans (hb4.mono HB3.out.size), HNEW⟩ | ((repeat apply Exists.intro); exact ⟨⟨k + 1, by omega, by go_num, HB3.out.trans (hb4.mono HB3.out.size), HNEW⟩, rfl⟩)
    case measure => simp [intOf]; omega
  | false =>
   have HARF := hide (show AR = false by rw [HARG.out]; exact jkc hlt HEL.out)
   have HDR7 := hide (show Below w2.heap.size w2 wo.drew from HBW.out.drew)
   have HDB7 := hide (show Below w.heap.size w wo.drew from HBEL.out.drew)
   go_upto_region 7 with (fail)
   go_region_with (first
    | (go_at_call 63; (with_reducible refine (HIS.out _ HC3.out).mono ?_); rintro e w4 ⟨rfl, hb4⟩)
    | (go_at_call 79; (with_reducible refine (HTK.out _).mono ?_); rintro e w3 ⟨rfl, hb3⟩; have HB3 := hide (HDR7.out.trans (hb3.mono HDR7.out.size)); have HC3 := hide (HDB7.out.trans (hb3.mono HDB7.out.size)); obtain ⟨c0, c1, c2, c3, c4⟩ := HK1.out w3 (HUP1.out w3 HB3.out); obtain ⟨e0, e1, e2, e3, e4⟩ := HQ0.out w3 HB3.out; have k1 := ((HC3.out.cell (p := ⟨bk, ok + k, none⟩) HBK.out).trans ((HBEL.out.cell (p := ⟨bk, ok + k, none⟩) HBK.out).symm)).trans f1; have hz3 := hb3.size; clear hb3))
   all_goals
    go_wp2
    go_ret
    exact ⟨ja1 (by rw [HARF.out]; rfl), HC3.out.trans (hb4.mono HC3.out.size)⟩
end Go.Proofs.YthbnbaikdcfbmaaGreatDoor
