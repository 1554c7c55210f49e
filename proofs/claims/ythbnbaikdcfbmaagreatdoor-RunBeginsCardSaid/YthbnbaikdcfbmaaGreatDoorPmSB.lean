/- The contracts of shape's Sets, Uses, Next, onlyParts. Condition: the table of parts reads as listed. -/
import Derived.Test.YthbnbaikdcfbmaaGreatDoorPmSA
import Derived.Test.YthbnbaikdcfbmaaGreatDoorPmMC
set_option linter.unusedSimpArgs false
set_option linter.unusedVariables false
set_option maxHeartbeats 2000000
set_option maxRecDepth 100000
namespace Go.Proofs.YthbnbaikdcfbmaaGreatDoor
open Go.RowKit
def ja9 (op : Int) (c : Nat) : Bool := decide (c ∈ jae op)
theorem jin (x : InsV) (A : Option Addr) (n c : Nat) (w : World) (hT : TabP w) (hop : i64R x.op) :
  Calls Tryz.prog 136 #[.agg #[.int .i64 x.op, .int .i64 x.d, .int .i64 x.a, .int .i64 x.b, .int .i64 x.n, .int .i64 x.m, .slice A n c]] w fun e w' => e = .returned (.tuple #[.int .i64 (if ja9 x.op 68 = true then x.d else 0), .bool (ja9 x.op 68)]) /\ Below w.heap.size w w' := by
 have H : ∀ W, Below w.heap.size w W -> Calls Tryz.prog 105 #[.int .i64 x.op, .string ⟨#[68]⟩] W fun e w' => e = .returned (.bool (ja9 x.op 68)) /\ W = w' := fun W hW => jmi x.op 68 W (hT.below hW hT.1) hop (by unfold ja5; omega)
 have HH := hide H
 clear H hT hop
 generalize ja9 x.op 68 = b at *
 cases b with
 | false =>
  go_enter Tryz.func136, Tryz.ntmps136
  go_wp2_with (go_at_call 105; refine (HH.out _ (ja4 w _)).mono ?_; rintro e w' ⟨rfl, rfl⟩)
  go_ret2
  exact ⟨rfl, ja4 w _⟩
 | true =>
  go_enter Tryz.func136, Tryz.ntmps136
  go_wp2_with (go_at_call 105; refine (HH.out _ (ja4 w _)).mono ?_; rintro e w' ⟨rfl, rfl⟩)
  go_ret2
  exact ⟨rfl, ja4 w _⟩
def jau (x : InsV) : List Int := if x.op = 21 \/ (x.op = 22 /\ x.n = x.m) then [x.n] else if x.op = 22 then [min x.n x.m, max x.n x.m] else []
def jas (x : InsV) : List Int := (if ja9 x.op 65 = true then [x.a] else []) ++ (if ja9 x.op 66 = true then [x.b] else []) ++ (if ja9 x.op 76 = true then x.args else [])
theorem jik (x : InsV) (va : Value) (w : World) (B : Nat) (hB : B <= w.heap.size) (hT : TabP w) (hx : InsI w (· < B) va x) (hlen : x.args.length <= 1099511627000) :
  Calls Tryz.prog 83 #[.agg #[.int .i64 x.op, .int .i64 x.d, .int .i64 x.a, .int .i64 x.b, .int .i64 x.n, .int .i64 x.m, va]] w fun e w' => ∃ v, e = .returned v /\ Ow w' w.heap.size 3 .i64 v (jas x) /\ Below w.heap.size w w' := by
 obtain ⟨i0, hi0, iz0, iz1, iz2⟩ := info_parts jc5
 have HI := hide hi0
 clear hi0
 have hop := hx.2.1
 have hH : ∀ c, ja5 c -> ∀ W, Below w.heap.size w W -> Calls Tryz.prog 105 #[.int .i64 x.op, .string (jaf [c])] W fun e w' => e = .returned (.bool (ja9 x.op c)) /\ W = w' := fun c hc W hW => jmi x.op c W (hT.below hW hT.1) hop hc
 have hA : ∀ W, Below w.heap.size w W -> Calls Tryz.prog 105 #[.int .i64 x.op, .string ⟨#[65]⟩] W fun e w' => e = .returned (.bool (ja9 x.op 65)) /\ W = w' := hH 65 (by unfold ja5; omega)
 have hBb : ∀ W, Below w.heap.size w W -> Calls Tryz.prog 105 #[.int .i64 x.op, .string ⟨#[66]⟩] W fun e w' => e = .returned (.bool (ja9 x.op 66)) /\ W = w' := hH 66 (by unfold ja5; omega)
 have hL : ∀ W, Below w.heap.size w W -> Calls Tryz.prog 105 #[.int .i64 x.op, .string ⟨#[76]⟩] W fun e w' => e = .returned (.bool (ja9 x.op 76)) /\ W = w' := hH 76 (by unfold ja5; omega)
 obtain ⟨A, c, rfl, hc, hm, hsl, -⟩ := hx.1.sl
 have HSL := hide (hsl.more hB)
 have HSLB := hide hsl
 unfold jas
 generalize ja9 x.op 65 = b1 at *
 generalize ja9 x.op 66 = b2 at *
 generalize ja9 x.op 76 = b3 at *
 obtain ⟨zs, hzs⟩ := zl x.args
 rw [hzs] at hc HSL HSLB hlen ⊢
 obtain ⟨la, hla⟩ := zl zs.length
 rw [hla] at hc hlen ⊢
 have HLA := hide hla
 generalize x.op = xop, x.d = xd, x.a = xa, x.b = xb, x.n = xn, x.m = xm at *
 have HA := hide hA; have HBb := hide hBb; have HL := hide hL
 clear hA hBb hL hH hT hx hop hsl hzs hla
 cases b1 <;> cases b2 <;> cases b3
 all_goals
  go_enter Tryz.func83, Tryz.ntmps83
  go_upto_region 2 with (fail)
  obtain ⟨w1, hw1⟩ := zr (w.alloc (.cells #[.int .i64 xop, .int .i64 xd, .int .i64 xa, .int .i64 xb, .int .i64 xn, .int .i64 xm, .slice A la c] 57))
  have HBX := zx1 hw1 rfl
  have HB1 := zb1 hw1
  have hl1 := HBX.out.lt
  have x0 := (HBX.out.cell 0 (v := .int .i64 xop) rfl).1
  have x2 := (HBX.out.cell 2 (v := .int .i64 xa) rfl).1
  have x3 := (HBX.out.cell 3 (v := .int .i64 xb) rfl).1
  have x6 := (HBX.out.cell 6 (v := .slice A la c) rfl).1
  rw [<- hw1]
  clear hw1
  have HO1 := hide (Ow.nil w1 w1.heap.size 3 .i64)
  go_wp2_with (first
   | (go_at_call 105; (with_reducible refine (HL.out _ ?_).mono ?_); (first | exact HB3.out | exact HB2.out | exact HB1.out); rintro e w' ⟨rfl, rfl⟩)
   | (go_at_call 105; (with_reducible refine (HBb.out _ ?_).mono ?_); (first | exact HB2.out | exact HB1.out); rintro e w' ⟨rfl, rfl⟩)
   | (go_at_call 105; (with_reducible refine (HA.out _ HB1.out).mono ?_); rintro e w' ⟨rfl, rfl⟩)
   | (at_builtin; refine jai _ rfl (.tmp 23) (.tmp 25) _ rfl w1.heap.size 3 .i64 i0 _ 8 Tryz.underlying32 HI.out iz0 iz1 iz2 rfl (by omega) _ _ rfl (by first | exact HO3.out | exact HO2.out | exact HO1.out) w.heap.size A _ c zs rfl HLA.out (by first | exact HSL.out.below HB3.out | exact HSL.out.below HB2.out | exact HSL.out.below HB1.out) (by simp; omega) (by first | exact HC3.out.size | exact HC2.out.size | exact Nat.le_refl _) ?_; intro v4 w4 ho4 hb4; have HO4 := hide ho4; have HB4 : Hid (Below w.heap.size w w4) := (by first | exact HB3.out.trans (hb4.mono (by omega)) | exact HB2.out.trans (hb4.mono (by omega)) | exact HB1.out.trans (hb4.mono (by omega))); clear ho4 hb4)
   | (at_builtin; refine jak _ rfl (.tmp 15) (.tmp 18) _ rfl w1.heap.size 3 .i64 i0 _ 8 Tryz.underlying32 HI.out iz0 iz1 iz2 rfl (by omega) _ _ rfl (by first | exact HO2.out | exact HO1.out) xb rfl (by simp) (by first | exact HC2.out.size | exact Nat.le_refl _) ?_; intro v3 w3 ho3 hb3; have hx3 : Box w3 w.heap.size #[.int .i64 xop, .int .i64 xd, .int .i64 xa, .int .i64 xb, .int .i64 xn, .int .i64 xm, .slice A la c] 57 := (by first | exact HX2.out.belowB hb3 hl1 | exact HBX.out.belowB hb3 hl1); have HB3 : Hid (Below w.heap.size w w3) := (by first | exact HB2.out.trans (hb3.mono (by omega)) | exact HB1.out.trans (hb3.mono (by omega))); have HC3 : Hid (Below w1.heap.size w1 w3) := (by first | exact HC2.out.trans hb3 | exact hb3); have hl3 := hx3.lt; have z0 := (hx3.cell 0 (v := .int .i64 xop) rfl).1; have z6 := (hx3.cell 6 (v := .slice A la c) rfl).1; have HO3 := hide ho3; clear ho3 hb3 hx3)
   | (at_builtin; refine jak _ rfl (.tmp 7) (.tmp 10) _ rfl w1.heap.size 3 .i64 i0 _ 8 Tryz.underlying32 HI.out iz0 iz1 iz2 rfl (by omega) _ [] rfl HO1.out xa rfl (by simp) (Nat.le_refl _) ?_; intro v2 w2 ho2 hb2; rw [List.nil_append] at ho2; have hx2 := HBX.out.belowB hb2 hl1; have HB2 := hide (HB1.out.trans (hb2.mono (by omega))); have HC2 := hide hb2; have hl2 := hx2.lt; have y0 := (hx2.cell 0 (v := .int .i64 xop) rfl).1; have y3 := (hx2.cell 3 (v := .int .i64 xb) rfl).1; have y6 := (hx2.cell 6 (v := .slice A la c) rfl).1; have HX2 := hide hx2; have HO2 := hide ho2; clear ho2 hb2 hx2 x0 x2 x3 x6))
  all_goals
   go_ret
   first
    | exact ⟨_, rfl, by simpa using HO4.out.lower (by omega), HB4.out⟩
    | exact ⟨_, rfl, by simpa using HO3.out.lower (by omega), HB3.out⟩
    | exact ⟨_, rfl, by simpa using HO2.out.lower (by omega), HB2.out⟩
    | exact ⟨_, rfl, by simpa using HO1.out.lower (by omega), HB1.out⟩
def jcc (x : InsV) : List (Bool × Bool × ByteArray) := [(x.d != 0, ja9 x.op 68, ⟨#[68]⟩), (x.a != 0, ja9 x.op 65, ⟨#[65]⟩), (x.b != 0, ja9 x.op 66, ⟨#[66]⟩), (x.n != 0, hasP x.op [78, 110], ⟨#[78, 110]⟩), (x.m != 0, ja9 x.op 77, ⟨#[77]⟩), (decide (0 < x.args.length), ja9 x.op 76, ⟨#[76]⟩)]
def jdw (x : InsV) : Bool := (jcc x).all (fun t => !t.1 || t.2.1)
theorem jix (x : InsV) (A : Option Addr) (c : Nat) (w : World) (hT : TabP w) (hop : i64R x.op) (hla : x.args.length <= 9223372036854775807) :
  Calls Tryz.prog 152 #[.agg #[.int .i64 x.op, .int .i64 x.d, .int .i64 x.a, .int .i64 x.b, .int .i64 x.n, .int .i64 x.m, .slice A x.args.length c]] w fun e w' => e = .returned (.bool (jdw x)) /\ Below w.heap.size w w' := by
 have h1 : ∀ c, ja5 c -> ∀ W, Below w.heap.size w W -> Calls Tryz.prog 105 #[.int .i64 x.op, .string (jaf [c])] W fun e w' => e = .returned (.bool (ja9 x.op c)) /\ Below W.heap.size W w' := fun c hc W hW => (jmi x.op c W (hT.below hW hT.1) hop hc).mono fun e w' ⟨he, hw⟩ => ⟨he, hw ▸ Below.refl _ _⟩
 have h2 : ∀ W, Below w.heap.size w W -> Calls Tryz.prog 105 #[.int .i64 x.op, .string ⟨#[78, 110]⟩] W fun e w' => e = .returned (.bool (hasP x.op [78, 110])) /\ Below W.heap.size W w' := fun W hW => has_two x.op 78 110 W (hT.below hW hT.1) hop (by unfold ja5; omega) (by unfold ja5; omega)
 have hH : ∀ t ∈ jcc x, ∀ W, Below w.heap.size w W -> Calls Tryz.prog 105 #[.int .i64 x.op, .string t.2.2] W fun e w' => e = .returned (.bool t.2.1) /\ Below W.heap.size W w' := by
  intro t ht
  simp only [jcc, List.mem_cons, List.not_mem_nil, or_false] at ht
  rcases ht with rfl | rfl | rfl | rfl | rfl | rfl
  ·exact h1 68 (by unfold ja5; omega)
  ·exact h1 65 (by unfold ja5; omega)
  ·exact h1 66 (by unfold ja5; omega)
  ·exact h2
  ·exact h1 77 (by unfold ja5; omega)
  ·exact h1 76 (by unfold ja5; omega)
 have HH := hide hH
 have hcl : (jcc x).length = 6 := rfl
 have hcells : ∀ k t, (jcc x)[k]? = some t -> (#[Value.string ⟨#[68]⟩, .bool (x.d != 0), .string ⟨#[65]⟩, .bool (x.a != 0), .string ⟨#[66]⟩, .bool (x.b != 0), .string ⟨#[78, 110]⟩, .bool (x.n != 0), .string ⟨#[77]⟩, .bool (x.m != 0), .string ⟨#[76]⟩, .bool (decide (0 < x.args.length))] : Array Value)[k * 2]? = some (.string t.2.2) /\ (#[Value.string ⟨#[68]⟩, .bool (x.d != 0), .string ⟨#[65]⟩, .bool (x.a != 0), .string ⟨#[66]⟩, .bool (x.b != 0), .string ⟨#[78, 110]⟩, .bool (x.n != 0), .string ⟨#[77]⟩, .bool (x.m != 0), .string ⟨#[76]⟩, .bool (decide (0 < x.args.length))] : Array Value)[k * 2 + 1]? = some (.bool t.1) := by
  intro k t hk
  have hk6 : k < 6 := by have := (List.getElem?_eq_some_iff.1 hk).1; omega
  have : k = 0 \/ k = 1 \/ k = 2 \/ k = 3 \/ k = 4 \/ k = 5 := by omega
  rcases this with rfl | rfl | rfl | rfl | rfl | rfl
  all_goals
   simp only [jcc, List.getElem?_cons_zero, List.getElem?_cons_succ, Option.some.injEq] at hk
   subst hk
   exact ⟨rfl, rfl⟩
 have HCL := hide hcells
 have HLN := hide hcl
 unfold jdw
 generalize jcc x = cs at *
 clear h1 h2 hH hT hop hcells hcl
 generalize x.op = xop, x.d = xd, x.a = xa, x.b = xb, x.n = xn, x.m = xm at *
 generalize x.args.length = la at *
 go_enter Tryz.func152, Tryz.ntmps152
 go_upto_region 2 with (fail)
 obtain ⟨w2, hw2⟩ := zr ((w.alloc (.cells #[.int .i64 xop, .int .i64 xd, .int .i64 xa, .int .i64 xb, .int .i64 xn, .int .i64 xm, .slice A la c] 57)).alloc (.cells #[.string ⟨#[68]⟩, .bool (xd != 0), .string ⟨#[65]⟩, .bool (xa != 0), .string ⟨#[66]⟩, .bool (xb != 0), .string ⟨#[78, 110]⟩, .bool (xn != 0), .string ⟨#[77]⟩, .bool (xm != 0), .string ⟨#[76]⟩, .bool (decide (0 < la))] 198))
 obtain ⟨hs, hhs⟩ := zl (w.heap.size + 1)
 have HBS := hide (show Box w2 hs #[.string ⟨#[68]⟩, .bool (xd != 0), .string ⟨#[65]⟩, .bool (xa != 0), .string ⟨#[66]⟩, .bool (xb != 0), .string ⟨#[78, 110]⟩, .bool (xn != 0), .string ⟨#[77]⟩, .bool (xm != 0), .string ⟨#[76]⟩, .bool (decide (0 < la))] 198 by
  have h := Box.new (w.alloc (.cells #[.int .i64 xop, .int .i64 xd, .int .i64 xa, .int .i64 xb, .int .i64 xn, .int .i64 xm, .slice A la c] 57)) #[.string ⟨#[68]⟩, .bool (xd != 0), .string ⟨#[65]⟩, .bool (xa != 0), .string ⟨#[66]⟩, .bool (xb != 0), .string ⟨#[78, 110]⟩, .bool (xn != 0), .string ⟨#[77]⟩, .bool (xm != 0), .string ⟨#[76]⟩, .bool (decide (0 < la))] 198
  rw [World.size_alloc, hhs] at h
  rw [hw2]; exact h)
 have HBX := zy2 hw2 rfl
 have HB2 := zb2 hw2
 have hsz2 : hs < w2.heap.size := HBS.out.lt
 rw [<- hw2, hhs]
 clear hw2
 have hw0 : w.heap.size < w2.heap.size := by omega
 clear hhs
 go_loopw [32] (fun i wr => ∃ k : Nat, k <= 6 /\ i = .int .i64 k /\ Below w2.heap.size w2 wr /\ Hid ((cs.take k).all (fun t => !t.1 || t.2.1) = true)) (fun i _ => 6 - (intOf i).toNat)
 case atStart => exact ⟨0, Nat.zero_le _, rfl, Below.refl _ _, hide (by simp)⟩
 case round =>
  obtain ⟨k, hk, rfl, hb, hall⟩ := hrel
  have hsz := hb.size
  by_cases hlt : k < 6
  ·obtain ⟨t, ht⟩ : ∃ t, cs[k]? = some t := ⟨_, List.getElem?_eq_getElem (by have := HLN.out; omega)⟩
   have hbs := HBS.out.below hb
   have hbx := HBX.out.below hb
   obtain ⟨q0, q1⟩ := HCL.out k t ht
   have d0 := (hbs.cell (k * 2) q0).1
   have d1 := (hbs.cell (k * 2 + 1) q1).1
   have x0 := (hbx.cell 0 (v := .int .i64 xop) rfl).1
   have l1 := hbs.lt
   have l2 := hbx.lt
   have HT := hide ht
   have hH := fun (W : World) (hW : Below wr.heap.size wr W) => HH.out t (List.mem_of_getElem? ht) W (HB2.out.trans ((hb.trans (hW.mono hsz)).mono (by omega)))
   have HBW := hide hb
   obtain ⟨tb, th, ts⟩ := t
   simp only at d0 d1 hH
   clear q0 q1 hbs hbx ht hb
   cases tb with
   | false =>
    have hn := hide (jay hall.out HT.out (by rfl))
    clear hH
    go_wp2
    go_roundw
    case rel => exact ⟨k + 1, by omega, by go_num, HBW.out.alloc hsz _, hn⟩
    case measure => simp [intOf]; omega
   | true =>
    cases th with
    | true =>
     have hn := hide (jay hall.out HT.out (by rfl))
     have HHT := hide hH
     clear hH
     go_wp2_with (go_at_call 105; refine (HHT.out _ (ja4 wr _)).mono ?_; rintro e w3 ⟨rfl, hb3⟩)
     go_roundw
     case rel => exact ⟨k + 1, by omega, by go_num, (HBW.out.alloc hsz _).trans (hb3.mono (by simp; omega)), hn⟩
     case measure => simp [intOf]; omega
    | false =>
     have hn := hide (jb1 (p := fun t : Bool × Bool × ByteArray => !t.1 || t.2.1) HT.out (by rfl))
     have HHT := hide hH
     clear hH
     go_wp2_with (go_at_call 105; refine (HHT.out _ (ja4 wr _)).mono ?_; rintro e w3 ⟨rfl, hb3⟩)
     go_ret
     exact ⟨ja1 hn.out.symm, HB2.out.trans (((HBW.out.alloc hsz _).trans (hb3.mono (by simp; omega))).mono (by omega))⟩
  ·have hn := hide (jbx hall.out HLN.out (by omega))
   go_wp2
   go_ret
   exact ⟨ja1 hn.out.symm, HB2.out.trans (hb.mono (by omega))⟩
theorem Ow.intsV {w : World} {base : Nat} {v : Value} {zs : List Int} (h : Ow w base 3 .i64 v zs) (hr : ∀ z ∈ zs, i64R z) : IntsV w (· < w.heap.size) v zs := by
 obtain ⟨A, c, e, h1, h2, h3⟩ := h.sl
 refine ⟨A, c, e, h1, by simp only [maxLen] at h2; omega, fun hp => ?_⟩
 obtain ⟨b, o, e2, hb, hc⟩ := h3 hp
 refine ⟨b, o, e2, hb, fun j x hj => ⟨?_, hr x (List.mem_of_getElem? hj)⟩⟩
 have := hc j (List.getElem?_eq_some_iff.1 hj).1
 rw [Nat.mul_one, this]
 simp [List.getD, hj]
theorem SBoxR.of {w : World} {h : Nat} {o d a b n m : Int} {v : Value} {T : TypeId} (hb : Box w h #[.int .i64 o, .int .i64 d, .int .i64 a, .int .i64 b, .int .i64 n, .int .i64 m, v] T) :
  w.cell? ⟨h, 0, none⟩ = some (.int .i64 o) /\ w.cell? ⟨h, 1, none⟩ = some (.int .i64 d) /\ w.cell? ⟨h, 2, none⟩ = some (.int .i64 a) /\ w.cell? ⟨h, 3, none⟩ = some (.int .i64 b) /\ w.cell? ⟨h, 4, none⟩ = some (.int .i64 n) /\ w.cell? ⟨h, 5, none⟩ = some (.int .i64 m) /\ w.cell? ⟨h, 6, none⟩ = some v :=
 ⟨(hb.cell 0 (v := .int .i64 o) rfl).1, (hb.cell 1 (v := .int .i64 d) rfl).1, (hb.cell 2 (v := .int .i64 a) rfl).1, (hb.cell 3 (v := .int .i64 b) rfl).1, (hb.cell 4 (v := .int .i64 n) rfl).1, (hb.cell 5 (v := .int .i64 m) rfl).1, (hb.cell 6 (v := v) rfl).1⟩
theorem jpq {x : InsV} (h : InsR x) (ha : ∀ z ∈ x.args, i64R z) : ∀ z ∈ jas x, i64R z := by
 obtain ⟨-, -, h1, h2, -, -⟩ := h
 intro z hz
 unfold jas at hz
 rw [List.mem_append, List.mem_append] at hz
 rcases hz with (hz | hz) | hz
 ·split at hz <;> simp at hz; rw [hz]; exact h1
 ·split at hz <;> simp at hz; rw [hz]; exact h2
 ·split at hz
  ·exact ha z hz
  ·simp at hz
theorem jpk (v : Int) (h : Nat) (w : World) (B hf hp : Nat) (p : List FunV) (f : FunV) (hs : ScopeP w B hf hp p f) (hc : w.cell? ⟨h, 0, none⟩ = some (.func (.func 118) #[] #[.pointer (some ⟨hf, 0, none⟩)])) (hl : h < w.heap.size) :
  Calls Tryz.prog 169 #[.int .i64 v, .pointer (some ⟨h, 0, none⟩)] w fun e w' => e = .returned (.bool (!jbt f v)) /\ w = w' := by
 have HS := hide (jfv v w B hf hp p f hs)
 generalize jbt f v = b at *
 clear hs
 go_enter Tryz.func169, Tryz.ntmps169
 go_wp2_with (go_at_call 118; refine HS.out.mono ?_; rintro e w' ⟨rfl, rfl⟩)
 go_ret
 exact ⟨rfl, rfl⟩
def jel (f : FunV) (x : InsV) : Bool := (!ja9 x.op 68 || jbt f x.d) && (jas x).all (jbt f)
theorem jii (x : InsV) (va : Value) (w : World) (B hf hp : Nat) (p : List FunV) (f : FunV) (hB : B <= w.heap.size) (hT : TabP w) (hs : ScopeP w B hf hp p f) (hx : InsI w (· < w.heap.size) va x) (hlen : x.args.length <= 1099511627000) :
  Calls Tryz.prog 153 #[jbs hf hp, .agg #[.int .i64 x.op, .int .i64 x.d, .int .i64 x.a, .int .i64 x.b, .int .i64 x.n, .int .i64 x.m, va]] w fun e w' => e = .returned (.bool (jel f x)) /\ Below w.heap.size w w' := by
 have hR := jpq hx.2 hx.1.range
 have hU := fun (W : World) (hW : Below w.heap.size w W) => jik x va W w.heap.size hW.size (hT.below hW hT.1) (hx.keep (up hW (Nat.le_refl _)) (fun _ h => h)) hlen
 obtain ⟨A, c, rfl⟩ := hx.open'
 have hSt := fun (W : World) (hW : Below w.heap.size w W) => jin x A x.args.length c W (hT.below hW hT.1) hx.2.1
 have hV := fun (W : World) (hW : Below w.heap.size w W) => jfv x.d W B hf hp p f (hs.below hW)
 have hCF := fun (W : World) (hW : Below w.heap.size w W) (v : Value) (hv : IntsV W (· < W.heap.size) v (jas x)) (h : Nat) (hc : W.cell? ⟨h, 0, none⟩ = some (.func (.func 118) #[] #[.pointer (some ⟨hf, 0, none⟩)])) (hl : h < W.heap.size) =>
  jlg (jas x) v h (fun z => !jbt f z) W W.heap.size hv (fun z _ => jpk z h W B hf hp p f (hs.below hW) hc hl)
 have hav := jsw (jbt f) (jas x)
 unfold jel jbs
 have HAV := hide hav
 have HR := hide hR
 have HU := hide hU; have HSt := hide hSt; have HV := hide hV; have HCF := hide hCF
 clear hR hU hSt hV hCF hav hT hs hx
 generalize (jas x).any (fun z => !jbt f z) = cb at *
 generalize (jas x).all (jbt f) = ab at *
 generalize jas x = us at *
 generalize ja9 x.op 68 = hb68 at *
 generalize jbt f x.d = iv at *
 generalize x.args.length = la at *
 generalize x.op = xop, x.d = xd, x.a = xa, x.b = xb, x.n = xn, x.m = xm at *
 go_enter Tryz.func153, Tryz.ntmps153
 go_upto_region 1 with (fail)
 obtain ⟨w1, hw1⟩ := zr ((w.alloc (.cells #[.func (.func 118) #[] #[.pointer (some ⟨hf, 0, none⟩)], .func (.func 119) #[] #[.pointer (some ⟨hf, 0, none⟩)], .func (.func 120) #[] #[.pointer (some ⟨hp, 0, none⟩)]] 150)).alloc (.cells #[.int .i64 xop, .int .i64 xd, .int .i64 xa, .int .i64 xb, .int .i64 xn, .int .i64 xm, .slice A la c] 57))
 obtain ⟨h2, hh2⟩ := zl (w.heap.size + 1)
 have HBS := zy2 hw1 rfl
 have HBX := hide (show Box w1 h2 #[.int .i64 xop, .int .i64 xd, .int .i64 xa, .int .i64 xb, .int .i64 xn, .int .i64 xm, .slice A la c] 57 by
  have h := Box.new (w.alloc (.cells #[.func (.func 118) #[] #[.pointer (some ⟨hf, 0, none⟩)], .func (.func 119) #[] #[.pointer (some ⟨hf, 0, none⟩)], .func (.func 120) #[] #[.pointer (some ⟨hp, 0, none⟩)]] 150)) #[.int .i64 xop, .int .i64 xd, .int .i64 xa, .int .i64 xb, .int .i64 xn, .int .i64 xm, .slice A la c] 57
  rw [World.size_alloc, hh2] at h
  rw [hw1]; exact h)
 have HB1 := zb2 hw1
 have hl1 := HBS.out.lt
 have hl2 := HBX.out.lt
 rw [<- hw1, hh2]
 clear hw1 hh2
 have SBX := hide (SBoxR.of HBX.out)
 obtain ⟨x0, x1, x2, x3, x4, x5, x6⟩ := SBX.out
 have s0 := (HBS.out.cell 0 (v := .func (.func 118) #[] #[.pointer (some ⟨hf, 0, none⟩)]) rfl).1
 go_upto_region 2 with (go_at_call 136; refine (HSt.out w1 HB1.out).mono ?_; rintro e w2 ⟨rfl, hb2⟩; have HB2 := hide (HB1.out.trans (hb2.mono HB1.out.size)); have HX2 := hide (HBX.out.below hb2); have HS2 := hide (HBS.out.below hb2); clear hb2 x0 x1 x2 x3 x4 x5 x6 s0)
 have hl3 := HS2.out.lt
 have hl4 := HX2.out.lt
 obtain ⟨x0, x1, x2, x3, x4, x5, x6⟩ := SBoxR.of HX2.out
 have s0 := (HS2.out.cell 0 (v := .func (.func 118) #[] #[.pointer (some ⟨hf, 0, none⟩)]) rfl).1
 have HV2 := hide (HV.out w2 HB2.out)
 cases hb68 with
 | false =>
  go_wp2_with (first
   | (go_at_call 83; refine (HU.out w2 HB2.out).mono ?_; rintro e w3 ⟨v3, rfl, ho3, hb3⟩; have hiv := ho3.intsV HR.out; obtain ⟨A3, c3, rfl, -, -⟩ := hiv.open'; have HB3 := hide (HB2.out.trans (hb3.mono HB2.out.size)); have hs3 := HS2.out.below hb3; have s3 := (hs3.cell 0 (v := .func (.func 118) #[] #[.pointer (some ⟨hf, 0, none⟩)]) rfl).1; have HC3 := hide (HCF.out w3 HB3.out _ hiv w.heap.size s3 hs3.lt); clear ho3 hb3 hiv hs3 s3)
   | (go_at_call 26; refine HC3.out.mono ?_; rintro e w' ⟨rfl, rfl⟩))
  go_ret
  exact ⟨ja1 (by rw [HAV.out]; rfl), HB3.out⟩
 | true =>
  cases iv with
  | false =>
   go_wp2_with (go_at_call 118; refine HV2.out.mono ?_; rintro e w' ⟨rfl, rfl⟩)
   go_ret
   exact ⟨by simp, HB2.out⟩
  | true =>
   go_wp2_with (first
    | (go_at_call 118; refine HV2.out.mono ?_; rintro e w' ⟨rfl, rfl⟩)
    | (go_at_call 83; refine (HU.out w2 HB2.out).mono ?_; rintro e w3 ⟨v3, rfl, ho3, hb3⟩; have hiv := ho3.intsV HR.out; obtain ⟨A3, c3, rfl, -, -⟩ := hiv.open'; have HB3 := hide (HB2.out.trans (hb3.mono HB2.out.size)); have hs3 := HS2.out.below hb3; have s3 := (hs3.cell 0 (v := .func (.func 118) #[] #[.pointer (some ⟨hf, 0, none⟩)]) rfl).1; have HC3 := hide (HCF.out w3 HB3.out _ hiv w.heap.size s3 hs3.lt); clear ho3 hb3 hiv hs3 s3)
    | (go_at_call 26; refine HC3.out.mono ?_; rintro e w' ⟨rfl, rfl⟩))
   go_ret
   exact ⟨ja1 (by rw [HAV.out]; rfl), HB3.out⟩
def jc9 (p : List FunV) (f : FunV) (x : InsV) : Bool :=
 if x.op = 1 then inB (-2147483648) 2147483648 x.n else if x.op = 16 then inB (-8) 8 x.n else if x.op = 10 then inB 0 8 x.n && inB 0 8 x.m
 else if x.op = 11 \/ x.op = 12 \/ x.op = 13 \/ x.op = 14 \/ x.op = 15 then inB 0 7 x.n else if x.op = 19 then jbk p x.n x.args.length else if x.op = 21 then jcg f x.n else if x.op = 22 then jcg f x.n && jcg f x.m else true
theorem jm8 (x : InsV) (A : Option Addr) (c : Nat) (w : World) (B hf hp : Nat) (p : List FunV) (f : FunV) (hs : ScopeP w B hf hp p f) (hx : InsR x) :
  Calls Tryz.prog 154 #[jbs hf hp, .agg #[.int .i64 x.op, .int .i64 x.d, .int .i64 x.a, .int .i64 x.b, .int .i64 x.n, .int .i64 x.m, .slice A x.args.length c]] w fun e w' => e = .returned (.bool (jc9 p f x)) /\ Below w.heap.size w w' := by
 have hw2 : ∀ o1 o2, Below w.heap.size w ((w.alloc o1).alloc o2) := fun o1 o2 => jbm w o1 o2
 have HC := hide (fun (W : World) (hW : Below w.heap.size w W) => jjw x.n x.args.length W B hf hp p f (hs.below hW) hx.2.2.2.2.1)
 have HBn := hide (fun (W : World) (hW : Below w.heap.size w W) => jfw x.n W B hf hp p f (hs.below hW))
 have HBm := hide (fun (W : World) (hW : Below w.heap.size w W) => jfw x.m W B hf hp p f (hs.below hW))
 have HW := hide (fun (n lo hi : Int) (W : World) => jaq n lo hi W)
 unfold jbs
 clear hs hx
 by_cases h1 : x.op = 1
 ·have hv := hide (show jc9 p f x = inB (-2147483648) 2147483648 x.n by unfold jc9; rw [if_pos h1])
  rw [h1]
  clear h1
  go_enter Tryz.func154, Tryz.ntmps154
  go_wp2_with (go_at_call 92; refine (HW.out _ _ _ _).mono ?_; rintro e w' ⟨rfl, rfl⟩)
  go_ret
  exact ⟨ja1 hv.out.symm, jbm w _ _⟩
 by_cases h16 : x.op = 16
 ·have hv := hide (show jc9 p f x = inB (-8) 8 x.n by unfold jc9; rw [if_neg h1, if_pos h16])
  rw [h16]
  clear h1 h16
  go_enter Tryz.func154, Tryz.ntmps154
  go_wp2_with (go_at_call 92; refine (HW.out _ _ _ _).mono ?_; rintro e w' ⟨rfl, rfl⟩)
  go_ret
  exact ⟨ja1 hv.out.symm, jbm w _ _⟩
 by_cases h10 : x.op = 10
 ·have hv := hide (show jc9 p f x = (inB 0 8 x.n && inB 0 8 x.m) by unfold jc9; rw [if_neg h1, if_neg h16, if_pos h10])
  have HWn := hide (fun W => jaq x.n 0 8 W)
  have HWm := hide (fun W => jaq x.m 0 8 W)
  generalize inB 0 8 x.n = b1 at *
  generalize inB 0 8 x.m = b2 at *
  rw [h10]
  clear h1 h16 h10
  cases b1 with
  | false =>
   go_enter Tryz.func154, Tryz.ntmps154
   go_wp2_with (go_at_call 92; refine (HWn.out _).mono ?_; rintro e w' ⟨rfl, rfl⟩)
   go_ret
   exact ⟨ja1 hv.out.symm, jbm w _ _⟩
  | true =>
   generalize hxn : x.n = xn at *
   generalize hxm : x.m = xm at *
   clear hxn hxm
   go_enter Tryz.func154, Tryz.ntmps154
   go_wp2_with (first
    | (go_at_call 92; (with_reducible refine (HWn.out _).mono ?_); rintro e w' ⟨rfl, rfl⟩)
    | (go_at_call 92; (with_reducible refine (HWm.out _).mono ?_); rintro e w' ⟨rfl, rfl⟩))
   go_ret
   exact ⟨ja1 (by rw [hv.out]; rfl), jbm w _ _⟩
 by_cases h7 : x.op = 11 \/ x.op = 12 \/ x.op = 13 \/ x.op = 14 \/ x.op = 15
 ·have hv := hide (show jc9 p f x = inB 0 7 x.n by unfold jc9; rw [if_neg h1, if_neg h16, if_neg h10, if_pos h7])
  clear h1 h16 h10
  rcases h7 with h | h | h | h | h
  all_goals
   rw [h]
   clear h
   go_enter Tryz.func154, Tryz.ntmps154
   go_wp2_with (go_at_call 92; refine (HW.out _ _ _ _).mono ?_; rintro e w' ⟨rfl, rfl⟩)
   go_ret
   exact ⟨ja1 hv.out.symm, jbm w _ _⟩
 by_cases h19 : x.op = 19
 ·have hv := hide (show jc9 p f x = jbk p x.n x.args.length by unfold jc9; rw [if_neg h1, if_neg h16, if_neg h10, if_neg h7, if_pos h19])
  rw [h19]
  generalize jbk p x.n x.args.length = cb at *
  clear h1 h16 h10 h7 h19
  go_enter Tryz.func154, Tryz.ntmps154
  go_wp2_with (go_at_call 120; refine (HC.out _ (hw2 _ _)).mono ?_; rintro e w' ⟨rfl, rfl⟩)
  go_ret
  exact ⟨ja1 hv.out.symm, jbm w _ _⟩
 by_cases h21 : x.op = 21
 ·have hv := hide (show jc9 p f x = jcg f x.n by unfold jc9; rw [if_neg h1, if_neg h16, if_neg h10, if_neg h7, if_neg h19, if_pos h21])
  rw [h21]
  generalize jcg f x.n = cb at *
  clear h1 h16 h10 h7 h19 h21
  go_enter Tryz.func154, Tryz.ntmps154
  go_wp2_with (go_at_call 119; refine (HBn.out _ (hw2 _ _)).mono ?_; rintro e w' ⟨rfl, rfl⟩)
  go_ret
  exact ⟨ja1 hv.out.symm, jbm w _ _⟩
 by_cases h22 : x.op = 22
 ·have hv := hide (show jc9 p f x = (jcg f x.n && jcg f x.m) by unfold jc9; rw [if_neg h1, if_neg h16, if_neg h10, if_neg h7, if_neg h19, if_neg h21, if_pos h22])
  rw [h22]
  generalize jcg f x.n = b1 at *
  generalize jcg f x.m = b2 at *
  clear h1 h16 h10 h7 h19 h21 h22
  cases b1 with
  | false =>
   go_enter Tryz.func154, Tryz.ntmps154
   go_wp2_with (go_at_call 119; refine (HBn.out _ (hw2 _ _)).mono ?_; rintro e w' ⟨rfl, rfl⟩)
   go_ret
   exact ⟨ja1 hv.out.symm, jbm w _ _⟩
  | true =>
   generalize hxn : x.n = xn at *
   generalize hxm : x.m = xm at *
   clear hxn hxm
   go_enter Tryz.func154, Tryz.ntmps154
   go_wp2_with (first
    | (go_at_call 119; (with_reducible refine (HBn.out _ (hw2 _ _)).mono ?_); rintro e w' ⟨rfl, rfl⟩)
    | (go_at_call 119; (with_reducible refine (HBm.out _ (hw2 _ _)).mono ?_); rintro e w' ⟨rfl, rfl⟩))
   go_ret
   exact ⟨ja1 (by rw [hv.out]; rfl), jbm w _ _⟩
 have hv := hide (show jc9 p f x = true by unfold jc9; rw [if_neg h1, if_neg h16, if_neg h10, if_neg h7, if_neg h19, if_neg h21, if_neg h22])
 have g1 : (x.op == 1) = false := by simpa using h1
 have g16 : (x.op == 16) = false := by simpa using h16
 have g10 : (x.op == 10) = false := by simpa using h10
 have g11 : (x.op == 11) = false := by simp; omega
 have g12 : (x.op == 12) = false := by simp; omega
 have g13 : (x.op == 13) = false := by simp; omega
 have g14 : (x.op == 14) = false := by simp; omega
 have g15 : (x.op == 15) = false := by simp; omega
 have g19 : (x.op == 19) = false := by simpa using h19
 have g21 : (x.op == 21) = false := by simpa using h21
 have g22 : (x.op == 22) = false := by simpa using h22
 clear h1 h16 h10 h7 h19 h21 h22
 go_enter Tryz.func154, Tryz.ntmps154
 go_wp2
 go_ret
 exact ⟨ja1 hv.out.symm, jbm w _ _⟩
theorem SScp.of {w : World} {h : Nat} {v1 v2 v3 : Value} {T : TypeId} (hb : Box w h #[v1, v2, v3] T) : w.cell? ⟨h, 0, none⟩ = some v1 /\ w.cell? ⟨h, 1, none⟩ = some v2 /\ w.cell? ⟨h, 2, none⟩ = some v3 :=
 ⟨(hb.cell 0 (v := v1) rfl).1, (hb.cell 1 (v := v2) rfl).1, (hb.cell 2 (v := v3) rfl).1⟩
def jcf (p : List FunV) (f : FunV) (x : InsV) : Bool := !(jae x.op).isEmpty && (jdw x && (jel f x && jc9 p f x))
theorem may_any (x : InsV) (va : Value) (w : World) (B hf hp : Nat) (p : List FunV) (f : FunV) (hB : B <= w.heap.size) (hT : TabP w) (hs : ScopeP w B hf hp p f) (hx : InsI w (· < w.heap.size) va x) (hlen : x.args.length <= 1099511627000) :
  Calls Tryz.prog 121 #[jbs hf hp, .agg #[.int .i64 x.op, .int .i64 x.d, .int .i64 x.a, .int .i64 x.b, .int .i64 x.n, .int .i64 x.m, va]] w fun e w' => e = .returned (.bool (jcf p f x)) /\ Below w.heap.size w w' := by
 have hV := fun (W : World) (hW : Below w.heap.size w W) => jii x va W B hf hp p f (by have := hW.size; omega) (hT.below hW hT.1) (hs.below hW) (hx.keep (up hW (Nat.le_refl _)) (fun b h => by have := hW.size; omega)) hlen
 have hP := fun (W : World) (hW : Below w.heap.size w W) => jgr x.op W (hT.below hW hT.1) hx.2.1
 obtain ⟨A, c, rfl⟩ := hx.open'
 have hO := fun (W : World) (hW : Below w.heap.size w W) => jix x A c W (hT.below hW hT.1) hx.2.1 (by omega)
 have hN := fun (W : World) (hW : Below w.heap.size w W) => jm8 x A c W B hf hp p f (hs.below hW) hx.2
 have hne : (jae x.op).isEmpty = false -> (!(jaf (jae x.op)).toList.isEmpty) = true := fun h => by
  have := jew (l := jae x.op) (by intro h0; rw [h0] at h; cases h)
  simpa using this
 have hem : (jae x.op).isEmpty = true -> jaf (jae x.op) = ⟨#[]⟩ := fun h => by
  have : jae x.op = [] := by simpa using h
  rw [this]; rfl
 unfold jcf
 unfold jbs at *
 generalize jaf (jae x.op) = t at *
 generalize (jae x.op).isEmpty = eb at *
 generalize jdw x = b2 at *
 generalize jel f x = b3 at *
 generalize jc9 p f x = b4 at *
 have HV := hide hV; have HP := hide hP; have HO := hide hO; have HN := hide hN
 clear hV hP hO hN hT hs hx
 generalize x.args.length = la at *
 generalize x.op = xop, x.d = xd, x.a = xa, x.b = xb, x.n = xn, x.m = xm at *
 cases eb with
 | true =>
  have ht := hem rfl
  subst ht
  clear hem hne
  go_enter Tryz.func121, Tryz.ntmps121
  go_wp2_with (go_at_call 135; refine (HP.out _ (jbm w _ _)).mono ?_; rintro e w' ⟨rfl, rfl⟩)
  go_ret
  exact ⟨by simp, jbm w _ _⟩
 | false =>
  have htl := hne rfl
  have htn : (t.toList == []) = false := by simpa using htl
  have htn2 : (t.toList != []) = true := by simpa using htl
  clear hem hne
  go_enter Tryz.func121, Tryz.ntmps121
  go_upto_region 1 with (fail)
  obtain ⟨w1, hw1⟩ := zr ((w.alloc (.cells #[.func (.func 118) #[] #[.pointer (some ⟨hf, 0, none⟩)], .func (.func 119) #[] #[.pointer (some ⟨hf, 0, none⟩)], .func (.func 120) #[] #[.pointer (some ⟨hp, 0, none⟩)]] 150)).alloc (.cells #[.int .i64 xop, .int .i64 xd, .int .i64 xa, .int .i64 xb, .int .i64 xn, .int .i64 xm, .slice A la c] 57))
  obtain ⟨h2, hh2⟩ := zl (w.heap.size + 1)
  have HBS := zy2 hw1 rfl
  have HBX := hide (show Box w1 h2 #[.int .i64 xop, .int .i64 xd, .int .i64 xa, .int .i64 xb, .int .i64 xn, .int .i64 xm, .slice A la c] 57 by
   have h := Box.new (w.alloc (.cells #[.func (.func 118) #[] #[.pointer (some ⟨hf, 0, none⟩)], .func (.func 119) #[] #[.pointer (some ⟨hf, 0, none⟩)], .func (.func 120) #[] #[.pointer (some ⟨hp, 0, none⟩)]] 150)) #[.int .i64 xop, .int .i64 xd, .int .i64 xa, .int .i64 xb, .int .i64 xn, .int .i64 xm, .slice A la c] 57
   rw [World.size_alloc, hh2] at h
   rw [hw1]; exact h)
  have HB1 := zb2 hw1
  have hl1 := HBS.out.lt
  have hl2 := HBX.out.lt
  rw [<- hw1, hh2]
  clear hw1 hh2
  obtain ⟨x0, x1, x2, x3, x4, x5, x6⟩ := SBoxR.of HBX.out
  cases b2 with
  | false =>
   go_wp2_with (first
    | (go_at_call 152; refine (HO.out w1 HB1.out).mono ?_; rintro e w2 ⟨rfl, hb2⟩; have HB2 := hide (HB1.out.trans (hb2.mono HB1.out.size)); have HX2 := hide (HBX.out.below hb2); have HS2 := hide (HBS.out.below hb2); obtain ⟨y0, y1, y2, y3, y4, y5, y6⟩ := SBoxR.of HX2.out; obtain ⟨t0, t1, t2⟩ := SScp.of HS2.out; have l3 := HX2.out.lt; have l4 := HS2.out.lt; clear hb2 x0 x1 x2 x3 x4 x5 x6)
    | (go_at_call 135; refine (HP.out w1 HB1.out).mono ?_; rintro e w' ⟨rfl, rfl⟩))
   go_ret
   exact ⟨by simp, HB2.out⟩
  | true =>
   cases b3 with
   | false =>
    go_wp2_with (first
     | (go_at_call 153; refine (HV.out w2 HB2.out).mono ?_; rintro e w3 ⟨rfl, hb3⟩; have HB3 := hide (HB2.out.trans (hb3.mono HB2.out.size)); have HX3 := hide (HX2.out.below hb3); have HS3 := hide (HS2.out.below hb3); obtain ⟨z0, z1, z2, z3, z4, z5, z6⟩ := SBoxR.of HX3.out; obtain ⟨u0, u1, u2⟩ := SScp.of HS3.out; have l5 := HX3.out.lt; have l6 := HS3.out.lt; clear hb3 y0 y1 y2 y3 y4 y5 y6 t0 t1 t2)
     | (go_at_call 152; refine (HO.out w1 HB1.out).mono ?_; rintro e w2 ⟨rfl, hb2⟩; have HB2 := hide (HB1.out.trans (hb2.mono HB1.out.size)); have HX2 := hide (HBX.out.below hb2); have HS2 := hide (HBS.out.below hb2); obtain ⟨y0, y1, y2, y3, y4, y5, y6⟩ := SBoxR.of HX2.out; obtain ⟨t0, t1, t2⟩ := SScp.of HS2.out; have l3 := HX2.out.lt; have l4 := HS2.out.lt; clear hb2 x0 x1 x2 x3 x4 x5 x6)
     | (go_at_call 135; refine (HP.out w1 HB1.out).mono ?_; rintro e w' ⟨rfl, rfl⟩))
    go_ret
    exact ⟨by simp, HB3.out⟩
   | true =>
    go_wp2_with (first
     | (go_at_call 154; refine (HN.out w3 HB3.out).mono ?_; rintro e w4 ⟨rfl, hb4⟩; have HB4 := hide (HB3.out.trans (hb4.mono HB3.out.size)); clear hb4)
     | (go_at_call 153; refine (HV.out w2 HB2.out).mono ?_; rintro e w3 ⟨rfl, hb3⟩; have HB3 := hide (HB2.out.trans (hb3.mono HB2.out.size)); have HX3 := hide (HX2.out.below hb3); have HS3 := hide (HS2.out.below hb3); obtain ⟨z0, z1, z2, z3, z4, z5, z6⟩ := SBoxR.of HX3.out; obtain ⟨u0, u1, u2⟩ := SScp.of HS3.out; have l5 := HX3.out.lt; have l6 := HS3.out.lt; clear hb3 y0 y1 y2 y3 y4 y5 y6 t0 t1 t2)
     | (go_at_call 152; refine (HO.out w1 HB1.out).mono ?_; rintro e w2 ⟨rfl, hb2⟩; have HB2 := hide (HB1.out.trans (hb2.mono HB1.out.size)); have HX2 := hide (HBX.out.below hb2); have HS2 := hide (HBS.out.below hb2); obtain ⟨y0, y1, y2, y3, y4, y5, y6⟩ := SBoxR.of HX2.out; obtain ⟨t0, t1, t2⟩ := SScp.of HS2.out; have l3 := HX2.out.lt; have l4 := HS2.out.lt; clear hb2 x0 x1 x2 x3 x4 x5 x6)
     | (go_at_call 135; refine (HP.out w1 HB1.out).mono ?_; rintro e w' ⟨rfl, rfl⟩))
    go_ret
    exact ⟨by simp, HB4.out⟩
def jsv (bs : List (List InsV)) : Prop := ∀ b ∈ bs, ∀ x ∈ b, x.args.length <= 1099511627000
theorem all_any (vs : Value) (bs : List (List InsV)) (w : World) (B hf hp : Nat) (p : List FunV) (f : FunV) (hB : B <= w.heap.size) (hT : TabP w) (hs : ScopeP w B hf hp p f) (hx : BlksV w (· < B) vs bs) (hfew : jsv bs) :
  Calls Tryz.prog 96 #[jbs hf hp, vs] w fun e w' => e = .returned (.bool (bs.all (fun b => b.all (jcf p f)))) /\ Below w.heap.size w w' := by
 have hM := fun (W : World) (hW : Below w.heap.size w W) (x : InsV) (va : Value) (hi : InsI W (· < W.heap.size) va x) (hl : x.args.length <= 1099511627000) => may_any x va W B hf hp p f (by have := hW.size; omega) (hT.below hW hT.1) (hs.below hW) hi hl
 obtain ⟨A, c, rfl, hc, hm⟩ := hx.open'
 obtain ⟨n, hn⟩ := zl bs.length
 rw [hn] at hx hc ⊢
 have HN := hide hn
 have HX := hide hx
 have HM := hide hM
 have HFEW := hide hfew
 unfold jbs at *
 clear hn hx hM hfew hs hT
 go_enter Tryz.func96, Tryz.ntmps96
 go_upto_region 1 with (fail)
 obtain ⟨w1, hw1⟩ := zr (w.alloc (.cells #[.func (.func 118) #[] #[.pointer (some ⟨hf, 0, none⟩)], .func (.func 119) #[] #[.pointer (some ⟨hf, 0, none⟩)], .func (.func 120) #[] #[.pointer (some ⟨hp, 0, none⟩)]] 150))
 have HBS := zx1 hw1 rfl
 have HB1 := zb1 hw1
 have hl1 := HBS.out.lt
 rw [<- hw1]
 clear hw1
 go_wp2
 go_loopw [11] (fun i wr => ∃ k : Nat, k <= n /\ i = .int .i64 k /\ Below w1.heap.size w1 wr /\ Hid ((bs.take k).all (fun b => b.all (jcf p f)) = true)) (fun i _ => n - (intOf i).toNat)
 case atStart => exact ⟨0, Nat.zero_le _, rfl, Below.refl _ _, hide (by simp)⟩
 case round =>
  obtain ⟨k, hk, rfl, hb, hall⟩ := hrel
  have hsz := hb.size
  by_cases hlt : k < n
  ·obtain ⟨x, hxx⟩ : ∃ x, bs[k]? = some x := ⟨_, List.getElem?_eq_getElem (by have := HN.out; omega)⟩
   have hxw := HX.out.keep (up (HB1.out.trans (hb.mono HB1.out.size)) hB) (fun _ h => h)
   obtain ⟨b1, o1, A1, c1, rfl, hb1', f0, hx1⟩ := hxw.get hxx
   have hs1 : b1 < wr.heap.size := by omega
   have H1 := hide hxx
   obtain ⟨A1', c1', heq1, hm1, hm2⟩ := hx1.open'
   injection heq1 with hA1 _ hcs1
   subst hA1
   subst hcs1
   obtain ⟨m, hmm⟩ := zl x.length
   rw [hmm] at f0 hx1 hm1
   have HX1 := hide hx1; have HMM := hide hmm
   have hxf := HFEW.out x (List.mem_of_getElem? hxx)
   have HXF := hide hxf
   obtain ⟨wo, hwo⟩ := zr wr
   subst hwo
   have HBO := hide hb
   clear hxx hx1 hmm hxw hxf hb
   go_wp2
   go_loopw [18] (fun i wr => ∃ j : Nat, j <= m /\ i = .int .i64 j /\ Below wo.heap.size wo wr /\ Hid ((x.take j).all (jcf p f) = true)) (fun i _ => m - (intOf i).toNat)
   case atStart => exact ⟨0, Nat.zero_le _, rfl, ja4 wo _, hide (by simp)⟩
   case round =>
    obtain ⟨j, hj, rfl, hb3, hall3⟩ := hrel
    have hz3 := hb3.size
    by_cases hlj : j < m
    ·obtain ⟨u, hu⟩ : ∃ u, x[j]? = some u := ⟨_, List.getElem?_eq_getElem (by have := HMM.out; omega)⟩
     have hxk := HX1.out.keep (up hb3 (by omega)) (fun _ h => h)
     obtain ⟨b2, o2, A2, c2, rfl, hb2', ⟨g0, g1, g2, g3, g4, g5, g6⟩, hui⟩ := hxk.get hu
     have hb2s : b2 < wr.heap.size := by omega
     have HU := hide hu
     have hbel : Below w.heap.size w wr := HB1.out.trans ((HBO.out.trans (hb3.mono hsz)).mono (by omega))
     have hMu := fun (W : World) (hW : Below wr.heap.size wr W) => HM.out W (hbel.trans (hW.mono (by omega))) u _ (hui.keep (up hW (by omega)) (fun b hb => by have := hW.size; omega)) (HXF.out u (List.mem_of_getElem? hu))
     have hbs := (HBS.out.below HBO.out).below hb3
     obtain ⟨t0, t1, t2⟩ := SScp.of hbs
     have l4 := hbs.lt
     have HBEL := hide hbel
     generalize u.args.length = lu at *
     clear hu hxk hui hbs hbel
     by_cases hok : jcf p f u = true
     ·have hn := hide (jay hall3.out HU.out hok)
      rw [hok] at hMu
      have HMU := hide hMu
      clear hMu hok
      go_wp2_with (go_at_call 121; refine (HMU.out _ (ja4 wr _)).mono ?_; rintro e w3 ⟨rfl, hb4⟩)
      go_roundw
      case rel => exact ⟨j + 1, by omega, by go_num, (hb3.alloc hz3 _).trans (hb4.mono (by simp; omega)), hn⟩
      case measure => simp [intOf]; omega
     ·have hof := Bool.eq_false_iff.2 hok
      have hn := hide (jb1 (p := fun b : List InsV => b.all (jcf p f)) H1.out (jb1 HU.out hof))
      rw [hof] at hMu
      have HMU := hide hMu
      clear hMu hok hof
      go_wp2_with (go_at_call 121; refine (HMU.out _ (ja4 wr _)).mono ?_; rintro e w3 ⟨rfl, hb4⟩)
      go_ret
      exact ⟨ja1 hn.out.symm, (HBEL.out.alloc (by omega) _).trans (hb4.mono (by simp; omega))⟩
    ·have hn := hide (jay hall.out H1.out (jbx hall3.out HMM.out (by omega)))
     go_wp2
     go_roundw
     case rel => exact ⟨k + 1, by omega, by go_num, HBO.out.trans (hb3.mono hsz), hn⟩
     case measure => simp [intOf]; omega
  ·have hn := hide (jbx hall.out HN.out (by omega))
   go_wp2
   go_ret
   exact ⟨ja1 hn.out.symm, HB1.out.trans (hb.mono (by omega))⟩
def jej (f : FunV) : Bool := f.params == 0 && f.result == 0
theorem jlk (f : FunV) (Ak Ab As : Option Addr) (lk ck lb cb ls cs : Nat) (w : World) :
  Calls Tryz.prog 93 #[.agg #[.slice Ak lk ck, .slice Ab lb cb, .int .i64 f.params, .int .i64 f.result, .slice As ls cs]] w fun e w' => e = .returned (.bool (jej f)) /\ Below w.heap.size w w' := by
 unfold jej
 generalize f.params = fp, f.result = fr at *
 by_cases h0 : fp = 0
 ·subst h0
  go_enter Tryz.func93, Tryz.ntmps93
  go_wp2
  go_ret
  exact ⟨by simp, ja4 w _⟩
 ·have hb : (fp == 0) = false := by simpa using h0
  clear h0
  go_enter Tryz.func93, Tryz.ntmps93
  go_wp2
  go_ret
  exact ⟨by simp [hb], ja4 w _⟩
def jco (p : List FunV) (f : FunV) : Bool := jd9 f && f.blocks.all (fun b => b.all (jcf p f))
def jfu (p : List FunV) : Bool := match p[0]? with
 | some f => jej f
 | none => false
def jad (p : List FunV) : Bool := inB 1 8 (p.length : Int) && (jfu p && p.all (jco p))
def jaz (p : List FunV) : Prop := ∀ f ∈ p, jsv f.blocks
theorem jm4 (vp : Value) (p : List FunV) (w : World) (hT : TabP w) (hp : FunsV w (· < w.heap.size) vp p) (hfew : jaz p) :
  Calls Tryz.prog 80 #[.agg #[vp]] w fun e w' => e = .returned (.bool (jad p)) /\ Below w.heap.size w w' := by
 have hSc := fun (W : World) (hW : Below w.heap.size w W) (k : Nat) (f : FunV) (hf : p[k]? = some f) => jlw vp p k f W w.heap.size hW.size (hp.keep (up hW (Nat.le_refl _)) (fun _ h => h)) hf
 have kp := hide (fun (W : World) (hW : Below w.heap.size w W) => hp.keep (up hW (Nat.le_refl _)) (fun _ h => h))
 obtain ⟨A, c, rfl, hc, hm⟩ := hp.open'
 obtain ⟨n, hn⟩ := zl p.length
 unfold jad
 rw [hn] at hp hc hSc kp ⊢
 have HN := hide hn
 have HP := hide hp
 have HT := hide hT
 have HSc := hide hSc
 have HFEW := hide hfew
 have HW := hide (fun W => jaq (n : Int) 1 8 W)
 clear hn hp hT hSc hfew
 by_cases hin : inB 1 8 (n : Int) = true
 case neg =>
  rw [Bool.eq_false_iff.2 hin] at HW ⊢
  clear hin
  go_enter Tryz.func80, Tryz.ntmps80
  go_wp2_with (go_at_call 92; refine (HW.out _).mono ?_; rintro e w' ⟨rfl, rfl⟩)
  go_ret
  exact ⟨rfl, ja4 w _⟩
 rw [hin] at HW ⊢
 have hn8 : 1 <= n /\ n <= 8 := by unfold inB at hin; simp only [Bool.and_eq_true, decide_eq_true_eq] at hin; omega
 obtain ⟨hn1, hn8⟩ := hn8
 clear hin
 obtain ⟨f0, hf0⟩ : ∃ f, p[0]? = some f := ⟨_, List.getElem?_eq_getElem (by have := HN.out; omega)⟩
 have hbg : jfu p = jej f0 := by unfold jfu; rw [hf0]
 rw [hbg]
 simp only [Bool.true_and]
 obtain ⟨b, o, Ak, ck, Ab, cb, As, cs, rfl, hbb, ⟨e0, e1, e2, e3, e4⟩, -⟩ := HP.out.get hf0
 rw [Nat.zero_mul, Nat.add_zero] at e0 e1 e2 e3 e4
 have HB0 := hide (fun W => jlk f0 Ak Ab As f0.kinds.length ck f0.base.length cb f0.blocks.length cs W)
 generalize f0.kinds.length = lk, f0.base.length = lb, f0.blocks.length = ls, f0.params = fp, f0.result = fr at *
 generalize jej f0 = bg at *
 clear hf0 hbg
 go_enter Tryz.func80, Tryz.ntmps80
 cases bg with
 | false =>
  go_wp2_with (first
   | (go_at_call 93; refine (HB0.out _).mono ?_; rintro e w1 ⟨rfl, hb1⟩)
   | (go_at_call 92; refine (HW.out _).mono ?_; rintro e w' ⟨rfl, rfl⟩))
  go_ret
  exact ⟨rfl, (ja4 w _).trans (hb1.mono (by simp))⟩
 | true =>
  go_upto_region 3 with (first
   | (go_at_call 93; refine (HB0.out _).mono ?_; rintro e w1 ⟨rfl, hb1⟩; have hx1 := (Box.new w #[.slice (some ⟨b, o, none⟩) n c] 24).below hb1; have HX1 := hide hx1; have x1 := (hx1.cell 0 (v := .slice (some ⟨b, o, none⟩) n c) rfl).1; have l1 := hx1.lt; have HB1 := hide ((ja4 w _).trans (hb1.mono (by simp))); clear hb1 hx1)
   | (go_at_call 92; refine (HW.out _).mono ?_; rintro e w' ⟨rfl, rfl⟩))
  clear e0 e1 e2 e3 e4 HW HB0
  go_wp2
  go_loopw [21] (fun i wr => ∃ k : Nat, k <= n /\ i = .int .i64 k /\ Below w1.heap.size w1 wr /\ Hid ((p.take k).all (jco p) = true)) (fun i _ => n - (intOf i).toNat)
  case atStart => exact ⟨0, Nat.zero_le _, rfl, Below.refl _ _, hide (by simp)⟩
  case round =>
   obtain ⟨k, hk, rfl, hb, hall⟩ := hrel
   have hsz := hb.size
   have hbel : Below w.heap.size w wr := HB1.out.trans (hb.mono HB1.out.size)
   by_cases hlt : k < n
   ·obtain ⟨f, hf⟩ : ∃ f, p[k]? = some f := ⟨_, List.getElem?_eq_getElem (by have := HN.out; omega)⟩
    obtain ⟨b, o, Ak, ck, Ab, cb, As, cs, hA, hbb, ⟨e0, e1, e2, e3, e4⟩, hi⟩ := (kp.out wr hbel).get hf
    cases hA
    have hbs : b < wr.heap.size := by have := hbel.size; omega
    have HF := hide hf
    have hAF := HFEW.out f (List.mem_of_getElem? hf)
    have hx := HX1.out.below hb
    have HXP := hide hx
    have lxp := hx.lt
    have HI := hide hi
    have HBEL := hide hbel
    have HAF := hide hAF
    have HBW := hide hb
    obtain ⟨lk, hlk⟩ := zl f.kinds.length
    obtain ⟨lb, hlb⟩ := zl f.base.length
    obtain ⟨ls, hls⟩ := zl f.blocks.length
    rw [hlk] at e0 HI
    rw [hlb] at e1 HI
    rw [hls] at e4 HI
    clear hi hf hb hx hAF hbel hlk hlb hls
    go_upto_region 6 with (fail)
    obtain ⟨w2, hw2⟩ := zr (wr.alloc (.cells #[.slice Ak lk ck, .slice Ab lb cb, .int .i64 f.params, .int .i64 f.result, .slice As ls cs] 52))
    obtain ⟨h2, hh2⟩ := zl wr.heap.size
    have HX2 := zx1 hw2 hh2
    have HXP2 := hide (show Box w2 w.heap.size #[.slice (some ⟨b, o, none⟩) n c] 24 by rw [hw2]; exact HXP.out.alloc _)
    have HB2 := hide (show Below w.heap.size w w2 by rw [hw2]; exact HBEL.out.alloc (by omega) _)
    have HBO2 := hide (show Below w1.heap.size w1 w2 by rw [hw2]; exact HBW.out.alloc hsz _)
    rw [<- hw2, hh2]
    clear hw2 hh2 e0 e1 e2 e3 e4 hbs lxp
    have hFn := fun (W : World) (hW : Below w.heap.size w W) => jq2 (.slice Ak lk ck) (.slice Ab lb cb) (.slice As ls cs) f W w.heap.size hW.size (by
     obtain ⟨_, _, _, _, _, _, _, _, e, _, _, hi⟩ := (kp.out W hW).get HF.out
     exact HI.out.keep (w := wr) (S := (· < w.heap.size)) (fun bb oo hbb => by
      have q1 := hW.cell (p := ⟨bb, oo, none⟩) hbb
      have q2 := HBEL.out.cell (p := ⟨bb, oo, none⟩) hbb
      rw [q1, q2]) (fun _ h => h))
    have hAl := fun (W : World) (hW : Below w.heap.size w W) (hf hp : Nat) (hs : ScopeP W w.heap.size hf hp p f) => all_any (.slice As ls cs) f.blocks W w.heap.size hf hp p f hW.size (HT.out.below hW HT.out.1) hs (HI.out.2.2.1.keep (fun bb oo hbb => by
      have q1 := hW.cell (p := ⟨bb, oo, none⟩) hbb
      have q2 := HBEL.out.cell (p := ⟨bb, oo, none⟩) hbb
      rw [q1, q2]) (fun _ h => h)) HAF.out
    have hOK : jco p f = (jd9 f && f.blocks.all (fun b => b.all (jcf p f))) := rfl
    have HOK := hide hOK
    generalize jd9 f = fb at *
    generalize f.blocks.all (fun b => b.all (jcf p f)) = ab at *
    have HFn := hide hFn
    have HAl := hide hAl
    clear hFn hAl hOK
    have c0 := (HX2.out.cell 0 (v := .slice Ak lk ck) rfl).1
    have c1 := (HX2.out.cell 1 (v := .slice Ab lb cb) rfl).1
    have c2 := (HX2.out.cell 2 (v := .int .i64 f.params) rfl).1
    have c3 := (HX2.out.cell 3 (v := .int .i64 f.result) rfl).1
    have c4 := (HX2.out.cell 4 (v := .slice As ls cs) rfl).1
    have cp := (HXP2.out.cell 0 (v := .slice (some ⟨b, o, none⟩) n c) rfl).1
    have l2 := HX2.out.lt
    have l3 := HXP2.out.lt
    generalize f.params = fp, f.result = fr at *
    cases fb with
    | false =>
     have hv := hide (jb1 (p := jco p) HF.out (by rw [HOK.out]; rfl))
     first
      | go_region_with (go_at_call 94; refine (HFn.out _ HB2.out.drew).mono ?_; rintro e w3 ⟨rfl, hb3⟩)
      | fail
     all_goals
      go_wp2
      go_ret
      exact ⟨ja1 hv.out.symm, HB2.out.drew.trans (hb3.mono HB2.out.size)⟩
    | true =>
     cases ab with
     | false =>
      have hv := hide (jb1 (p := jco p) HF.out (by rw [HOK.out]; rfl))
      go_region_held3 (fun w' => w'.cell? ⟨h2, 0, none⟩ = some (.slice Ak lk ck) /\ w'.cell? ⟨h2, 1, none⟩ = some (.slice Ab lb cb) /\ w'.cell? ⟨h2, 2, none⟩ = some (.int .i64 fp) /\ w'.cell? ⟨h2, 3, none⟩ = some (.int .i64 fr) /\ w'.cell? ⟨h2, 4, none⟩ = some (.slice As ls cs) /\ w'.cell? ⟨w.heap.size, 0, none⟩ = some (.slice (some ⟨b, o, none⟩) n c)) (first | go_keep | (exact q5) | (exact q4) | (exact q3))
       (first
        | (go_at_call 96; refine (HAl.out w4 HB4.out _ _ hsc4).mono ?_; rintro e w5 ⟨rfl, hb5⟩; have hx5 := HX4.out.below hb5; have hp5 := HP4.out.below hb5; have q5 := And.intro (hx5.cell 0 (v := .slice Ak lk ck) rfl).1 (And.intro (hx5.cell 1 (v := .slice Ab lb cb) rfl).1 (And.intro (hx5.cell 2 (v := .int .i64 fp) rfl).1 (And.intro (hx5.cell 3 (v := .int .i64 fr) rfl).1 (And.intro (hx5.cell 4 (v := .slice As ls cs) rfl).1 (hp5.cell 0 (v := .slice (some ⟨b, o, none⟩) n c) rfl).1)))); have HB5 := hide (HB4.out.trans (hb5.mono HB4.out.size)); have HC5 := hide (HC4.out.trans (hb5.mono HC4.out.size)); clear hb5 hx5 hp5)
        | (go_at_call 95; refine (HSc.out w3 HB3.out k f HF.out).mono ?_; rintro e w4 ⟨sf, sp, rfl, hsc4, hb4⟩; have hx4 := HX3.out.below hb4; have hp4 := HP3.out.below hb4; have q4 := And.intro (hx4.cell 0 (v := .slice Ak lk ck) rfl).1 (And.intro (hx4.cell 1 (v := .slice Ab lb cb) rfl).1 (And.intro (hx4.cell 2 (v := .int .i64 fp) rfl).1 (And.intro (hx4.cell 3 (v := .int .i64 fr) rfl).1 (And.intro (hx4.cell 4 (v := .slice As ls cs) rfl).1 (hp4.cell 0 (v := .slice (some ⟨b, o, none⟩) n c) rfl).1)))); have HX4 := hide hx4; have HP4 := hide hp4; have HB4 := hide (HB3.out.trans (hb4.mono HB3.out.size)); have HC4 := hide (HC3.out.trans (hb4.mono HC3.out.size)); clear hb4 hx4 hp4)
        | (go_at_call 94; refine (HFn.out _ (ja0 HB2.out 1)).mono ?_; rintro e w3 ⟨rfl, hb3⟩; have hc3 : Below w2.heap.size w2 w3 := ⟨hb3.os, hb3.tape, hb3.output, hb3.size, hb3.block⟩; have hx3 := HX2.out.below hc3; have hp3 := HXP2.out.below hc3; have q3 := And.intro (hx3.cell 0 (v := .slice Ak lk ck) rfl).1 (And.intro (hx3.cell 1 (v := .slice Ab lb cb) rfl).1 (And.intro (hx3.cell 2 (v := .int .i64 fp) rfl).1 (And.intro (hx3.cell 3 (v := .int .i64 fr) rfl).1 (And.intro (hx3.cell 4 (v := .slice As ls cs) rfl).1 (hp3.cell 0 (v := .slice (some ⟨b, o, none⟩) n c) rfl).1)))); have HX3 := hide hx3; have HP3 := hide hp3; have HC3 := hide hc3; have HB3 := hide (HB2.out.trans (hc3.mono HB2.out.size)); clear hb3 hc3 hx3 hp3))
      go_wp2
      go_ret
      exact ⟨ja1 hv.out.symm, HB5.out⟩
     | true =>
      have hv := hide (jay hall.out HF.out (by rw [HOK.out]; rfl))
      go_region_held3 (fun w' => w'.cell? ⟨h2, 0, none⟩ = some (.slice Ak lk ck) /\ w'.cell? ⟨h2, 1, none⟩ = some (.slice Ab lb cb) /\ w'.cell? ⟨h2, 2, none⟩ = some (.int .i64 fp) /\ w'.cell? ⟨h2, 3, none⟩ = some (.int .i64 fr) /\ w'.cell? ⟨h2, 4, none⟩ = some (.slice As ls cs) /\ w'.cell? ⟨w.heap.size, 0, none⟩ = some (.slice (some ⟨b, o, none⟩) n c)) (first | go_keep | (exact q5) | (exact q4) | (exact q3))
       (first
        | (go_at_call 96; refine (HAl.out w4 HB4.out _ _ hsc4).mono ?_; rintro e w5 ⟨rfl, hb5⟩; have hx5 := HX4.out.below hb5; have hp5 := HP4.out.below hb5; have q5 := And.intro (hx5.cell 0 (v := .slice Ak lk ck) rfl).1 (And.intro (hx5.cell 1 (v := .slice Ab lb cb) rfl).1 (And.intro (hx5.cell 2 (v := .int .i64 fp) rfl).1 (And.intro (hx5.cell 3 (v := .int .i64 fr) rfl).1 (And.intro (hx5.cell 4 (v := .slice As ls cs) rfl).1 (hp5.cell 0 (v := .slice (some ⟨b, o, none⟩) n c) rfl).1)))); have HB5 := hide (HB4.out.trans (hb5.mono HB4.out.size)); have HC5 := hide (HC4.out.trans (hb5.mono HC4.out.size)); clear hb5 hx5 hp5)
        | (go_at_call 95; refine (HSc.out w3 HB3.out k f HF.out).mono ?_; rintro e w4 ⟨sf, sp, rfl, hsc4, hb4⟩; have hx4 := HX3.out.below hb4; have hp4 := HP3.out.below hb4; have q4 := And.intro (hx4.cell 0 (v := .slice Ak lk ck) rfl).1 (And.intro (hx4.cell 1 (v := .slice Ab lb cb) rfl).1 (And.intro (hx4.cell 2 (v := .int .i64 fp) rfl).1 (And.intro (hx4.cell 3 (v := .int .i64 fr) rfl).1 (And.intro (hx4.cell 4 (v := .slice As ls cs) rfl).1 (hp4.cell 0 (v := .slice (some ⟨b, o, none⟩) n c) rfl).1)))); have HX4 := hide hx4; have HP4 := hide hp4; have HB4 := hide (HB3.out.trans (hb4.mono HB3.out.size)); have HC4 := hide (HC3.out.trans (hb4.mono HC3.out.size)); clear hb4 hx4 hp4)
        | (go_at_call 94; refine (HFn.out _ (ja0 HB2.out 1)).mono ?_; rintro e w3 ⟨rfl, hb3⟩; have hc3 : Below w2.heap.size w2 w3 := ⟨hb3.os, hb3.tape, hb3.output, hb3.size, hb3.block⟩; have hx3 := HX2.out.below hc3; have hp3 := HXP2.out.below hc3; have q3 := And.intro (hx3.cell 0 (v := .slice Ak lk ck) rfl).1 (And.intro (hx3.cell 1 (v := .slice Ab lb cb) rfl).1 (And.intro (hx3.cell 2 (v := .int .i64 fp) rfl).1 (And.intro (hx3.cell 3 (v := .int .i64 fr) rfl).1 (And.intro (hx3.cell 4 (v := .slice As ls cs) rfl).1 (hp3.cell 0 (v := .slice (some ⟨b, o, none⟩) n c) rfl).1)))); have HX3 := hide hx3; have HP3 := hide hp3; have HC3 := hide hc3; have HB3 := hide (HB2.out.trans (hc3.mono HB2.out.size)); clear hb3 hc3 hx3 hp3))
      go_wp2
      go_roundw
      case rel => exact ⟨k + 1, by omega, by go_num, HBO2.out.trans (HC5.out.mono (by have := HBO2.out.size; omega)), hv⟩
      case measure => simp [intOf]; omega
   ·have hv := hide (jbx hall.out HN.out (by omega))
    go_wp2
    go_ret
    exact ⟨ja1 hv.out.symm, hbel⟩
def jef (p : List FunV) : Nat := if jad p = true then 0 else 5
theorem jsg (vp : Value) (p : List FunV) (w : World) (B : Nat) (hB : B <= w.heap.size) (hT : TabP w) (hp : FunsV w (· < B) vp p) (hfew : jaz p) :
  Calls Tryz.prog 64 #[.agg #[vp]] w fun e w' => e = .returned (.int .i64 (jef p : Nat)) /\ Below w.heap.size w w' := by
 have hM := fun (W : World) (hW : Below w.heap.size w W) => jm4 vp p W (hT.below hW hT.1) (hp.keep (up hW hB) (fun b h => by have := hW.size; omega)) hfew
 obtain ⟨A, c, rfl, hc, hm⟩ := hp.open'
 unfold jef
 generalize p.length = n at *
 generalize jad p = b at *
 have HM := hide hM
 clear hM hT hp hfew
 cases b with
 | true =>
  go_enter Tryz.func64, Tryz.ntmps64
  go_wp2_with (go_at_call 80; refine (HM.out _ (ja4 w _)).mono ?_; rintro e w1 ⟨rfl, hb1⟩)
  go_ret
  exact ⟨rfl, (ja4 w _).trans (hb1.mono (by simp))⟩
 | false =>
  go_enter Tryz.func64, Tryz.ntmps64
  go_wp2_with (go_at_call 80; refine (HM.out _ (ja4 w _)).mono ?_; rintro e w1 ⟨rfl, hb1⟩)
  go_ret
  exact ⟨rfl, (ja4 w _).trans (hb1.mono (by simp))⟩
end Go.Proofs.YthbnbaikdcfbmaaGreatDoor
