/- Texts of several names, of which only what the statement needs is kept. -/
import Derived.Test.YthbnbaikdcfbmaaGreatDoorPmHC
set_option linter.unusedSimpArgs false
set_option linter.unusedVariables false
set_option maxHeartbeats 1000000
set_option maxRecDepth 100000
namespace Go.Proofs.YthbnbaikdcfbmaaGreatDoor
open Go.RowKit
theorem Ow.form {w : World} {base : Nat} {e : TypeId} {k : IntKind} {v : Value} {zs : List Int} (h : Ow w base e k v zs) (h0 : 0 < zs.length) :
  ∃ g cap, v = .slice (some ⟨g, 0, none⟩) zs.length cap /\ base <= g /\ g < w.heap.size /\ zs.length <= cap /\ cap <= maxLen /\ ∀ j, j < zs.length -> w.cell? ⟨g, j, none⟩ = some (.int k (zs.getD j 0)) /\ w.frozen? ⟨g, j, none⟩ = false := by
 have h' := h
 rcases h.2 with ⟨rfl, hz⟩ | ⟨g, cap, cur, rfl, hg, hh, hnc, hcm, hsz, htake⟩
 ·omega
 ·refine ⟨g, cap, rfl, hg, (Array.getElem?_eq_some_iff.1 hh).1, hnc, hcm, fun j hj => ⟨?_, ?_⟩⟩
  ·rw [World.ownsRow.cellAt h' j (by omega)]
   simp [List.getD, List.getElem?_eq_getElem hj]
  ·simp [World.frozen?, hh]
theorem Ow.put {w : World} {base : Nat} {e : TypeId} {k : IntKind} {g n cap j : Nat} {zs : List Int} {z : Int} (h : Ow w base e k (.slice (some ⟨g, 0, none⟩) n cap) zs) : Ow (w.setCell ⟨g, j, none⟩ (.int k z)) base e k (.slice (some ⟨g, 0, none⟩) n cap) (zs.set j z) := by
 unfold Ow at *
 rcases h.2 with ⟨h0, -⟩ | ⟨g', cap', cur, hv, hg, hh, hnc, hcm, hsz, htake⟩
 ·cases h0
 ·injection hv with h1 h2 h3
  injection h1 with h1
  injection h1 with h1
  subst h1; subst h2; subst h3
  rw [List.length_set]
  refine ⟨by simp, .inr ⟨_, _, cur.setIfInBounds j (.int k z), rfl, hg, heap_setCell_same w _ _ cur _ _ hh, hnc, hcm, by simpa using hsz, ?_⟩⟩
  rw [Array.toList_setIfInBounds, List.take_set, htake, List.map_set]
theorem OwC.form {w : World} {base : Nat} {v : Value} {l : List ObjT} (h : OwC objC 70 2 w base v l) (h0 : 0 < l.length) :
  ∃ g cap, v = .slice (some ⟨g, 0, none⟩) l.length cap /\ base <= g /\ g < w.heap.size /\ l.length <= cap /\ cap <= maxLen /\ ∀ j, j < l.length * 2 -> (∃ u, w.cell? ⟨g, j, none⟩ = some u) /\ w.frozen? ⟨g, j, none⟩ = false := by
 have h' := h
 rcases h.2 with ⟨rfl, hz⟩ | ⟨g, cap, cur, rfl, hg, hh, hnc, hcm, hsz, htake⟩
 ·omega
 ·refine ⟨g, cap, rfl, hg, (Array.getElem?_eq_some_iff.1 hh).1, hnc, hcm, fun j hj => ⟨?_, ?_⟩⟩
  ·rw [World.ownsRow.cellAt h' j hj]
   exact ⟨_, List.getElem?_eq_getElem (by rw [jga]; exact hj)⟩
  ·simp [World.frozen?, hh]
theorem flat_set {l : List ObjT} {k : Nat} {p : ObjT} (hk : k < l.length) : ((l.flatMap objC).set (k * 2) p.2.1).set (k * 2 + 1) p.2.2 = (l.set k p).flatMap objC := by
 induction l generalizing k with
 | nil => simp at hk
 | cons a l ih =>
  cases k with
  | zero => rfl
  | succ k =>
   rw [List.set_cons_succ, List.flatMap_cons, List.flatMap_cons, <- ih (by simpa using hk)]
   rw [show (k + 1) * 2 = k * 2 + 1 + 1 by omega]
   rfl
theorem OwC.put {w : World} {base g n cap k : Nat} {l : List ObjT} {p : ObjT} (h : OwC objC 70 2 w base (.slice (some ⟨g, 0, none⟩) n cap) l) (hk : k < l.length) :
  OwC objC 70 2 ((w.setCell ⟨g, k * 2, none⟩ p.2.1).setCell ⟨g, k * 2 + 1, none⟩ p.2.2) base (.slice (some ⟨g, 0, none⟩) n cap) (l.set k p) := by
 unfold OwC at *
 rcases h.2 with ⟨h0, -⟩ | ⟨g', cap', cur, hv, hg, hh, hnc, hcm, hsz, htake⟩
 ·cases h0
 ·injection hv with h1 h2 h3
  injection h1 with h1
  injection h1 with h1
  subst h1; subst h2; subst h3
  rw [List.length_set]
  refine ⟨by rw [jga, List.length_set], .inr ⟨_, _, (cur.setIfInBounds (k * 2) p.2.1).setIfInBounds (k * 2 + 1) p.2.2, rfl, hg, heap_setCell_same _ _ _ _ _ _ (heap_setCell_same w _ _ cur _ _ hh), hnc, hcm, by simpa using hsz, ?_⟩⟩
  rw [Array.toList_setIfInBounds, Array.toList_setIfInBounds, List.take_set, List.take_set, htake, flat_set hk]
theorem jd7 (vh : Value) (h : List ObjV) (w : World) (B : Nat) (hB : B <= w.heap.size) (hh : ObjsV w (· < B) vh h) :
  Calls Tryz.prog 17 #[.agg #[vh]] w fun e w' => e = .returned (.bool (jap h)) /\ Below w.heap.size w w' := by
 have HK := hide (fun (W : World) (hW : Below w.heap.size w W) => hh.keep (up hW hB) (fun _ h => h))
 obtain ⟨Ao, c, rfl, hc, hm⟩ := hh.open'
 obtain ⟨n, hn⟩ := zl h.length
 have HN := hide hn
 have HNW := hide (fun W => jnn Ao n c W)
 have HCO := hide (fun (zs : List Int) (va : Value) (hb : Nat) (W : World) (B : Nat) (hB : B <= W.heap.size) (hx : IntsV W (· < B) va zs) (hbx : Box W hb #[.slice Ao n c] 31) => js2 zs va hb Ao n c W B hB hx hbx)
 rw [hn] at HK hc ⊢
 clear hh hn
 go_enter Tryz.func17, Tryz.ntmps17
 go_upto_region 1 with (fail)
 obtain ⟨w1, hw1⟩ := zr (w.alloc (.cells #[.slice Ao n c] 31))
 obtain ⟨h5, hh5⟩ := zl w.heap.size
 have HX0 := zx1 hw1 hh5
 have HB1 := zb1 hw1
 have w1s := HB1.out.size
 have w1z := zs1 hw1 hh5
 have HK0 := zk1 HX0
 have lHX0 := HX0.out.lt
 have h5g : w.heap.size <= h5 := by omega
 rw [<- hw1, hh5]
 clear hw1 hh5
 have p0 := HK0.out w1 (Below.refl _ _)
 go_wp2_with (go_at_call 25; (with_reducible refine (HNW.out w1).mono ?_); rintro e w2 ⟨hb, rfl, hbl, hbx, hb2⟩; have HQ2 := hide hb2; have HB2 := hide (HB1.out.trans (hb2.mono HB1.out.size)); have p2 := HK0.out w2 hb2; have HBX := hide hbx; clear hb2 hbx)
 have lbx := HBX.out.lt
 go_loopw [11] (fun i wr => ∃ k : Nat, k <= n /\ i = .int .i64 k /\ Below w2.heap.size w2 wr /\ Hid ((h.take k).all (objB n) = true)) (fun i _ => n - (intOf i).toNat)
 case atStart => exact ⟨0, Nat.zero_le _, rfl, Below.refl _ _, hide (by simp)⟩
 case round =>
  obtain ⟨k, hk, rfl, hb', hno⟩ := hrel
  obtain ⟨wo, rfl⟩ := zr wr
  have hszo := hb'.size
  have HBEL := hide (HB2.out.trans (hb'.mono HB2.out.size))
  have HBW := hide hb'
  have HBXO := hide (HBX.out.below hb')
  clear hb' p0 p2
  by_cases hlt : k < n
  case neg =>
   have hv := hide (show jap h = true by unfold jap; rw [HN.out]; exact jbx hno.out HN.out (by omega))
   go_wp2
   go_ret
   exact ⟨ja1 hv.out.symm, HBEL.out⟩
  obtain ⟨o, ho⟩ : ∃ o, h[k]? = some o := ⟨_, List.getElem?_eq_getElem (by have := HN.out; omega)⟩
  obtain ⟨bg, og, Ar, cr, Ai, ci, hAo, hbgb, ⟨e0, e1⟩, hi⟩ := (HK.out wo HBEL.out).get ho
  subst hAo
  have hbs : bg < wo.heap.size := by omega
  have HFA := hide (fun hf : objB n o = false => (show jap h = false by unfold jap; rw [HN.out]; exact jb1 ho hf))
  have HTR := hide (fun hf : objB n o = true => (show (h.take (k + 1)).all (objB n) = true from jay hno.out ho hf))
  have HIR := hide (fun (W : World) (hW : Below wo.heap.size wo W) => (hi.1.keep (up hW (by omega : B <= wo.heap.size)) (fun _ h => h)))
  have hob : objB n o = (decide (o.refs.length <= 8) && (decide (o.ints.length <= 8) && o.refs.all (rfB n))) := rfl
  have HOB := hide hob
  obtain ⟨rl, hrl⟩ := zl o.refs.length
  obtain ⟨il, hil⟩ := zl o.ints.length
  rw [hrl] at HOB e0 HIR
  rw [hil] at HOB e1
  have hmr : rl <= 9223372036854775807 := by obtain ⟨A, c, -, h1, h2⟩ := hi.1.open'; omega
  have hmi : il <= 9223372036854775807 := by obtain ⟨A, c, -, h1, h2⟩ := hi.2.open'; omega
  obtain ⟨RA, hRA⟩ := zl (o.refs.all (rfB n))
  have HC1 := hide (fun (va : Value) (W : World) (B : Nat) (hB : B <= W.heap.size) (hx : IntsV W (· < B) va o.refs) (hbx : Box W hb #[.slice (some ⟨bg, og, none⟩) n c] 31) => HCO.out o.refs va hb W B hB hx hbx)
  rw [hRA] at HOB HC1
  clear hi ho hrl hil hob hRA
  have hki : (0 : Int) <= (k : Int) := by omega
  have hkl : (k : Int) < (n : Int) := by omega
  go_upto_region 5 with (fail)
  obtain ⟨w4, hw4⟩ := zr (wo.alloc (.cells #[.slice Ar rl cr, .slice Ai il ci] 70))
  obtain ⟨h6, hh6⟩ := zl wo.heap.size
  have HFX0 := zx1 hw4 hh6
  have HB4 := zb1 hw4
  have w4s := HB4.out.size
  have w4z := zs1 hw4 hh6
  have HFK0 := zk2 HFX0
  have lHFX0 := HFX0.out.lt
  have h6g : wo.heap.size <= h6 := by omega
  rw [<- hw4, hh6]
  clear hw4 hh6
  obtain ⟨c0, c1⟩ := HFK0.out w4 (Below.refl _ _)
  have HBX4 := hide (HBXO.out.below HB4.out)
  clear e0 e1
  by_cases h8 : 8 < rl
  ·have hv := hide (HFA.out (by rw [HOB.out]; have : decide (rl <= 8) = false := by simpa using h8
                                rw [this]; rfl))
   go_wp2
   go_ret
   exact ⟨ja1 hv.out.symm, HBEL.out.trans (HB4.out.mono HBEL.out.size)⟩
  have d8 : decide (rl <= 8) = true := by simpa using h8
  by_cases h9 : 8 < il
  ·have hv := hide (HFA.out (by rw [HOB.out]; have : decide (il <= 8) = false := by simpa using h9
                                rw [this, d8]; rfl))
   clear d8
   go_wp2
   go_ret
   exact ⟨ja1 hv.out.symm, HBEL.out.trans (HB4.out.mono HBEL.out.size)⟩
  have d9 : decide (il <= 8) = true := by simpa using h9
  rw [d8, d9] at HOB
  clear d8 d9
  have HCC := hide (HC1.out _ w4 B (by omega) (HIR.out w4 HB4.out) HBX4.out)
  cases RA
  ·have hv := hide (HFA.out (by rw [HOB.out]; rfl))
   go_wp2_with (go_at_call 26; (with_reducible refine (HCC.out).mono ?_); rintro e w5 ⟨rfl, hb5⟩; have HB5 := hide (HB4.out.trans (hb5.mono HB4.out.size)); clear hb5)
   go_ret
   exact ⟨ja1 hv.out.symm, HBEL.out.trans (HB5.out.mono HBEL.out.size)⟩
  ·have hv := hide (HTR.out (by rw [HOB.out]; rfl))
   go_wp2_with (go_at_call 26; (with_reducible refine (HCC.out).mono ?_); rintro e w5 ⟨rfl, hb5⟩; have HB5 := hide (HB4.out.trans (hb5.mono HB4.out.size)); clear hb5)
   go_roundw
   case rel => exact ⟨k + 1, by omega, by go_num, HBW.out.trans (HB5.out.mono hszo), hv⟩
   case measure => simp [intOf]; omega
theorem jl3 (z : Int) (w : World) : Calls Tryz.prog 164 #[.int .i64 z] w fun e w' => e = .returned (.bool (jg1 z)) /\ w = w' := by
 unfold jg1
 by_cases h : 0 <= z
 ·have hd : decide (0 <= z) = true := by simpa using h
  rw [hd]
  go_enter Tryz.func164, Tryz.ntmps164
  go_wp2
  go_ret
  exact ⟨by simp, rfl⟩
 ·have hd : decide (0 <= z) = false := by simpa using h
  rw [hd]
  go_enter Tryz.func164, Tryz.ntmps164
  go_wp2
  go_ret
  exact ⟨by simp, rfl⟩
def hasF (m : Nat) (z : Int) : Bool := decide (0 <= z) && decide (z < (m : Int))
theorem jj8 (A : Option Addr) (m c : Nat) (z : Int) (w : World) : Calls Tryz.prog 161 #[.slice A m c, .int .i64 z] w fun e w' => e = .returned (.bool (hasF m z)) /\ w = w' := by
 unfold hasF
 by_cases h : 0 <= z
 ·have hd : decide (0 <= z) = true := by simpa using h
  rw [hd]
  go_enter Tryz.func161, Tryz.ntmps161
  go_wp2
  go_ret
  exact ⟨by simp, rfl⟩
 ·have hd : decide (0 <= z) = false := by simpa using h
  rw [hd]
  go_enter Tryz.func161, Tryz.ntmps161
  go_wp2
  go_ret
  exact ⟨by simp, rfl⟩
theorem ji9 (v : Value) (zs : List Int) (z : Int) (w : World) (B : Nat) (hx : IntsV w (· < B) v zs) (hB : B <= w.heap.size) :
  Calls Tryz.prog 145 #[v, .int .i64 z] w fun e w' => e = .returned (.tuple #[.int .i64 (fldR zs z).1, .int .i64 ((fldR zs z).2 : Nat)]) /\ w = w' := by
 obtain ⟨A, c, rfl, hc, hm⟩ := hx.open'
 obtain ⟨m, hn⟩ := zl zs.length
 have HH := hide (fun W => jj8 A m c z W)
 by_cases h : 0 <= z /\ z < zs.length
 ·have hf : hasF m z = true := by unfold hasF; rw [hn] at h; simp [h.1, h.2]
  have hv := fldR_val h
  obtain ⟨k, rfl⟩ : ∃ k : Nat, z = k := ⟨z.toNat, by omega⟩
  rw [Int.toNat_natCast] at hv
  obtain ⟨y, hy⟩ : ∃ y, zs[k]? = some y := ⟨_, List.getElem?_eq_getElem (by omega)⟩
  have hg : zs.getD k 0 = y := by rw [List.getD_eq_getElem?_getD, hy]; rfl
  rw [hv, hg]
  rw [hn] at hx h
  obtain ⟨b, o, rfl, hbb, c0, -⟩ := hx.get hy
  rw [hf] at HH
  rw [hn]
  have hk1 : (k : Int) < (m : Int) := h.2
  have hk0 : (0 : Int) <= (k : Int) := by omega
  have lb : b < w.heap.size := by omega
  clear hx hy hv hg hn hf h
  go_enter Tryz.func145, Tryz.ntmps145
  go_wp2_with (go_at_call 161; (with_reducible refine (HH.out _).mono ?_); rintro e w' ⟨rfl, rfl⟩)
  go_ret2
  exact ⟨rfl, rfl⟩
 ·have hf : hasF m z = false := by
   unfold hasF
   rw [hn] at h
   by_cases h0 : 0 <= z
   ·have : ¬ z < m := fun h1 => h ⟨h0, h1⟩
    simp [this]
   ·simp [h0]
  have hv : fldR zs z = (0, 15) := by unfold fldR; rw [if_neg h]
  rw [hv, hn]
  rw [hf] at HH
  clear hx hv hn hf h
  go_enter Tryz.func145, Tryz.ntmps145
  go_wp2_with (go_at_call 161; (with_reducible refine (HH.out _).mono ?_); rintro e w' ⟨rfl, rfl⟩)
  go_ret2
  exact ⟨rfl, rfl⟩
theorem jj6 (k : Nat) (h : k < 4611686018427387904) : IntKind.i64.wrap ((k : Int) + 1 - 1) = (k : Int) := by rw [Int.add_sub_cancel]; exact IntWalk.i64_in _ ⟨by omega, by omega⟩
theorem jnm (vh : Value) (h : List ObjV) (k : Nat) (w : World) (B : Nat) (hB : B <= w.heap.size) (hh : ObjsV w (· < B) vh h) (hr : jap h = true) (hk : k < h.length) (hmx : h.length <= 1000000) :
  Calls Tryz.prog 140 #[.agg #[vh], .int .i64 ((k : Int) + 1)] w fun e w' => ∃ Ar cr Ai ci, e = .returned (.tuple #[.agg #[.slice Ar (objO h ((k : Int) + 1)).refs.length cr, .slice Ai (objO h ((k : Int) + 1)).ints.length ci], .int .i64 0]) /\ ObjI w' (· < B) (.slice Ar (objO h ((k : Int) + 1)).refs.length cr) (.slice Ai (objO h ((k : Int) + 1)).ints.length ci) (objO h ((k : Int) + 1)) /\ Below w.heap.size w w' := by
 have HK := hide (fun (W : World) (hW : Below w.heap.size w W) => hh.keep (up hW hB) (fun _ h => h))
 have HRT := hide (fun (W : World) (hW : Below w.heap.size w W) => (show Calls Tryz.prog 17 #[.agg #[vh]] W fun e w' => e = .returned (.bool true) /\ Below W.heap.size W w' by have t := jd7 vh h W B (by have := hW.size; omega) (hh.keep (up hW hB) (fun _ h => h)); rw [hr] at t; exact t))
 obtain ⟨o, ho⟩ : ∃ o, h[k]? = some o := ⟨_, List.getElem?_eq_getElem hk⟩
 have hob : objO h ((k : Int) + 1) = o := by unfold objO; rw [show ((k : Int) + 1 - 1).toNat = k by omega, ho]; rfl
 rw [hob]
 obtain ⟨Ao, c, rfl, hc, hm⟩ := hh.open'
 obtain ⟨n, hn⟩ := zl h.length
 have HTH := hide (fun W => (show Calls Tryz.prog 43 #[.agg #[.slice Ao n c], .int .i64 ((k : Int) + 1)] W fun e w' => e = .returned (.bool true) /\ Below W.heap.size W w' by have t := jeb Ao n c ((k : Int) + 1) W; rw [show thB n ((k : Int) + 1) = true by unfold thB; simp; omega] at t; exact t))
 rw [hn] at HK HRT hc hk hmx
 rw [hn]
 obtain ⟨bg, og, Ar, cr, Ai, ci, hAo, hbgb, ⟨e0, e1⟩, hi⟩ := hh.get ho
 subst hAo
 have hbs : bg < w.heap.size := by omega
 have HI := hide (fun (W : World) (hW : Below w.heap.size w W) => hi.keep (up hW hB) (fun _ h => h))
 have HE := hide (fun (W : World) (hW : Below w.heap.size w W) => And.intro ((hW.cell (p := ⟨bg, og + k * 2, none⟩) hbs).trans e0) ((hW.cell (p := ⟨bg, og + k * 2 + 1, none⟩) hbs).trans e1))
 clear hh hn hob hi ho e0 e1 hr
 generalize o.refs.length = rl, o.ints.length = il at *
 have hp1 := jj6 k (by omega)
 have hkz : (((k : Int) + 1) == 0) = false := by simp; omega
 have hki : (0 : Int) <= (k : Int) := by omega
 have hkl : (k : Int) < (n : Int) := by omega
 go_enter Tryz.func140, Tryz.ntmps140
 go_upto_region 1 with (fail)
 obtain ⟨w1, hw1⟩ := zr ((w.alloc (.cells #[.slice (some ⟨bg, og, none⟩) n c] 31)).alloc (.cells #[.slice none 0 0, .slice none 0 0] 70))
 obtain ⟨h5, hh5⟩ := zl w.heap.size
 have HX0 := zy2 hw1 hh5
 have HX1 := zx2 hw1 hh5
 have HB1 := zb2 hw1
 have w1s := HB1.out.size
 have w1z := zs2 hw1 hh5
 have HK0 := zk1 HX0
 have lHX0 := HX0.out.lt
 have HK1 := zk2 HX1
 have lHX1 := HX1.out.lt
 have h5g : w.heap.size <= h5 := by omega
 rw [<- hw1, hh5]
 clear hw1 hh5
 have p0 := HK0.out w1 (Below.refl _ _)
 go_wp2_with (first
  | (go_at_call 43; (with_reducible refine (HTH.out w2).mono ?_); rintro e w3 ⟨rfl, hb3⟩; have HC3 := hide (HC2.out.trans (hb3.mono HC2.out.size)); have HB3 := hide (HB1.out.trans (HC3.out.mono HB1.out.size)); obtain ⟨q0, q1⟩ := HE.out w3 HB3.out; have p3 := HK0.out w3 HC3.out; obtain ⟨z0, f0⟩ := (HX1.out.below HC3.out).cell 0 (v := .slice none 0 0) rfl; obtain ⟨z1, f1⟩ := (HX1.out.below HC3.out).cell 1 (v := .slice none 0 0) rfl; have l3 := HC3.out.size; clear hb3 p2)
  | (go_at_call 17; (with_reducible refine (HRT.out w1 HB1.out).mono ?_); rintro e w2 ⟨rfl, hb2⟩; have HC2 := hide hb2; have p2 := HK0.out w2 hb2; have l2 := hb2.size; clear hb2 p0))
 have HZ := hide (((HX1.out.below HC3.out).set 0 (.slice Ar rl cr)).set 1 (.slice Ai il ci))
 have y0 := (HZ.out.cell 0 (v := .slice Ar rl cr) rfl).1
 have y1 := (HZ.out.cell 1 (v := .slice Ai il ci) rfl).1
 refine bodyPost_ret (v := .tuple #[.agg #[.slice Ar rl cr, .slice Ai il ci], .int .i64 0]) (by simp [results, Tryz.results140, go_sem, y0, y1]) rfl ⟨Ar, cr, Ai, ci, rfl, HI.out _ ?_, ?_⟩
 all_goals exact (HB3.out.setCell (p := ⟨h5 + 1, 0, none⟩) (by show w.heap.size <= h5 + 1; omega) _).setCell (p := ⟨h5 + 1, 1, none⟩) (by show w.heap.size <= h5 + 1; omega) _
theorem jj7 (vh : Value) (h : List ObjV) (obj : Int) (w : World) (B : Nat) (hB : B <= w.heap.size) (hh : ObjsV w (· < B) vh h) (ha : atN h obj ≠ 0) :
  Calls Tryz.prog 140 #[.agg #[vh], .int .i64 obj] w fun e w' => e = .returned (.tuple #[.agg #[.slice none 0 0, .slice none 0 0], .int .i64 ((atN h obj : Nat) : Int)]) /\ Below w.heap.size w w' := by
 have HRT := hide (fun (W : World) (hW : Below w.heap.size w W) => jd7 vh h W B (by have := hW.size; omega) (hh.keep (up hW hB) (fun _ h => h)))
 obtain ⟨Ao, c, rfl, hc, hm⟩ := hh.open'
 obtain ⟨n, hn⟩ := zl h.length
 have HTH := hide (fun W => jeb Ao n c obj W)
 have hat : atN h obj = if jap h = true then (if obj = 0 then 14 else if 1 <= obj /\ obj <= (n : Int) then 0 else 1) else 1 := by unfold atN; rw [hn]
 rw [hn] at HRT hc
 rw [hn]
 rw [hat] at ha ⊢
 clear hh hn hat
 generalize jap h = rb at *
 cases rb
 ·rw [if_neg (by simp)]
  clear ha
  go_enter Tryz.func140, Tryz.ntmps140
  go_upto_region 1 with (fail)
  obtain ⟨w1, hw1⟩ := zr ((w.alloc (.cells #[.slice Ao n c] 31)).alloc (.cells #[.slice none 0 0, .slice none 0 0] 70))
  obtain ⟨h5, hh5⟩ := zl w.heap.size
  have HX0 := zy2 hw1 hh5
  have HX1 := zx2 hw1 hh5
  have HB1 := zb2 hw1
  have w1s := HB1.out.size
  have w1z := zs2 hw1 hh5
  have HK0 := zk1 HX0
  have lHX0 := HX0.out.lt
  have HK1 := zk2 HX1
  have lHX1 := HX1.out.lt
  have h5g : w.heap.size <= h5 := by omega
  rw [<- hw1, hh5]
  clear hw1 hh5
  have p0 := HK0.out w1 (Below.refl _ _)
  go_wp2_with (go_at_call 17; (with_reducible refine (HRT.out w1 HB1.out).mono ?_); rintro e w2 ⟨rfl, hb2⟩; have HC2 := hide hb2; have HB2 := hide (HB1.out.trans (hb2.mono HB1.out.size)); obtain ⟨z0, f0⟩ := (HX1.out.below HC2.out).cell 0 (v := .slice none 0 0) rfl; obtain ⟨z1, f1⟩ := (HX1.out.below HC2.out).cell 1 (v := .slice none 0 0) rfl; have l2 := hb2.size; clear hb2 p0)
  have HZ := hide (((HX1.out.below HC2.out).set 0 (.slice none 0 0)).set 1 (.slice none 0 0))
  have y0 := (HZ.out.cell 0 (v := .slice none 0 0) rfl).1
  have y1 := (HZ.out.cell 1 (v := .slice none 0 0) rfl).1
  refine bodyPost_ret (v := .tuple #[.agg #[.slice none 0 0, .slice none 0 0], .int .i64 1]) (by simp [results, Tryz.results140, go_sem, y0, y1]) rfl ⟨rfl, ?_⟩
  exact (HB2.out.setCell (p := ⟨h5 + 1, 0, none⟩) (by show w.heap.size <= h5 + 1; omega) _).setCell (p := ⟨h5 + 1, 1, none⟩) (by show w.heap.size <= h5 + 1; omega) _
 rw [if_pos rfl] at ha ⊢
 by_cases h0 : obj = 0
 ·rw [if_pos h0]
  subst h0
  clear ha
  go_enter Tryz.func140, Tryz.ntmps140
  go_upto_region 1 with (fail)
  obtain ⟨w1, hw1⟩ := zr ((w.alloc (.cells #[.slice Ao n c] 31)).alloc (.cells #[.slice none 0 0, .slice none 0 0] 70))
  obtain ⟨h5, hh5⟩ := zl w.heap.size
  have HX0 := zy2 hw1 hh5
  have HX1 := zx2 hw1 hh5
  have HB1 := zb2 hw1
  have w1s := HB1.out.size
  have w1z := zs2 hw1 hh5
  have HK0 := zk1 HX0
  have lHX0 := HX0.out.lt
  have HK1 := zk2 HX1
  have lHX1 := HX1.out.lt
  have h5g : w.heap.size <= h5 := by omega
  rw [<- hw1, hh5]
  clear hw1 hh5
  have p0 := HK0.out w1 (Below.refl _ _)
  go_wp2_with (go_at_call 17; (with_reducible refine (HRT.out w1 HB1.out).mono ?_); rintro e w2 ⟨rfl, hb2⟩; have HC2 := hide hb2; have HB2 := hide (HB1.out.trans (hb2.mono HB1.out.size)); obtain ⟨z0, f0⟩ := (HX1.out.below HC2.out).cell 0 (v := .slice none 0 0) rfl; obtain ⟨z1, f1⟩ := (HX1.out.below HC2.out).cell 1 (v := .slice none 0 0) rfl; have l2 := hb2.size; clear hb2 p0)
  have HZ := hide (((HX1.out.below HC2.out).set 0 (.slice none 0 0)).set 1 (.slice none 0 0))
  have y0 := (HZ.out.cell 0 (v := .slice none 0 0) rfl).1
  have y1 := (HZ.out.cell 1 (v := .slice none 0 0) rfl).1
  refine bodyPost_ret (v := .tuple #[.agg #[.slice none 0 0, .slice none 0 0], .int .i64 14]) (by simp [results, Tryz.results140, go_sem, y0, y1]) rfl ⟨rfl, ?_⟩
  exact (HB2.out.setCell (p := ⟨h5 + 1, 0, none⟩) (by show w.heap.size <= h5 + 1; omega) _).setCell (p := ⟨h5 + 1, 1, none⟩) (by show w.heap.size <= h5 + 1; omega) _
 rw [if_neg h0] at ha ⊢
 have h1 : ¬ (1 <= obj /\ obj <= (n : Int)) := fun e => ha (by rw [if_pos e])
 rw [if_neg h1]
 have ht : thB n obj = false := by
  unfold thB
  rw [Bool.and_eq_false_iff]
  by_cases h2 : 1 <= obj
  ·exact .inr (by simp; omega)
  ·exact .inl (by simpa using h2)
 rw [ht] at HTH
 have hz : (obj == 0) = false := by simpa using h0
 clear ha h0 h1 ht
 go_enter Tryz.func140, Tryz.ntmps140
 go_upto_region 1 with (fail)
 obtain ⟨w1, hw1⟩ := zr ((w.alloc (.cells #[.slice Ao n c] 31)).alloc (.cells #[.slice none 0 0, .slice none 0 0] 70))
 obtain ⟨h5, hh5⟩ := zl w.heap.size
 have HX0 := zy2 hw1 hh5
 have HX1 := zx2 hw1 hh5
 have HB1 := zb2 hw1
 have w1s := HB1.out.size
 have w1z := zs2 hw1 hh5
 have HK0 := zk1 HX0
 have lHX0 := HX0.out.lt
 have HK1 := zk2 HX1
 have lHX1 := HX1.out.lt
 have h5g : w.heap.size <= h5 := by omega
 rw [<- hw1, hh5]
 clear hw1 hh5
 have p0 := HK0.out w1 (Below.refl _ _)
 go_wp2_with (first
  | (go_at_call 43; (with_reducible refine (HTH.out w2).mono ?_); rintro e w3 ⟨rfl, hb3⟩; have HC3 := hide (HC2.out.trans (hb3.mono HC2.out.size)); have HB3 := hide (HB1.out.trans (HC3.out.mono HB1.out.size)); obtain ⟨z0, f0⟩ := (HX1.out.below HC3.out).cell 0 (v := .slice none 0 0) rfl; obtain ⟨z1, f1⟩ := (HX1.out.below HC3.out).cell 1 (v := .slice none 0 0) rfl; have l3 := HC3.out.size; clear hb3 p2)
  | (go_at_call 17; (with_reducible refine (HRT.out w1 HB1.out).mono ?_); rintro e w2 ⟨rfl, hb2⟩; have HC2 := hide hb2; have p2 := HK0.out w2 hb2; have l2 := hb2.size; clear hb2 p0))
 have HZ := hide (((HX1.out.below HC3.out).set 0 (.slice none 0 0)).set 1 (.slice none 0 0))
 have y0 := (HZ.out.cell 0 (v := .slice none 0 0) rfl).1
 have y1 := (HZ.out.cell 1 (v := .slice none 0 0) rfl).1
 refine bodyPost_ret (v := .tuple #[.agg #[.slice none 0 0, .slice none 0 0], .int .i64 1]) (by simp [results, Tryz.results140, go_sem, y0, y1]) rfl ⟨rfl, ?_⟩
 exact (HB3.out.setCell (p := ⟨h5 + 1, 0, none⟩) (by show w.heap.size <= h5 + 1; omega) _).setCell (p := ⟨h5 + 1, 1, none⟩) (by show w.heap.size <= h5 + 1; omega) _
theorem jnk (v : Value) (zs : List Int) (z y : Int) (w : World) (B : Nat) (hx : IntsV w (· < B) v zs) (hz : ¬ (0 <= z /\ z < zs.length)) :
  Calls Tryz.prog 141 #[v, .int .i64 z, .int .i64 y] w fun e w' => e = .returned (.tuple #[.slice none 0 0, .int .i64 15]) /\ w = w' := by
 obtain ⟨A, c, rfl, hc, hm⟩ := hx.open'
 obtain ⟨m, hn⟩ := zl zs.length
 have HH := hide (fun W => jj8 A m c z W)
 have hf : hasF m z = false := by
  unfold hasF
  rw [hn] at hz
  by_cases h0 : 0 <= z
  ·have : ¬ z < m := fun h1 => hz ⟨h0, h1⟩
   simp [this]
  ·simp [h0]
 rw [hf] at HH
 rw [hn]
 clear hx hn hf hz
 go_enter Tryz.func141, Tryz.ntmps141
 go_wp2_with (go_at_call 161; (with_reducible refine (HH.out _).mono ?_); rintro e w' ⟨rfl, rfl⟩)
 go_ret2
 exact ⟨rfl, rfl⟩
theorem jl2 (v : Value) (zs : List Int) (k : Nat) (y : Int) (w : World) (B : Nat) (hB : B <= w.heap.size) (hx : IntsV w (· < B) v zs) (hk : k < zs.length) (hy : i64R y) (hmx : zs.length <= 100000) :
  Calls Tryz.prog 141 #[v, .int .i64 (k : Int), .int .i64 y] w fun e w' => ∃ A c, e = .returned (.tuple #[.slice A zs.length c, .int .i64 0]) /\ IntsV w' (Made w w') (.slice A zs.length c) (zs.set k y) /\ Below w.heap.size w w' := by
 have HCL := hide (jmh v zs w B hB hx hmx)
 have HR := hide (show ∀ z ∈ zs.set k y, i64R z from fun z hz => by
  rcases List.mem_or_eq_of_mem_set hz with h | rfl
  ·obtain ⟨A, c, -, -, -, -, hR⟩ := hx.sl
   exact hR z h
  ·exact hy)
 obtain ⟨A, c, rfl, hc, hm⟩ := hx.open'
 obtain ⟨m, hn⟩ := zl zs.length
 have HN := hide hn
 have HH := hide (fun W => jj8 A m c (k : Int) W)
 have hf : hasF m (k : Int) = true := by unfold hasF; simp; omega
 rw [hf] at HH
 rw [hn] at HCL hk hmx hc ⊢
 have hk1 : (k : Int) < (m : Int) := by omega
 have hk0 : (0 : Int) <= (k : Int) := by omega
 clear hx hn hf hy
 go_enter Tryz.func141, Tryz.ntmps141
 go_wp2_with (first
  | (go_at_call 162; (with_reducible refine (HCL.out).mono ?_); rintro e w2 ⟨v2, rfl, ho2, hb2⟩; have HO2 := hide ho2; have HB2 := hide hb2; obtain ⟨g, cap, rfl, hg, hgl, hgc, hgm, hcell⟩ := ho2.form (by have := HN.out; omega); obtain ⟨u0, u1⟩ := hcell k (by have := HN.out; omega); rw [HN.out] at HO2 hgc ⊢; clear ho2 hb2 hcell)
  | (go_at_call 161; (with_reducible refine (HH.out _).mono ?_); rintro e w' ⟨rfl, rfl⟩))
 go_ret2
 have ho := HO2.out.put (j := k) (z := y)
 have hin := jng (S := Made w (w2.setCell ⟨g, k, none⟩ (.int .i64 y))) ho HR.out (fun b hb => World.ownsRow.lt ho b hb)
 exact ⟨_, cap, rfl, hin, HB2.out.setCell (p := ⟨g, k, none⟩) hg _⟩
end Go.Proofs.YthbnbaikdcfbmaaGreatDoor
