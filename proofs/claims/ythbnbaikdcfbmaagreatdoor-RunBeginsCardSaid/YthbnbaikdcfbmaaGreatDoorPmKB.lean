/- Layer 8, the program: contracts of there, is, base, dersOf, kindOf, isOp. No condition. -/
import Derived.Test.YthbnbaikdcfbmaaGreatDoorPmKA
set_option linter.unusedSimpArgs false
set_option linter.unusedVariables false
set_option maxHeartbeats 2000000
set_option maxRecDepth 100000
namespace Go.Proofs.YthbnbaikdcfbmaaGreatDoor
open Go.RowKit
theorem jfr (z : Int) (Ak Ab As : Option Addr) (lk ck lb cb ls cs : Nat) (fp fr : Int) (w : World) :
  Calls Tryz.prog 79 #[.agg #[.slice Ak lk ck, .slice Ab lb cb, .int .i64 fp, .int .i64 fr, .slice As ls cs], .int .i64 z] w fun e w' => e = .returned (.bool (inB 0 ((lk : Int) - 1) z)) /\ Below w.heap.size w w' := by
 have e : inB 0 ((lk : Int) - 1) z = (decide (0 <= z) && decide (z < (lk : Int))) := by
  unfold inB
  rw [Bool.eq_iff_iff]; simp; omega
 rw [e]
 clear e
 by_cases h : 0 <= z
 ·have hd : decide (0 <= z) = true := by simpa using h
  rw [hd]
  go_enter Tryz.func79, Tryz.ntmps79
  go_wp2
  go_ret
  exact ⟨by simp, ja4 w _⟩
 ·have hd : decide (0 <= z) = false := by simpa using h
  rw [hd]
  go_enter Tryz.func79, Tryz.ntmps79
  go_wp2
  go_ret
  exact ⟨by simp, ja4 w _⟩
def isK (f : FunV) (v k : Int) : Bool := jbt f v && decide (f.kinds[v.toNat]? = some k)
theorem jd1 {f : FunV} {j : Nat} {y k : Int} (h : f.kinds[j]? = some y) : isK f (j : Int) k = (y == k) := by
 have hj := (List.getElem?_eq_some_iff.1 h).1
 have hb : jbt f (j : Int) = true := by unfold jbt; rw [inB_iff]; omega
 unfold isK
 rw [hb, Int.toNat_natCast, h, Bool.eq_iff_iff]
 simp
theorem jfs (vk vb vs : Value) (f : FunV) (v k : Int) (w : World) (B : Nat) (hB : B <= w.heap.size) (hi : FunI w (· < B) vk vb vs f) :
  Calls Tryz.prog 63 #[.agg #[vk, vb, .int .i64 f.params, .int .i64 f.result, vs], .int .i64 v, .int .i64 k] w fun e w' => e = .returned (.bool (isK f v k)) /\ Below w.heap.size w w' := by
 obtain ⟨Ak, ck, rfl, hck, hmk⟩ := hi.1.open'
 obtain ⟨Ab, cb, rfl, hcb, hmb⟩ := hi.2.1.open'
 obtain ⟨As, cs, rfl, hcs, hms⟩ := hi.2.2.1.open'
 have HT := hide (fun (W : World) => jfr v Ak Ab As f.kinds.length ck f.base.length cb f.blocks.length cs f.params f.result W)
 by_cases hin : jbt f v = true
 ·have hnn := jc6 hin
  obtain ⟨j, rfl⟩ : ∃ j : Nat, v = j := ⟨v.toNat, by omega⟩
  obtain ⟨y, hy⟩ : ∃ y, f.kinds[j]? = some y := ⟨_, List.getElem?_eq_getElem (by omega)⟩
  obtain ⟨b, o, rfl, hbb, e0, -⟩ := hi.1.get hy
  have hbs : b < w.heap.size := by omega
  rw [jd1 hy]
  have hin2 : inB 0 ((f.kinds.length : Int) - 1) (j : Int) = true := hin
  rw [hin2] at HT
  have hjl : (j : Int) < (f.kinds.length : Int) := by omega
  clear hin hin2 hy hi hnn
  generalize f.kinds.length = lk, f.base.length = lb, f.blocks.length = ls, f.params = fp, f.result = fr at *
  have hj2 : j < lk := by omega
  go_enter Tryz.func63, Tryz.ntmps63
  go_upto_region 1 with (fail)
  obtain ⟨w1, hw1⟩ := zr (w.alloc (.cells #[.slice (some ⟨b, o, none⟩) lk ck, .slice Ab lb cb, .int .i64 fp, .int .i64 fr, .slice As ls cs] 52))
  obtain ⟨h5, hh5⟩ := zl w.heap.size
  have HX1 := zx1 hw1 hh5
  have HB1 := zb1 hw1
  have HK1 := zk5 HX1
  have HUP := hide (fun (W : World) (hW : Below w1.heap.size w1 W) => HB1.out.trans (hW.mono HB1.out.size))
  have l1 := HX1.out.lt
  have hw1s := HB1.out.size
  rw [<- hw1, hh5]
  clear hw1 hh5
  obtain ⟨c0, c1, c2, c3, c4⟩ := HK1.out w1 (Below.refl _ _)
  have e1 := (HB1.out.cell (p := ⟨b, o + j, none⟩) hbs).trans e0
  have hb1 : b < w1.heap.size := by omega
  go_wp2_with (go_at_call 79; refine (HT.out w1).mono ?_; rintro e w2 ⟨rfl, hb2⟩; obtain ⟨d0, d1, d2, d3, d4⟩ := HK1.out w2 hb2; have e2 := (hb2.cell (p := ⟨b, o + j, none⟩) hb1).trans e1; have hz2 := hb2.size; have HB2 := hide hb2; clear hb2)
  go_ret
  exact ⟨rfl, HUP.out w2 HB2.out⟩
 ·have hin2 : inB 0 ((f.kinds.length : Int) - 1) v = false := Bool.eq_false_iff.2 hin
  rw [hin2] at HT
  have hr : isK f v k = false := by unfold isK; rw [Bool.eq_false_iff.2 hin]; rfl
  rw [hr]
  clear hin hin2 hr hi
  generalize f.kinds.length = lk, f.base.length = lb, f.blocks.length = ls, f.params = fp, f.result = fr at *
  go_enter Tryz.func63, Tryz.ntmps63
  go_upto_region 1 with (fail)
  obtain ⟨w1, hw1⟩ := zr (w.alloc (.cells #[.slice Ak lk ck, .slice Ab lb cb, .int .i64 fp, .int .i64 fr, .slice As ls cs] 52))
  obtain ⟨h5, hh5⟩ := zl w.heap.size
  have HX1 := zx1 hw1 hh5
  have HB1 := zb1 hw1
  have HK1 := zk5 HX1
  have HUP := hide (fun (W : World) (hW : Below w1.heap.size w1 W) => HB1.out.trans (hW.mono HB1.out.size))
  have l1 := HX1.out.lt
  have hw1s := HB1.out.size
  rw [<- hw1, hh5]
  clear hw1 hh5
  obtain ⟨c0, c1, c2, c3, c4⟩ := HK1.out w1 (Below.refl _ _)
  go_wp2_with (go_at_call 79; refine (HT.out w1).mono ?_; rintro e w2 ⟨rfl, hb2⟩; have HB2 := hide hb2; clear hb2)
  go_ret
  exact ⟨rfl, HUP.out w2 HB2.out⟩
def jeg (f : FunV) (v : Int) : Int := if inB 0 ((f.base.length : Int) - 1) v = true then f.base.getD v.toNat (-1) else -1
theorem jkv (vk vb vs : Value) (f : FunV) (v : Int) (w : World) (B : Nat) (hB : B <= w.heap.size) (hi : FunI w (· < B) vk vb vs f) :
  Calls Tryz.prog 124 #[.agg #[vk, vb, .int .i64 f.params, .int .i64 f.result, vs], .int .i64 v] w fun e w' => e = .returned (.int .i64 (jeg f v)) /\ Below w.heap.size w w' := by
 obtain ⟨Ak, ck, rfl, hck, hmk⟩ := hi.1.open'
 obtain ⟨Ab, cb, rfl, hcb, hmb⟩ := hi.2.1.open'
 obtain ⟨As, cs, rfl, hcs, hms⟩ := hi.2.2.1.open'
 by_cases hin : inB 0 ((f.base.length : Int) - 1) v = true
 ·have hnn := inB_iff.1 hin
  obtain ⟨j, rfl⟩ : ∃ j : Nat, v = j := ⟨v.toNat, by omega⟩
  obtain ⟨y, hy⟩ : ∃ y, f.base[j]? = some y := ⟨_, List.getElem?_eq_getElem (by omega)⟩
  obtain ⟨b, o, rfl, hbb, e0, -⟩ := hi.2.1.get hy
  have hbs : b < w.heap.size := by omega
  have hr : jeg f (j : Int) = y := by unfold jeg; rw [if_pos hin, Int.toNat_natCast, List.getD_eq_getElem?_getD, hy]; rfl
  rw [hr]
  have hjl : (j : Int) < (f.base.length : Int) := by omega
  clear hin hr hy hi hnn
  generalize f.kinds.length = lk, f.base.length = lb, f.blocks.length = ls, f.params = fp, f.result = fr at *
  have hj2 : j < lb := by omega
  go_enter Tryz.func124, Tryz.ntmps124
  go_upto_region 1 with (fail)
  obtain ⟨w1, hw1⟩ := zr (w.alloc (.cells #[.slice Ak lk ck, .slice (some ⟨b, o, none⟩) lb cb, .int .i64 fp, .int .i64 fr, .slice As ls cs] 52))
  obtain ⟨h5, hh5⟩ := zl w.heap.size
  have HX1 := zx1 hw1 hh5
  have HB1 := zb1 hw1
  have HK1 := zk5 HX1
  have HUP := hide (fun (W : World) (hW : Below w1.heap.size w1 W) => HB1.out.trans (hW.mono HB1.out.size))
  have l1 := HX1.out.lt
  have hw1s := HB1.out.size
  rw [<- hw1, hh5]
  clear hw1 hh5
  obtain ⟨c0, c1, c2, c3, c4⟩ := HK1.out w1 (Below.refl _ _)
  have e1 := (HB1.out.cell (p := ⟨b, o + j, none⟩) hbs).trans e0
  have hb1 : b < w1.heap.size := by omega
  go_wp2
  go_ret
  exact ⟨rfl, HB1.out⟩
 ·have hr : jeg f v = -1 := by unfold jeg; rw [if_neg hin]
  rw [hr]
  have hnn : v < 0 \/ (f.base.length : Int) <= v := by
   have h := hin
   rw [inB_iff] at h
   omega
  clear hin hr hi
  rcases hnn with hnn | hnn
  ·have hnn2 : ¬ 0 <= v := by omega
   generalize f.kinds.length = lk, f.base.length = lb, f.blocks.length = ls, f.params = fp, f.result = fr at *
   go_enter Tryz.func124, Tryz.ntmps124
   go_upto_region 1 with (fail)
   obtain ⟨w1, hw1⟩ := zr (w.alloc (.cells #[.slice Ak lk ck, .slice Ab lb cb, .int .i64 fp, .int .i64 fr, .slice As ls cs] 52))
   obtain ⟨h5, hh5⟩ := zl w.heap.size
   have HX1 := zx1 hw1 hh5
   have HB1 := zb1 hw1
   have HK1 := zk5 HX1
   have HUP := hide (fun (W : World) (hW : Below w1.heap.size w1 W) => HB1.out.trans (hW.mono HB1.out.size))
   have l1 := HX1.out.lt
   have hw1s := HB1.out.size
   rw [<- hw1, hh5]
   clear hw1 hh5
   obtain ⟨c0, c1, c2, c3, c4⟩ := HK1.out w1 (Below.refl _ _)
   go_wp2
   go_ret
   exact ⟨rfl, HB1.out⟩
  ·by_cases h0 : v < 0
   all_goals
    generalize f.kinds.length = lk, f.base.length = lb, f.blocks.length = ls, f.params = fp, f.result = fr at *
    go_enter Tryz.func124, Tryz.ntmps124
    go_upto_region 1 with (fail)
    obtain ⟨w1, hw1⟩ := zr (w.alloc (.cells #[.slice Ak lk ck, .slice Ab lb cb, .int .i64 fp, .int .i64 fr, .slice As ls cs] 52))
    obtain ⟨h5, hh5⟩ := zl w.heap.size
    have HX1 := zx1 hw1 hh5
    have HB1 := zb1 hw1
    have HK1 := zk5 HX1
    have HUP := hide (fun (W : World) (hW : Below w1.heap.size w1 W) => HB1.out.trans (hW.mono HB1.out.size))
    have l1 := HX1.out.lt
    have hw1s := HB1.out.size
    rw [<- hw1, hh5]
    clear hw1 hh5
    obtain ⟨c0, c1, c2, c3, c4⟩ := HK1.out w1 (Below.refl _ _)
    go_wp2
    go_ret
    exact ⟨rfl, HB1.out⟩
theorem jrh (vk vb vs : Value) (f : FunV) (v : Int) (hlen : f.base.length <= 1000) (w : World) (B : Nat) (hB : B <= w.heap.size) (hi : FunI w (· < B) vk vb vs f) :
  Calls Tryz.prog 139 #[.agg #[vk, vb, .int .i64 f.params, .int .i64 f.result, vs], .int .i64 v] w fun e w' => ∃ r, e = .returned r /\ Ow w' w.heap.size 3 .i64 r (jca f v f.base.length) /\ Below w.heap.size w w' := by
 have HKI := hide (fun (W : World) (hW : Below w.heap.size w W) => hi.2.1.keep (up hW hB) (fun _ h => h))
 obtain ⟨Ak, ck, rfl, hck, hmk⟩ := hi.1.open'
 obtain ⟨Ab, cb, rfl, hcb, hmb⟩ := hi.2.1.open'
 obtain ⟨As, cs, rfl, hcs, hms⟩ := hi.2.2.1.open'
 obtain ⟨i0, hi0, iz0, iz1, iz2⟩ := info_parts jc5
 have HI := hide hi0
 clear hi0
 have HYES := hide (fun k h => @jse f v k h)
 have HNO := hide (fun k h => @dersN_no f v k h)
 have HDL := hide (fun k => jle f v k)
 obtain ⟨zs, hzs⟩ := zl f.base
 rw [hzs] at HKI HYES HNO hlen ⊢
 have HLB := hide (show f.base.length = zs.length by rw [hzs])
 rw [hzs] at hcb
 obtain ⟨nb, hnb⟩ := zl zs.length
 have HNB := hide hnb
 rw [hnb] at HKI hlen hcb ⊢
 obtain ⟨dn, hdn⟩ : ∃ dn : Nat -> List Int, (fun k => jca f v k) = dn := ⟨_, rfl⟩
 have hdk : ∀ k, jca f v k = dn k := fun k => by rw [<- hdn]
 simp only [hdk] at HYES HNO HDL ⊢
 have HD0 := hide (show dn 0 = [] by rw [<- hdk]; rfl)
 clear hdk hdn hi hnb hzs
 generalize f.kinds.length = lk, f.blocks.length = ls, f.params = fp, f.result = fr at *
 go_enter Tryz.func139, Tryz.ntmps139
 go_upto_region 2 with (fail)
 obtain ⟨w1, hw1⟩ := zr (w.alloc (.cells #[.slice Ak lk ck, .slice Ab nb cb, .int .i64 fp, .int .i64 fr, .slice As ls cs] 52))
 obtain ⟨h5, hh5⟩ := zl w.heap.size
 have HX1 := zx1 hw1 hh5
 have HB1 := zb1 hw1
 have HK1 := zk5 HX1
 have HUP := hide (fun (W : World) (hW : Below w1.heap.size w1 W) => HB1.out.trans (hW.mono HB1.out.size))
 have l1 := HX1.out.lt
 have hw1s := HB1.out.size
 rw [<- hw1, hh5]
 clear hw1 hh5
 obtain ⟨c0, c1, c2, c3, c4⟩ := HK1.out w1 (Below.refl _ _)
 go_wp2
 go_loopw [5, 11] (fun l i wr => ∃ (u : Value) (k : Nat), u = l /\ k <= nb /\ i = .int .i64 k /\ Below w1.heap.size w1 wr /\ Hid (Ow wr w1.heap.size 3 .i64 u (dn k))) (fun _ i _ => nb - (intOf i).toNat)
 case atStart => exact ⟨_, 0, rfl, Nat.zero_le _, rfl, Below.refl _ _, hide (by rw [HD0.out]; exact Ow.nil _ _ _ _)⟩
 case round =>
  obtain ⟨u, k, rfl, hk, rfl, hb, how⟩ := hrel
  obtain ⟨wo, rfl⟩ := zr wr
  have hsz := hb.size
  have HBW := hide hb
  have HBEL := hide (HUP.out wo hb)
  clear hb
  by_cases hlt : k < nb
  case neg =>
   obtain rfl : k = nb := by omega
   go_wp2
   go_ret
   exact ⟨_, rfl, how.out.lower HB1.out.size, HBEL.out⟩
  obtain ⟨y, hy⟩ : ∃ y, zs[k]? = some y := ⟨_, List.getElem?_eq_getElem (by have := HNB.out; omega)⟩
  obtain ⟨b, o, hA, hbb, e0, -⟩ := (HKI.out wo HBEL.out).get hy
  subst hA
  have hbs : b < wo.heap.size := by have := HBEL.out.size; omega
  have hro : (dn k).length < 1099511627776 := by have := HDL.out k; omega
  have HRO := hide hro
  have HY := hide hy
  clear hy hro
  by_cases he : y = v
  ·have HST := hide (HYES.out k (by rw [HY.out, he]))
   have hq : (y == v) = true := by simpa using he
   clear he
   go_wp2_with (at_builtin; refine jak wo rfl (.tmp 19) (.tmp 21) _ rfl w1.heap.size 3 .i64 i0 _ 8 Tryz.underlying32 HI.out iz0 iz1 iz2 rfl (by omega) u (dn k) (by rfl) how.out (k : Int) (by rfl) HRO.out hsz ?_; intro v5 w5 ho5 hb5)
   go_roundw
   case rel => exact ⟨v5, k + 1, rfl, by omega, by go_num, HBW.out.trans hb5, hide (by rw [<- HST.out]; exact ho5)⟩
   case measure => simp [intOf]; omega
  ·have HST := hide (HNO.out k (by rw [HY.out]; simpa using he))
   have hq : (y == v) = false := by simpa using he
   clear he
   go_wp2
   go_roundw
   case rel => exact ⟨u, k + 1, rfl, by omega, by go_num, HBW.out, hide (by rw [<- HST.out]; exact how.out)⟩
   case measure => simp [intOf]; omega
def kLet (c : Nat) : Option Int := if c = 105 then some 0 else if c = 114 then some 1 else if c = 100 then some 2 else none
theorem jft (c : Nat) (w : World) :
  Calls Tryz.prog 122 #[.int .u8 (c : Int)] w fun e w' => e = .returned (.tuple #[.int .i64 ((kLet c).getD 0), .bool (kLet c).isSome]) /\ w = w' := by
 by_cases h1 : c = 105
 ·subst h1
  go_enter Tryz.func122, Tryz.ntmps122
  go_wp2
  go_ret2
  exact ⟨rfl, rfl⟩
 by_cases h2 : c = 114
 ·subst h2
  go_enter Tryz.func122, Tryz.ntmps122
  go_wp2
  go_ret2
  exact ⟨rfl, rfl⟩
 by_cases h3 : c = 100
 ·subst h3
  go_enter Tryz.func122, Tryz.ntmps122
  go_wp2
  go_ret2
  exact ⟨rfl, rfl⟩
 have hv : kLet c = none := by unfold kLet; rw [if_neg h1, if_neg h2, if_neg h3]
 rw [hv]
 have b1 : ((c : Int) == 105) = false := by simp; omega
 have b2 : ((c : Int) == 114) = false := by simp; omega
 have b3 : ((c : Int) == 100) = false := by simp; omega
 clear h1 h2 h3 hv
 go_enter Tryz.func122, Tryz.ntmps122
 go_wp2
 go_ret2
 exact ⟨rfl, rfl⟩
theorem jrg (op : Int) (w : World) (h : 1 <= op /\ op <= 23) :
  Calls Tryz.prog 97 #[.int .i64 op] w fun e w' => e = .returned (.bool true) /\ w = w' := by
 obtain ⟨h1, h2⟩ := h
 go_enter Tryz.func97, Tryz.ntmps97
 go_wp2
 go_ret
 exact ⟨rfl, rfl⟩
end Go.Proofs.YthbnbaikdcfbmaaGreatDoor
