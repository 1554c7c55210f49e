/- The contracts of the statements' fixed fact, of great, and of the reference's Same and Words. No condition. -/
import Derived.Test.YthbnbaikdcfbmaaGreatDoorPmNP
import Derived.Shelf.Spec.TrailingZeros
import Derived.StillTailTactics
set_option linter.unusedSimpArgs false
set_option linter.unusedVariables false
set_option maxHeartbeats 1000000
set_option maxRecDepth 100000
namespace Go.Proofs.YthbnbaikdcfbmaaGreatDoor
open Go.RowKit
theorem Sl.lit' (w : World) (e : TypeId) (k : IntKind) (cs : Array Value) (zs : List Int) (h : cs.toList = zs.map (Value.int k)) : Sl (w.alloc (.cells cs e)) (w.alloc (.cells cs e)).heap.size k (some ⟨w.heap.size, 0, none⟩) zs := by
 have := Sl.lit w e k cs zs h
 rwa [show (w.alloc (.cells cs e)).heap.size = w.heap.size + 1 by simp]
theorem each_and (A T : Option Addr) (n c m d : Nat) (xs ys : List Nat) (w : World) (hx : Sl w w.heap.size .u64 A (nI xs)) (hy : Sl w w.heap.size .u64 T (nI ys)) (hn : xs.length = n) (hm : ys.length = m) (hmax : n <= 1000000000000) (hmax2 : m <= 1000000000000) (wx : W64 xs) (wy : W64 ys) :
  Calls Tryz.prog 75 #[.slice A n c, .slice T m d, .int .i64 1] w (MadeB w (neat (mapR (max n m) fun i => xs.getD i 0 &&& ys.getD i 0))) := by
 obtain ⟨i0, hi0, hz0, hz1, hz2⟩ := info_parts jdj
 have HI := hide hi0
 have HX := hide hx
 have HY := hide hy
 have HN := hide hn
 have HM := hide hm
 have WX := hide wx
 have WY := hide wy
 clear hx hy hn hm hi0 wx wy
 obtain ⟨p, hp⟩ := zl (max n m)
 rw [hp]
 have hp2 : p <= 1000000000000 := by omega
 have hcases : (n < m /\ p = m) \/ (m <= n /\ p = n) := by omega
 clear hp
 obtain ⟨F, hF⟩ : ∃ F : Nat -> Nat, F = fun i => xs.getD i 0 &&& ys.getD i 0 := ⟨_, rfl⟩
 rw [<- hF]
 have HF := hide (fun i => congrFun hF i)
 clear hF
 rcases hcases with ⟨hc, he⟩ | ⟨hc, he⟩
 all_goals
  have HE := hide he
  clear he
  go_enter Tryz.func75, Tryz.ntmps75
  go_wp2
  go_loopw [7, 8] (fun v i wr => ∃ k : Nat, k <= p /\ i = .int .i64 (k : Int) /\ Ow wr w.heap.size 113 .u64 v (nI (mapR k F)) /\ Below w.heap.size w wr) (fun _ i _ => p - (intOf i).toNat)
  case atStart => exact ⟨0, Nat.zero_le _, rfl, Ow.nil _ _ _ _, Below.refl _ _⟩
  case round =>
   obtain ⟨k, hk, rfl, ho, hb⟩ := hrel
   have HO := hide ho
   have hlen : (nI (mapR k F)).length <= 1000000000000 := by rw [jab, jc4]; omega
   clear ho
   by_cases hlt : k < p
   ·have hlt3 := HE.out ▸ hlt
    have hxw := WX.out.getD k
    have hyw := WY.out.getD k
    have hop := hide (show bits .and .u64 ((xs.getD k 0 : Nat) : Int) ((ys.getD k 0 : Nat) : Int) = ((F k : Nat) : Int) by rw [u64_and_nat _ _ hxw hyw, HF.out] <;> rfl)
    have hsn := hide (show nI (mapR k F) ++ [((F k : Nat) : Int)] = nI (mapR (k + 1) F) by rw [jr6, jf3]; rfl)
    generalize hgx : xs.getD k 0 = x at *
    generalize hgy : ys.getD k 0 = y at *
    have HGX := hide hgx
    have HGY := hide hgy
    clear hgx hgy
    go_wp2_with (first
     | (go_at_call_of 91 A; refine (at_any A n c xs k wr _ (HX.out.below hb) HN.out (by omega) (by omega)).mono ?_; rw [HGX.out]; rintro e w' ⟨rfl, rfl⟩)
     | (go_at_call_of 91 T; refine (at_any T m d ys k wr _ (HY.out.below hb) HM.out (by omega) (by omega)).mono ?_; rw [HGY.out]; rintro e w' ⟨rfl, rfl⟩)
     | (at_builtin; refine jak _ rfl (.tmp 43) (.tmp 51) _ rfl w.heap.size 113 .u64 i0 _ 8 Tryz.underlying79 HI.out hz0 hz1 hz2 rfl (by omega) _ (nI (mapR k F)) rfl HO.out _ rfl (by omega) hb.size ?_; rw [hop.out, hsn.out]; intro v3 w3 ho3 hb3))
    go_roundw
    case rel => exact ⟨k + 1, by omega, by go_num, ho3, hb.trans hb3⟩
    case measure => simp [intOf]; omega
   ·have hge := HE.out ▸ hlt
    have hkp := hide (show k = p by omega)
    obtain ⟨A2, c2, rfl, hc2, hcm2, hs2⟩ := HO.out.sl
    have hlp := hide (show (mapR k F).length = (nI (mapR k F)).length by rw [jab])
    have HS2 := hide hs2
    have HC2 := hide hcm2
    clear hs2 hcm2
    go_wp2_with (go_at_call 58; refine (jgb A2 _ c2 (mapR k F) wr HS2.out hlp.out hc2 (by have := HC2.out; simp only [maxLen] at this; omega) (by omega)).mono ?_; rintro e w4 ⟨v4, rfl, ho4, hb4⟩; obtain ⟨A4, c4, rfl, h41, h42, hs4⟩ := ho4.sl)
    go_ret
    exact ⟨A4, c4, jd5 (by rw [jab, hkp.out]), by rw [jab, hkp.out] at h41; exact h41, by simp only [maxLen] at h42; omega, by rw [hkp.out] at hs4; exact hs4, hb.trans (hb4.mono hb.size)⟩
theorem jp8 (A T : Option Addr) (n c m d : Nat) (xs ys : List Nat) (w : World) (hx : Sl w w.heap.size .u64 A (nI xs)) (hy : Sl w w.heap.size .u64 T (nI ys)) (hn : xs.length = n) (hm : ys.length = m) (hmax : n <= 1000000000000) (hmax2 : m <= 1000000000000) (wx : W64 xs) (wy : W64 ys) :
  Calls Tryz.prog 52 #[.slice A n c, .slice T m d] w (MadeB w (jce xs ys)) := by
 have h := each_and A T n c m d xs ys w hx hy hn hm hmax hmax2 wx wy
 rw [<- hn, <- hm, show neat (mapR (max xs.length ys.length) fun i => xs.getD i 0 &&& ys.getD i 0) = jce xs ys from rfl, hn, hm] at h
 have H := hide h
 clear hx hy hn hm wx wy h
 go_enter Tryz.func52, Tryz.ntmps52
 go_wp2_with (go_at_call 75; refine H.out.mono ?_; rintro e w' ⟨A1, c1, rfl, h1, h2, hs, hb⟩)
 go_ret
 exact ⟨A1, c1, rfl, h1, h2, hs, hb⟩
theorem jsq (x k : Nat) : (((x : Int) / 2 ^ k % 2) == 1) = x.testBit k := by
 rw [Nat.testBit_eq_decide_div_mod_eq, Bool.eq_iff_iff, beq_iff_eq, decide_eq_true_eq]
 have e : (x : Int) / 2 ^ k % 2 = ((x / 2 ^ k % 2 : Nat) : Int) := by simp
 rw [e]; omega
theorem jjg (x k : Nat) (hx : x < 18446744073709551616) : bits .and .u64 ((x : Int) / 2 ^ k) 1 = (x : Int) / 2 ^ k % 2 := by
 have e : (x : Int) / 2 ^ k = ((x / 2 ^ k : Nat) : Int) := by simp
 have hle : x / 2 ^ k <= x := Nat.div_le_self _ _
 rw [e, show (1 : Int) = ((1 : Nat) : Int) by rfl, u64_and_nat _ 1 (by omega) (by omega), Nat.and_one_is_mod]
 omega
theorem jh8 (A : Option Addr) (n c : Nat) (ws : List Nat) (m : Int) (w : World) (B : Nat) (hr : Sl w B .u64 A (nI ws)) (hn : ws.length = n) (hmax : n <= 1099511627776) (hw : W64 ws) (hm : -9223372036854775808 <= m /\ m <= 9223372036854775807) :
  Calls Tryz.prog 32 #[.slice A n c, .int .i64 m] w fun e w' => e = .returned (.bool (hasB ws m)) /\ w = w' := by
 by_cases h : m < 0 \/ (n : Int) <= m / 64
 ·have hf := hide (jno (ws := ws) (n := m) (by rw [hn]; exact h))
  clear hr hn hw
  by_cases h0 : m < 0
  ·clear h
   go_enter Tryz.func32, Tryz.ntmps32
   go_wp2
   go_ret
   exact ⟨ja1 hf.out.symm, rfl⟩
  ·have h1 : decide (m / 64 < (n : Int)) = false := by simp; omega
   clear h
   go_enter Tryz.func32, Tryz.ntmps32
   go_wp2
   go_ret
   exact ⟨ja1 hf.out.symm, rfl⟩
 ·obtain ⟨k, rfl⟩ : ∃ k : Nat, m = k := ⟨m.toNat, by omega⟩
  have hk : k / 64 < n := by omega
  obtain ⟨b, o, rfl, -, hcell⟩ := hr (by rw [jab]; omega)
  have g1 : w.cell? ⟨b, o + k / 64, none⟩ = some (.int .u64 ((ws.getD (k / 64) 0 : Nat) : Int)) := by rw [hcell (k / 64) (by rw [jab]; omega), jdi]
  have ht := hide (jsq (ws.getD (k / 64) 0) (k % 64))
  have hb := hide (jax ws k)
  have h1 : decide ((k : Int) / 64 < (n : Int)) = true := by simp; omega
  have hand := hide (jjg (ws.getD (k / 64) 0) (k % 64) (hw.getD _))
  clear hr hn hw hcell h
  generalize ws.getD (k / 64) 0 = x at *
  go_enter Tryz.func32, Tryz.ntmps32
  go_wp2
  go_ret
  exact ⟨ja1 (by rw [hb.out, <- ht.out, hand.out]), rfl⟩
theorem jpz (z : Int) (w : World) (h : 0 <= z /\ z < 4096) : Calls Tryz.prog 73 #[.int .i64 z] w fun e w' => e = .returned (.bool true) /\ w = w' := by
 obtain ⟨h1, h2⟩ := h
 go_enter Tryz.func73, Tryz.ntmps73
 go_wp2
 go_ret
 exact ⟨by first | rfl | exact ja1 (by simp [h1, h2]), rfl⟩
theorem small_no (z : Int) (w : World) (h : ¬ (0 <= z /\ z < 4096)) (hz : -9223372036854775808 <= z /\ z <= 9223372036854775807) : Calls Tryz.prog 73 #[.int .i64 z] w fun e w' => e = .returned (.bool false) /\ w = w' := by
 by_cases h0 : z < 0
 ·clear h
  go_enter Tryz.func73, Tryz.ntmps73
  go_wp2
  go_ret
  exact ⟨rfl, rfl⟩
 ·have h1 : 4096 <= z := by omega
  clear h
  go_enter Tryz.func73, Tryz.ntmps73
  go_wp2
  go_ret
  exact ⟨ja1 (by simp; omega), rfl⟩
theorem jso (A : Option Addr) (n c : Nat) (s : List Nat) (m : Nat) (w : World) (hr : Sl w w.heap.size .u64 A (nI s)) (hn : s.length = n) (hmax : n <= 1000000000) (hw : W64 s) (hm : m < 4096) :
  Calls Tryz.prog 74 #[.slice A n c, .int .i64 (m : Int)] w (MadeB w (putW s m)) := by
 obtain ⟨i0, hi0, hz0, hz1, hz2⟩ := info_parts jdj
 have HI := hide hi0
 have HN := hide hn
 have HR := hide hr
 have HW := hide hw
 have ho0 : Ow (w.alloc (.cells #[] 113)) w.heap.size 113 .u64 (.slice (some ⟨w.heap.size, 0, none⟩) 0 0) [] := World.ownsRow_lit w #[] 0 (Nat.le_refl _) (by simp [maxLen]) (by simp)
 have HO := hide ho0
 have hlen0 := hide (show s.length <= 1000000000 by omega)
 clear hn hr hi0 hw ho0
 go_enter Tryz.func74, Tryz.ntmps74
 go_wp2_with (at_builtin; refine jai _ rfl (.tmp 6) (.tmp 7) _ rfl w.heap.size 113 .u64 i0 _ 8 Tryz.underlying79 HI.out hz0 hz1 hz2 rfl (by omega) (.slice (some ⟨w.heap.size, 0, none⟩) 0 0) [] rfl HO.out _ A n c (nI s) rfl (by rw [jab]; exact HN.out) (HR.out.alloc (Nat.le_refl _) _) (by simp; omega) (by simp) ?_; rw [List.nil_append]; intro v1 w1 ho1 hb1)
 have hB1 := ((Below.refl w.heap.size w).alloc (Nat.le_refl _) (.cells #[] 113)).trans hb1
 have HO1 := hide ho1
 clear ho1
 go_loopw [5] (fun v2 wr => ∃ j : Nat, Hid (s.length + j <= max s.length (m / 64 + 1)) /\ Ow wr w.heap.size 113 .u64 v2 (nI (padW s j)) /\ Below w.heap.size w wr) (fun v2 _ => 2000000000 - lenOf v2)
 case atStart => exact ⟨0, hide (by omega), by rw [jkf]; exact HO1.out, hB1⟩
 case round =>
  obtain ⟨j, hj, ho2, hb2⟩ := hrel
  obtain ⟨A2, c2, rfl, hc2, hcm2, hs2⟩ := ho2.sl
  have HO2 := hide ho2
  have hlen := hide (show (nI (padW s j)).length = s.length + j by rw [jab, jcu])
  have hlb : (nI (padW s j)).length <= 1000000064 := by have h1 := hlen.out; have h2 := hj.out; have h3 := hlen0.out; omega
  clear ho2
  by_cases hin : m / 64 < (nI (padW s j)).length
  ·have hjx := hide (show j = m / 64 + 1 - s.length by have h1 := hlen.out; have h2 := hj.out; omega)
   have hset := hide (show (padW s j).set (m / 64) (s.getD (m / 64) 0 ||| 2 ^ (m % 64)) = putW s m by rw [putW, hjx.out])
   have hget := hide (show (nI (padW s j))[m / 64]? = some ((s.getD (m / 64) 0 : Nat) : Int) by
    rw [nI, List.getElem?_map, jdk (by rw [jab] at hin; exact hin), jgs]; rfl)
   have hxw := HW.out.getD (m / 64)
   have hor := hide (jn6 (s.getD (m / 64) 0) (m % 64) hxw (Nat.mod_lt _ (by omega)))
   obtain ⟨g, rfl, hg1, hg2, hcell2, hfrz⟩ := HO2.out.block (by omega)
   have q1 : wr.cell? ⟨g, m / 64, none⟩ = some (.int .u64 ((s.getD (m / 64) 0 : Nat) : Int)) := hcell2 _ _ hget.out
   have q2 : wr.frozen? ⟨g, m / 64, none⟩ = false := hfrz _
   have hlp : (nI (padW s j)).length = (putW s m).length := by have h1 := hlen.out; have h2 := hjx.out; rw [jiq]; omega
   have hfin := hide (show ∀ u : Int, u = ((s.getD (m / 64) 0 ||| 2 ^ (m % 64) : Nat) : Int) -> MadeB w (putW s m) (.returned (.slice (some ⟨g, 0, none⟩) (nI (padW s j)).length c2)) (wr.setCell ⟨g, m / 64, none⟩ (.int .u64 u)) from fun u hu => by
    have hst := HO2.out.stored (m / 64) u
    rw [hu, <- ji5, hset.out, <- hu] at hst
    have h := hst.trimmed
    have hb3 := hb2.setCell (p := ⟨g, m / 64, none⟩) hg1 (.int .u64 u)
    exact ⟨some ⟨g, 0, none⟩, c2, by rw [hlp], by rw [<- hlp]; exact h.2.1, h.2.2.1, h.2.2.2.1, hb3⟩)
   have i1 : (0 : Int) <= (m : Int) / 64 := by omega
   have i2 : (m : Int) / 64 < (((nI (padW s j)).length : Nat) : Int) := by omega
   have i3 : decide ((((nI (padW s j)).length : Nat) : Int) <= (m : Int) / 64) = false := by simp; omega
   clear hcell2 hfrz hget hset hin hjx hlen hs2 hlp
   generalize s.getD (m / 64) 0 = x at *
   generalize (nI (padW s j)).length = len at *
   go_wp2
   go_ret
   exact hfin.out _ (by first | exact hor.out | (rw [jir _ (Nat.mod_lt _ (by omega)), jg9]; exact hor.out))
  ·have hj2 := hide (show s.length + (j + 1) <= max s.length (m / 64 + 1) by have h1 := hlen.out; omega)
   have hno : (((nI (padW s j)).length : Nat) : Int) <= (m : Int) / 64 := by omega
   have hpad := hide (show nI (padW s j) ++ [0] = nI (padW s (j + 1)) by rw [jkg, jf3]; rfl)
   have hlenS := hide (show (nI (padW s (j + 1))).length = (nI (padW s j)).length + 1 by rw [jab, jab, jcu, jcu]; rfl)
   clear hs2
   go_wp2_with (at_builtin; refine jak _ rfl (.tmp 14) (.tmp 15) _ rfl w.heap.size 113 .u64 i0 _ 8 Tryz.underlying79 HI.out hz0 hz1 hz2 rfl (by omega) _ (nI (padW s j)) rfl HO2.out 0 rfl (by omega) hb2.size ?_; rw [hpad.out]; intro v3 w3 ho3 hb3)
   obtain ⟨A3, c3, rfl, -, -, -⟩ := ho3.sl
   go_roundw
   case rel => exact ⟨j + 1, hj2, ho3, hb2.trans hb3⟩
   case measure => simp only [lenOf]; rw [hlenS.out]; omega
theorem jq5 (A T : Option Addr) (n c m d : Nat) (ws : List Nat) (l : List Int) (w : World) (hx : Sl w w.heap.size .u64 A (nI ws)) (hn : ws.length = n) (hc : n <= c) (hc2 : c <= 9223372036854775807) (hmax : n <= 1000000) (hw : W64 ws) (hr : Sl w w.heap.size .i64 T l) (hm : l.length = m) (hmax2 : m <= 1099511627776) (hl : ∀ z ∈ l, -9223372036854775808 <= z /\ z <= 9223372036854775807) :
  Calls Tryz.prog 49 #[.slice A n c, .slice T m d] w (MadeB w (neat (jby ws l))) := by
 have HX := hide hx
 have HN := hide hn
 have HW := hide hw
 have HM := hide hm
 have HR := hide hr
 have HL := hide hl
 have hcw : ws.length <= c := by omega
 clear hn hr hl hx hm hw
 go_enter Tryz.func49, Tryz.ntmps49
 go_wp2
 go_loopw [5, 6] (fun v i wr => ∃ (k : Nat) (A1 : Option Addr) (c1 : Nat), k <= m /\ i = .int .i64 (k : Int) /\ v = .slice A1 (jby ws (l.take k)).length c1 /\ (jby ws (l.take k)).length <= c1 /\ c1 <= 9223372036854775807 /\ Sl wr wr.heap.size .u64 A1 (nI (jby ws (l.take k))) /\ Below w.heap.size w wr) (fun _ i _ => m - (intOf i).toNat)
 case atStart => exact ⟨0, A, c, Nat.zero_le _, rfl, by rw [<- HN.out]; rfl, hcw, hc2, HX.out, Below.refl _ _⟩
 case round =>
  obtain ⟨k, A1, c1, hk, rfl, rfl, h1, h2, hs, hb⟩ := hrel
  have HS := hide hs
  clear hs
  have hsl : (jby ws (l.take k)).length <= 2000000 := by have := jdv ws (l.take k); have := HN.out; omega
  have hsw := hide (jgp HW.out (l.take k))
  by_cases hlt : k < m
  ·have hkl : k < l.length := by have := HM.out; omega
   obtain ⟨b, o, rfl, hbB, hcell⟩ := HR.out (by omega)
   obtain ⟨z, hz⟩ : ∃ z, l[k]? = some z := ⟨_, List.getElem?_eq_getElem hkl⟩
   have g1 : wr.cell? ⟨b, o + k, none⟩ = some (.int .i64 z) := by rw [hb.cell hbB, hcell k hkl]; simp [List.getD, hz]
   have hzb := HL.out z (List.mem_of_getElem? hz)
   have hsn := hide (show jby ws (l.take (k + 1)) = putI (jby ws (l.take k)) z by rw [List.take_add_one, hz, Option.toList_some, jci])
   clear hcell hkl hz
   generalize jby ws (l.take k) = s at *
   by_cases hv : 0 <= z /\ z < 4096
   ·obtain ⟨q, rfl⟩ : ∃ q : Nat, z = q := ⟨z.toNat, by omega⟩
    have hq : q < 4096 := by omega
    have hput := hide (show putI s (q : Int) = putW s q by rw [putI, if_pos hv, Int.toNat_natCast])
    have HV := hide hv
    clear hv hzb
    go_wp2_with (first
     | (go_at_call 73; refine (jpz (q : Int) _ HV.out).mono ?_; rintro e w' ⟨rfl, rfl⟩)
     | (go_at_call 74; refine (jso A1 _ c1 s q wr HS.out rfl (by omega) hsw.out hq).mono ?_; rintro e w2 ⟨A2, c2, rfl, h3, h4, hs2, hb2⟩))
    go_roundw
    case rel => exact ⟨k + 1, A2, c2, by omega, by go_num, by rw [hsn.out, hput.out], by rw [hsn.out, hput.out]; exact h3, h4, by rw [hsn.out, hput.out]; exact hs2, hb.trans (hb2.mono hb.size)⟩
    case measure => simp [intOf]; omega
   ·have hput := hide (show putI s z = s by rw [putI, if_neg hv])
    have HV := hide hv
    clear hv
    go_wp2_with (go_at_call 73; refine (small_no z _ HV.out hzb).mono ?_; rintro e w' ⟨rfl, rfl⟩)
    go_roundw
    case rel => exact ⟨k + 1, A1, c1, by omega, by go_num, by rw [hsn.out, hput.out], by rw [hsn.out, hput.out]; exact h1, h2, by rw [hsn.out, hput.out]; exact HS.out, hb⟩
    case measure => simp [intOf]; omega
  ·have hfull := hide (show neat (jby ws (l.take k)) = neat (jby ws l) by rw [List.take_of_length_le (by have := HM.out; omega)])
   go_wp2_with (go_at_call 58; refine (jgb A1 _ c1 _ wr HS.out rfl h1 h2 (by omega)).mono ?_; rw [hfull.out]; rintro e w2 ⟨v2, rfl, ho2, hb2⟩)
   obtain ⟨A2, c2, rfl, h3, h4, hs2⟩ := ho2.sl
   go_ret
   exact ⟨A2, c2, jd5 (jab _), by rw [jab] at h3; exact h3, by simp only [maxLen] at h4; omega, hs2, hb.trans (hb2.mono hb.size)⟩
theorem sub_bit {x k : Nat} (hx : x < 18446744073709551616) (hk : k < 64) (h : x.testBit k = true) : andN x (2 ^ k) = x - 2 ^ k := by
 have hp : 0 < 2 ^ k := Nat.two_pow_pos _
 rw [Nat.testBit_eq_decide_div_mod_eq, decide_eq_true_eq] at h
 have e1 : x = 2 ^ k * (x / 2 ^ k) + x % 2 ^ k := (Nat.div_add_mod x _).symm
 obtain ⟨m, hm⟩ : ∃ m, x / 2 ^ k = 2 * m + 1 := ⟨x / 2 ^ k / 2, by omega⟩
 have hr : x % 2 ^ k < 2 ^ k := Nat.mod_lt _ hp
 have e2 : x - 2 ^ k = 2 ^ k * (2 * m) + x % 2 ^ k := by
  rw [hm, Nat.mul_add, Nat.mul_one] at e1; omega
 have hxb : ∀ j, x.testBit j = if j < k then (x % 2 ^ k).testBit j else (2 * m + 1).testBit (j - k) := fun j => by
  conv => lhs; rw [e1, hm]
  exact Nat.testBit_two_pow_mul_add _ hr _
 apply Nat.eq_of_testBit_eq
 intro j
 rw [jjh hx (jez hk), e2, Nat.testBit_two_pow_mul_add _ hr, hxb, Nat.testBit_two_pow]
 by_cases h1 : j < k
 ·have : ¬ k = j := by omega
  simp [h1, this]
 ·by_cases h2 : j = k
  ·subst h2; simp
  ·have h3 : ¬ k = j := fun e => h2 e.symm
   rw [if_neg h1, if_neg h1, show j - k = (j - k - 1) + 1 by omega, Nat.testBit_succ, Nat.testBit_succ, show (2 * m + 1) / 2 = 2 * m / 2 by omega]
   simp [h3]
theorem jsf {x k : Nat} (hx : x < 18446744073709551616) (hk : k < 64) (h : x.testBit k = false) : andN x (2 ^ k) = x := by
 apply Nat.eq_of_testBit_eq
 intro j
 rw [jjh hx (jez hk), Nat.testBit_two_pow]
 by_cases h2 : k = j
 ·subst h2; simp [h]
 ·simp [h2]
theorem remI_yes {s : List Nat} {q : Nat} (hs : W64 s) (h : hasB s (q : Int) = true) : remI s (q : Int) = s.set (q / 64) (s.getD (q / 64) 0 - 2 ^ (q % 64)) /\ q / 64 < s.length /\ 2 ^ (q % 64) <= s.getD (q / 64) 0 := by
 have hb := h
 rw [jax] at hb
 have hq : q / 64 < s.length := by
  rcases Nat.lt_or_ge (q / 64) s.length with h1 | h1
  ·exact h1
  ·rw [jbc h1] at hb; simp at hb
 refine ⟨?_, hq, Nat.ge_two_pow_of_testBit hb⟩
 rw [remI, if_pos (by omega), Int.toNat_natCast, sub_bit (hs.getD _) (Nat.mod_lt _ (by omega)) hb]
theorem remI_no {s : List Nat} {z : Int} (hs : W64 s) (h : hasB s z = false) : remI s z = s := by
 unfold remI
 split
 ·rename_i hh
  have hb : (s.getD (z.toNat / 64) 0).testBit (z.toNat % 64) = false := by
   unfold hasB at h
   simpa [hh.1] using h
  rw [jsf (hs.getD _) (Nat.mod_lt _ (by omega)) hb]
  exact jec (by simp) fun i hi => by
   rw [List.length_set] at hi
   rw [jex _ _ _ _ (by omega)]
   split
   ·rename_i h2; rw [h2]
   ·rfl
 ·rfl
theorem jpx {x p : Nat} (h : p <= x) (hx : x < 18446744073709551616) : IntKind.u64.wrap ((x : Int) - (p : Int)) = ((x - p : Nat) : Int) := by
 rw [IntKind.wrap_u64]; omega
theorem jjy (A T : Option Addr) (n c m d : Nat) (ws : List Nat) (l : List Int) (w : World) (hx : Sl w w.heap.size .u64 A (nI ws)) (hn : ws.length = n) (hmax : n <= 1000000) (hw : W64 ws) (hr : Sl w w.heap.size .i64 T l) (hm : l.length = m) (hmax2 : m <= 1099511627776) (hl : ∀ z ∈ l, -9223372036854775808 <= z /\ z <= 9223372036854775807) :
  Calls Tryz.prog 59 #[.slice A n c, .slice T m d] w (MadeB w (ja3 ws l)) := by
 obtain ⟨i0, hi0, hz0, hz1, hz2⟩ := info_parts jdj
 have HI := hide hi0
 have HX := hide hx
 have HN := hide hn
 have HW := hide hw
 have HM := hide hm
 have HR := hide hr
 have HL := hide hl
 have ho0 : Ow (w.alloc (.cells #[] 113)) w.heap.size 113 .u64 (.slice (some ⟨w.heap.size, 0, none⟩) 0 0) [] := World.ownsRow_lit w #[] 0 (Nat.le_refl _) (by simp [maxLen]) (by simp)
 have HO := hide ho0
 clear hn hr hl hx hm hw ho0 hi0
 go_enter Tryz.func59, Tryz.ntmps59
 go_wp2_with (at_builtin; refine jai _ rfl (.tmp 7) (.tmp 8) _ rfl w.heap.size 113 .u64 i0 _ 8 Tryz.underlying79 HI.out hz0 hz1 hz2 rfl (by omega) (.slice (some ⟨w.heap.size, 0, none⟩) 0 0) [] rfl HO.out _ A n c (nI ws) rfl (by rw [jab]; exact HN.out) (HX.out.alloc (Nat.le_refl _) _) (by simp; omega) (by simp) ?_; rw [List.nil_append]; intro v1 w1 ho1 hb1)
 have hB1 := ((Below.refl w.heap.size w).alloc (Nat.le_refl _) (.cells #[] 113)).trans hb1
 obtain ⟨A1, c1, hv1, -, -, -⟩ := ho1.sl
 rw [jab, HN.out] at hv1
 subst hv1
 have HO1 := hide ho1
 clear ho1
 go_loopw [6] (fun i wr => ∃ k : Nat, k <= m /\ i = .int .i64 (k : Int) /\ Ow wr w.heap.size 113 .u64 (.slice A1 n c1) (nI (jck ws (l.take k))) /\ Below w.heap.size w wr) (fun i _ => m - (intOf i).toNat)
 case atStart => exact ⟨0, Nat.zero_le _, rfl, HO1.out, hB1⟩
 case round =>
  clear hb1 hB1 HO1
  obtain ⟨k, hk, rfl, ho, hb⟩ := hrel
  have HO := hide ho
  clear ho
  have hsl := hide (show (jck ws (l.take k)).length = n by rw [jgo, HN.out])
  have hsw := hide (show W64 (jck ws (l.take k)) from jey HW.out _)
  by_cases hlt : k < m
  ·have hkl : k < l.length := by have := HM.out; omega
   obtain ⟨b, o, rfl, hbB, hcell⟩ := HR.out (by omega)
   obtain ⟨z, hz⟩ : ∃ z, l[k]? = some z := ⟨_, List.getElem?_eq_getElem hkl⟩
   have g1 : wr.cell? ⟨b, o + k, none⟩ = some (.int .i64 z) := by rw [hb.cell hbB, hcell k hkl]; simp [List.getD, hz]
   have hzb := HL.out z (List.mem_of_getElem? hz)
   have hsn := hide (show jck ws (l.take (k + 1)) = remI (jck ws (l.take k)) z by rw [List.take_add_one, hz, Option.toList_some, jd6])
   clear hcell hkl hz
   generalize jck ws (l.take k) = s at *
   by_cases hv : hasB s z = true
   ·obtain ⟨q, rfl⟩ : ∃ q : Nat, z = q := ⟨z.toNat, by
     unfold hasB at hv; simp at hv; omega⟩
    obtain ⟨hrem, hql, hge⟩ := remI_yes hsw.out hv
    have HREM := hide hrem
    have HV := hide hv
    have hyes : q / 64 < n := by have := hsl.out; omega
    have hget := hide (show (nI s)[q / 64]? = some ((s.getD (q / 64) 0 : Nat) : Int) by rw [nI, List.getElem?_map, jdk hql]; rfl)
    have hxw := hsw.out.getD (q / 64)
    have hpw := hide (jir (q % 64) (Nat.mod_lt _ (by omega)))
    have hpl := jez (Nat.mod_lt q (show 64 > 0 by omega))
    obtain ⟨g, rfl, hg1, hg2, hcell2, hfrz⟩ := HO.out.block (by rw [jab]; omega)
    have q1 : wr.cell? ⟨g, q / 64, none⟩ = some (.int .u64 ((s.getD (q / 64) 0 : Nat) : Int)) := hcell2 _ _ hget.out
    have q2 : wr.frozen? ⟨g, q / 64, none⟩ = false := hfrz _
    have hfin := hide (show ∀ u : Int, u = ((s.getD (q / 64) 0 - 2 ^ (q % 64) : Nat) : Int) -> Ow (wr.setCell ⟨g, q / 64, none⟩ (.int .u64 u)) w.heap.size 113 .u64 (.slice (some ⟨g, 0, none⟩) n c1) (nI (remI s (q : Int))) /\ Below w.heap.size w (wr.setCell ⟨g, q / 64, none⟩ (.int .u64 u)) from fun u hu => by
     have hst := HO.out.stored (q / 64) u
     rw [hu, <- ji5, <- HREM.out, <- hu] at hst
     exact ⟨hst, hb.setCell (p := ⟨g, q / 64, none⟩) hg1 (.int .u64 u)⟩)
    have hsub := hide (hfin.out _ (show IntKind.u64.wrap (((s.getD (q / 64) 0 : Nat) : Int) - IntKind.u64.wrap ((2 : Int) ^ (q % 64))) = ((s.getD (q / 64) 0 - 2 ^ (q % 64) : Nat) : Int) by
     rw [hpw.out]; exact jpx hge hxw))
    have i1 : (0 : Int) <= (q : Int) / 64 := by omega
    have i2 : (q : Int) / 64 < (n : Int) := by omega
    clear hcell2 hfrz hget hql hv hge hrem
    generalize s.getD (q / 64) 0 = x at *
    go_wp2_with (go_at_call 32; refine (jh8 _ n c1 s (q : Int) wr _ HO.out.trimmed.2.2.2.1 HO.out.trimmed.1 (by omega) hsw.out hzb).mono ?_; rw [HV.out]; rintro e w' ⟨rfl, rfl⟩)
    have e1 : (q : Int).tdiv 64 = (q : Int) / 64 := Int.tdiv_eq_ediv_of_nonneg (by omega)
    have e2 : ((q : Int) / 64).toNat = q / 64 := by omega
    have e3 : IntKind.i64.wrap ((q : Int) / 64) = (q : Int) / 64 := IntWalk.i64_in _ ⟨by omega, by omega⟩
    have e4 : (q : Int).tmod 64 = (q : Int) % 64 := Int.tmod_eq_emod_of_nonneg (by omega)
    have e5 : IntKind.u64.wrap ((q : Int) % 64) = (q : Int) % 64 := by rw [IntKind.wrap_u64]; omega
    have e6 : ((q : Int) % 64).toNat = q % 64 := by omega
    have e7 : (0 : Int) <= (q : Int) % 64 := by omega
    have e8 : (q : Int) % 64 <= 64 := by omega
    go_still_tail 23, (by kernel_rfl)
    change wpList _ _ _ _ _ wr.drew
    clear e1 e2 e3 e4 e5 e6 e7 e8
    go_wp2
    go_roundw
    case rel => exact ⟨k + 1, by omega, by go_num, by rw [hsn.out]; exact hsub.out.1, hsub.out.2.drew⟩
    case measure => simp [intOf]; omega
   ·have hv' : hasB s z = false := by simpa using hv
    have hrem := hide (remI_no hsw.out hv')
    have HV := hide hv'
    clear hv hv'
    go_wp2_with (go_at_call 32; refine (jh8 _ n c1 s z wr _ HO.out.trimmed.2.2.2.1 HO.out.trimmed.1 (by omega) hsw.out hzb).mono ?_; rw [HV.out]; rintro e w' ⟨rfl, rfl⟩)
    go_roundw
    case rel => exact ⟨k + 1, by omega, by go_num, by rw [hsn.out, hrem.out]; exact HO.out, hb⟩
    case measure => simp [intOf]; omega
  ·have hfull := hide (show neat (jck ws (l.take k)) = ja3 ws l by rw [List.take_of_length_le (by have := HM.out; omega)]; rfl)
   have ht := hide HO.out.trimmed
   go_wp2_with (go_at_call 58; refine (jgb A1 n c1 _ wr ht.out.2.2.2.1 ht.out.1 ht.out.2.1 ht.out.2.2.1 (by omega)).mono ?_; rw [hfull.out]; rintro e w2 ⟨v2, rfl, ho2, hb2⟩)
   obtain ⟨A2, c2, rfl, h3, h4, hs2⟩ := ho2.sl
   go_ret
   exact ⟨A2, c2, jd5 (jab _), by rw [jab] at h3; exact h3, by simp only [maxLen] at h4; omega, hs2, hb.trans (hb2.mono hb.size)⟩
end Go.Proofs.YthbnbaikdcfbmaaGreatDoor
