/- The contracts of the statements' fixed fact, of great, and of the reference's Same and Words. No condition. -/
import Derived.Test.YtehboglielnjbaaGreatDoorPlNP
import Derived.Lib.TrailingZeros
import Derived.Shelf.Spec.TrailingZeros
import Derived.StillTailTactics
set_option linter.unusedSimpArgs false
set_option linter.unusedVariables false
namespace Go.Proofs.YtehboglielnjbaaGreatDoor
open Go.RowKit

/-- A slice of integers that is written out, as the call meets it. -/
theorem Sl.lit' (w : World) (e : TypeId) (k : IntKind) (cs : Array Value) (zs : List Int) (h : cs.toList = zs.map (Value.int k)) : Sl (w.alloc (.cells cs e)) (w.alloc (.cells cs e)).heap.size k (some ⟨w.heap.size, 0, none⟩) zs := by
  have := Sl.lit w e k cs zs h
  rwa [show (w.alloc (.cells cs e)).heap.size = w.heap.size + 1 by simp]
end Go.Proofs.YtehboglielnjbaaGreatDoor
namespace Go.Proofs.YtehboglielnjbaaGreatDoor
open Go.RowKit

set_option maxRecDepth 100000 in
set_option maxHeartbeats 1000000 in
theorem each_less (A T : Option Addr) (n c m d : Nat) (xs ys : List Nat) (w : World) (hx : Sl w w.heap.size .u64 A (nI xs)) (hy : Sl w w.heap.size .u64 T (nI ys)) (hn : xs.length = n) (hm : ys.length = m) (hmax : n ≤ 1000000000000) (hmax2 : m ≤ 1000000000000) (wx : W64 xs) (wy : W64 ys) :
    Calls Tryz.prog 63 #[.slice A n c, .slice T m d, .int .i64 2] w (MadeB w (neat (mapR (max n m) fun i => andN (xs.getD i 0) (ys.getD i 0)))) := by
  obtain ⟨i0, hi0, hz0, hz1, hz2⟩ := info_parts info_u64
  have HI := hide hi0
  have HX := hide hx
  have HY := hide hy
  have HN := hide hn
  have HM := hide hm
  have WX := hide wx
  have WY := hide wy
  clear hx hy hn hm hi0 wx wy
  obtain ⟨p, hp⟩ : ∃ p, max n m = p := ⟨_, rfl⟩
  rw [hp]
  have hp2 : p ≤ 1000000000000 := by omega
  have hcases : (n < m ∧ p = m) ∨ (m ≤ n ∧ p = n) := by omega
  clear hp
  obtain ⟨F, hF⟩ : ∃ F : Nat → Nat, F = fun i => andN (xs.getD i 0) (ys.getD i 0) := ⟨_, rfl⟩
  rw [← hF]
  have HF := hide (fun i => congrFun hF i)
  clear hF
  rcases hcases with ⟨hc, he⟩ | ⟨hc, he⟩
  all_goals
    have HE := hide he
    clear he
    go_enter Tryz.func63, Tryz.ntmps63
    go_wp2
    go_loopw [7, 8] (fun v i wr => ∃ k : Nat, k ≤ p ∧ i = .int .i64 (k : Int) ∧ Ow wr w.heap.size 71 .u64 v (nI (mapR k F)) ∧ Below w.heap.size w wr) (fun _ i _ => p - (intOf i).toNat)
    case atStart => exact ⟨0, Nat.zero_le _, rfl, Ow.nil _ _ _ _, Below.refl _ _⟩
    case round =>
      obtain ⟨k, hk, rfl, ho, hb⟩ := hrel
      have HO := hide ho
      have hlen : (nI (mapR k F)).length ≤ 1000000000000 := by rw [nI_len, mapR_len]; omega
      clear ho
      by_cases hlt : k < p
      · have hlt3 := HE.out ▸ hlt
        have hxw := WX.out.getD k
        have hyw := WY.out.getD k
        have hop := hide (show bits .andNot .u64 ((xs.getD k 0 : Nat) : Int) ((ys.getD k 0 : Nat) : Int) = ((F k : Nat) : Int) by rw [u64_andNot_nat _ _ hxw hyw, HF.out] <;> rfl)
        have hsn := hide (show nI (mapR k F) ++ [((F k : Nat) : Int)] = nI (mapR (k + 1) F) by rw [mapR_snoc, nI_append]; rfl)
        generalize hgx : xs.getD k 0 = x at *
        generalize hgy : ys.getD k 0 = y at *
        have HGX := hide hgx
        have HGY := hide hgy
        clear hgx hgy
        go_wp2_with (first
          | (go_at_call_of 94 A; refine (at_any A n c xs k wr _ (HX.out.below hb) HN.out (by omega) (by omega)).mono ?_; rw [HGX.out]; rintro e w' ⟨rfl, rfl⟩)
          | (go_at_call_of 94 T; refine (at_any T m d ys k wr _ (HY.out.below hb) HM.out (by omega) (by omega)).mono ?_; rw [HGY.out]; rintro e w' ⟨rfl, rfl⟩)
          | (at_builtin; refine wpList_append_one _ rfl (.tmp 19) (.tmp 27) _ rfl w.heap.size 71 .u64 i0 _ 8 Tryz.underlying35 HI.out hz0 hz1 hz2 rfl (by omega) _ (nI (mapR k F)) rfl HO.out _ rfl (by omega) hb.size ?_; rw [hop.out, hsn.out]; intro v3 w3 ho3 hb3))
        go_roundw
        case rel => exact ⟨k + 1, by omega, by go_num, ho3, hb.trans hb3⟩
        case measure => simp [intOf]; omega
      · have hge := HE.out ▸ hlt
        have hkp := hide (show k = p by omega)
        obtain ⟨A2, c2, rfl, hc2, hcm2, hs2⟩ := HO.out.sl
        have hlp := hide (show (mapR k F).length = (nI (mapR k F)).length by rw [nI_len])
        have HS2 := hide hs2
        have HC2 := hide hcm2
        clear hs2 hcm2
        go_wp2_with (go_at_call 66; refine (neat_any A2 _ c2 (mapR k F) wr HS2.out hlp.out hc2 (by have := HC2.out; simp only [maxLen] at this; omega) (by omega)).mono ?_; rintro e w4 ⟨v4, rfl, ho4, hb4⟩; obtain ⟨A4, c4, rfl, h41, h42, hs4⟩ := ho4.sl)
        go_ret
        exact ⟨A4, c4, ret_slice (by rw [nI_len, hkp.out]), by rw [nI_len, hkp.out] at h41; exact h41, by simp only [maxLen] at h42; omega, by rw [hkp.out] at hs4; exact hs4, hb.trans (hb4.mono hb.size)⟩

set_option maxRecDepth 100000 in
theorem rless_any (A T : Option Addr) (n c m d : Nat) (xs ys : List Nat) (w : World) (hx : Sl w w.heap.size .u64 A (nI xs)) (hy : Sl w w.heap.size .u64 T (nI ys)) (hn : xs.length = n) (hm : ys.length = m) (hmax : n ≤ 1000000000000) (hmax2 : m ≤ 1000000000000) (wx : W64 xs) (wy : W64 ys) :
    Calls Tryz.prog 33 #[.slice A n c, .slice T m d] w (MadeB w (lessL xs ys)) := by
  have h := each_less A T n c m d xs ys w hx hy hn hm hmax hmax2 wx wy
  rw [← hn, ← hm, show neat (mapR (max xs.length ys.length) fun i => andN (xs.getD i 0) (ys.getD i 0)) = lessL xs ys from rfl, hn, hm] at h
  have H := hide h
  clear hx hy hn hm wx wy h
  go_enter Tryz.func33, Tryz.ntmps33
  go_wp2_with (go_at_call 63; refine H.out.mono ?_; rintro e w' ⟨A1, c1, rfl, h1, h2, hs, hb⟩)
  go_ret
  exact ⟨A1, c1, rfl, h1, h2, hs, hb⟩
set_option maxRecDepth 100000 in
theorem rholds_any (A T : Option Addr) (n c m d : Nat) (xs ys : List Nat) (w : World) (hx : Sl w w.heap.size .u64 A (nI xs)) (hy : Sl w w.heap.size .u64 T (nI ys)) (hn : xs.length = n) (hm : ys.length = m) (hmax : n ≤ 1000000000000) (hmax2 : m ≤ 1000000000000) (wx : W64 xs) (wy : W64 ys) :
    Calls Tryz.prog 11 #[.slice A n c, .slice T m d] w fun e w' => e = .returned (.bool (decide ((lessL ys xs).length = 0))) ∧ Below w.heap.size w w' := by
  have H := hide (rless_any T A m d n c ys xs w hy hx hm hn hmax2 hmax wy wx)
  clear hx hy hn hm wx wy
  generalize lessL ys xs = r at *
  go_enter Tryz.func11, Tryz.ntmps11
  go_wp2_with (go_at_call 33; refine H.out.mono ?_; rintro e w1 ⟨A1, c1, rfl, -, -, -, hb1⟩)
  go_ret
  exact ⟨ret_bool (by rw [Bool.eq_iff_iff]; simp), hb1⟩

end Go.Proofs.YtehboglielnjbaaGreatDoor
namespace Go.Proofs.YtehboglielnjbaaGreatDoor

/-- The numbers below K that are in a set. -/
def listN (s : List Nat) : Nat → List Int
  | 0 => []
  | K + 1 => listN s K ++ (if hasB s (K : Int) then [(K : Int)] else [])
theorem listN_len (s : List Nat) : ∀ K, (listN s K).length ≤ K
  | 0 => Nat.le_refl _
  | K + 1 => by
    have := listN_len s K
    rw [listN, List.length_append]
    split <;> simp <;> omega
/-- A set's numbers. -/
def listL (s : List Nat) : List Int := listN s (64 * s.length)
end Go.Proofs.YtehboglielnjbaaGreatDoor
namespace Go.Proofs.YtehboglielnjbaaGreatDoor
open Go.RowKit

/-- The library's table, as its initialiser lays it. -/
def TabW (w : World) : Prop := 0 < w.heap.size ∧ ∀ j, j < 64 → w.cell? ⟨0, j, none⟩ = some (.int .u8 ((Lib.deBruijn64tab.getD j 0 : Nat) : Int))
theorem TabW.below {w w' : World} {B : Nat} (h : TabW w) (hb : Below B w w') (hB : 0 < B) : TabW w' := ⟨by have := h.1; have := hb.size; omega, fun j hj => (hb.cell (p := ⟨0, j, none⟩) hB).trans (h.2 j hj)⟩

theorem info_int : (Tryz.prog.info? 3).map (fun i => (i.zero, i.size, i.bytes)) = some (some (.int .i64 0), 1, 8) := by kernel_rfl

end Go.Proofs.YtehboglielnjbaaGreatDoor
namespace Go.Proofs.YtehboglielnjbaaGreatDoor
open Go.RowKit

theorem bit_spell (x k : Nat) : (((x : Int) / 2 ^ k % 2) == 1) = x.testBit k := by
  rw [Nat.testBit_eq_decide_div_mod_eq, Bool.eq_iff_iff, beq_iff_eq, decide_eq_true_eq]
  have e : (x : Int) / 2 ^ k % 2 = ((x / 2 ^ k % 2 : Nat) : Int) := by simp
  rw [e]; omega

theorem and_one_spell (x k : Nat) (hx : x < 18446744073709551616) : bits .and .u64 ((x : Int) / 2 ^ k) 1 = (x : Int) / 2 ^ k % 2 := by
  have e : (x : Int) / 2 ^ k = ((x / 2 ^ k : Nat) : Int) := by simp
  have hle : x / 2 ^ k ≤ x := Nat.div_le_self _ _
  rw [e, show (1 : Int) = ((1 : Nat) : Int) by rfl, u64_and_nat _ 1 (by omega) (by omega), Nat.and_one_is_mod]
  omega

set_option maxRecDepth 100000 in
theorem brhas_any (A : Option Addr) (n c : Nat) (ws : List Nat) (m : Int) (w : World) (B : Nat) (hr : Sl w B .u64 A (nI ws)) (hn : ws.length = n) (hmax : n ≤ 1099511627776) (hw : W64 ws) (hm : -9223372036854775808 ≤ m ∧ m ≤ 9223372036854775807) :
    Calls Tryz.prog 42 #[.slice A n c, .int .i64 m] w fun e w' => e = .returned (.bool (hasB ws m)) ∧ w = w' := by
  by_cases h : m < 0 ∨ (n : Int) ≤ m / 64
  · have hf := hide (hasB_out (ws := ws) (n := m) (by rw [hn]; exact h))
    clear hr hn hw
    by_cases h0 : m < 0
    · clear h
      go_enter Tryz.func42, Tryz.ntmps42
      go_wp2
      go_ret
      exact ⟨ret_bool hf.out.symm, rfl⟩
    · have h1 : decide (m / 64 < (n : Int)) = false := by simp; omega
      clear h
      go_enter Tryz.func42, Tryz.ntmps42
      go_wp2
      go_ret
      exact ⟨ret_bool hf.out.symm, rfl⟩
  · obtain ⟨k, rfl⟩ : ∃ k : Nat, m = k := ⟨m.toNat, by omega⟩
    have hk : k / 64 < n := by omega
    obtain ⟨b, o, rfl, -, hcell⟩ := hr (by rw [nI_len]; omega)
    have g1 : w.cell? ⟨b, o + k / 64, none⟩ = some (.int .u64 ((ws.getD (k / 64) 0 : Nat) : Int)) := by rw [hcell (k / 64) (by rw [nI_len]; omega), nI_getD]
    have ht := hide (bit_spell (ws.getD (k / 64) 0) (k % 64))
    have hb := hide (hasB_nat ws k)
    have h1 : decide ((k : Int) / 64 < (n : Int)) = true := by simp; omega
    have hand := hide (and_one_spell (ws.getD (k / 64) 0) (k % 64) (hw.getD _))
    clear hr hn hw hcell h
    generalize ws.getD (k / 64) 0 = x at *
    go_enter Tryz.func42, Tryz.ntmps42
    go_wp2
    go_ret
    exact ⟨ret_bool (by rw [hb.out, ← ht.out, hand.out]), rfl⟩

set_option maxRecDepth 100000 in
theorem rlist_any (A : Option Addr) (n c : Nat) (ws : List Nat) (w : World) (hr : Sl w w.heap.size .u64 A (nI ws)) (hn : ws.length = n) (hmax : n ≤ 1000000000) (hw : W64 ws) :
    Calls Tryz.prog 17 #[.slice A n c] w fun e w' => ∃ v, e = .returned v ∧ Ow w' w.heap.size 3 .i64 v (listL ws) ∧ Below w.heap.size w w' := by
  obtain ⟨i0, hi0, hz0, hz1, hz2⟩ := info_parts info_int
  have HI := hide hi0
  have HN := hide hn
  have HR := hide hr
  have HW := hide hw
  have HL := hide (show listL ws = listN ws (64 * n) by rw [listL, hn])
  clear hn hr hw hi0
  go_enter Tryz.func17, Tryz.ntmps17
  go_wp2
  go_loopw [3, 4] (fun v i wr => ∃ k : Nat, k ≤ 64 * n ∧ i = .int .i64 (k : Int) ∧ Ow wr w.heap.size 3 .i64 v (listN ws k) ∧ Below w.heap.size w wr) (fun _ i _ => 64 * n - (intOf i).toNat)
  case atStart => exact ⟨0, Nat.zero_le _, rfl, Ow.nil _ _ _ _, Below.refl _ _⟩
  case round =>
    obtain ⟨k, hk, rfl, ho, hb⟩ := hrel
    have HO := hide ho
    clear ho
    by_cases hlt : k < 64 * n
    · have hll := listN_len ws k
      have hlen : (listN ws k).length ≤ 1000000000000 := by omega
      have hlt2 : (k : Int) < 64 * (n : Int) := by omega
      by_cases hh : hasB ws (k : Int) = true
      · have hsn := hide (show listN ws k ++ [(k : Int)] = listN ws (k + 1) by rw [listN, if_pos hh])
        have HH := hide hh
        clear hh
        go_wp2_with (first
          | (go_at_call 42; refine (brhas_any A n c ws (k : Int) wr _ (HR.out.below hb) HN.out (by omega) HW.out (by omega)).mono ?_; rw [HH.out]; rintro e w' ⟨rfl, rfl⟩)
          | (at_builtin; refine wpList_append_one _ rfl (.tmp 15) (.tmp 17) _ rfl w.heap.size 3 .i64 i0 _ 8 Tryz.underlying29 HI.out hz0 hz1 hz2 rfl (by omega) _ (listN ws k) rfl HO.out _ rfl (by omega) hb.size ?_; rw [hsn.out]; intro v3 w3 ho3 hb3))
        go_roundw
        case rel => exact ⟨k + 1, by omega, by go_num, ho3, hb.trans hb3⟩
        case measure => simp [intOf]; omega
      · have hh' : hasB ws (k : Int) = false := by simpa using hh
        have hsn := hide (show listN ws k = listN ws (k + 1) by rw [listN, if_neg hh, List.append_nil])
        have HH := hide hh'
        clear hh hh'
        go_wp2_with (go_at_call 42; refine (brhas_any A n c ws (k : Int) wr _ (HR.out.below hb) HN.out (by omega) HW.out (by omega)).mono ?_; rw [HH.out]; rintro e w' ⟨rfl, rfl⟩)
        go_roundw
        case rel => exact ⟨k + 1, by omega, by go_num, by rw [← hsn.out]; exact HO.out, hb⟩
        case measure => simp [intOf]; omega
    · have hkn := hide (show listN ws k = listL ws by rw [HL.out, show k = 64 * n by omega])
      have hlt2 : ¬ (k : Int) < 64 * (n : Int) := by omega
      go_wp2
      go_ret
      exact ⟨_, rfl, by rw [← hkn.out]; exact HO.out, hb⟩

theorem small_yes (z : Int) (w : World) (h : 0 ≤ z ∧ z < 4096) : Calls Tryz.prog 64 #[.int .i64 z] w fun e w' => e = .returned (.bool true) ∧ w = w' := by
  obtain ⟨h1, h2⟩ := h
  go_enter Tryz.func64, Tryz.ntmps64
  go_wp2
  go_ret
  exact ⟨by first | rfl | exact ret_bool (by simp [h1, h2]), rfl⟩
theorem small_no (z : Int) (w : World) (h : ¬ (0 ≤ z ∧ z < 4096)) (hz : -9223372036854775808 ≤ z ∧ z ≤ 9223372036854775807) : Calls Tryz.prog 64 #[.int .i64 z] w fun e w' => e = .returned (.bool false) ∧ w = w' := by
  by_cases h0 : z < 0
  · clear h
    go_enter Tryz.func64, Tryz.ntmps64
    go_wp2
    go_ret
    exact ⟨rfl, rfl⟩
  · have h1 : 4096 ≤ z := by omega
    clear h
    go_enter Tryz.func64, Tryz.ntmps64
    go_wp2
    go_ret
    exact ⟨ret_bool (by simp; omega), rfl⟩

set_option maxRecDepth 100000 in
set_option maxHeartbeats 1000000 in
theorem brput_any (A : Option Addr) (n c : Nat) (s : List Nat) (m : Nat) (w : World) (hr : Sl w w.heap.size .u64 A (nI s)) (hn : s.length = n) (hmax : n ≤ 1000000000) (hw : W64 s) (hm : m < 4096) :
    Calls Tryz.prog 65 #[.slice A n c, .int .i64 (m : Int)] w (MadeB w (putW s m)) := by
  obtain ⟨i0, hi0, hz0, hz1, hz2⟩ := info_parts info_u64
  have HI := hide hi0
  have HN := hide hn
  have HR := hide hr
  have HW := hide hw
  have ho0 : Ow (w.alloc (.cells #[] 71)) w.heap.size 71 .u64 (.slice (some ⟨w.heap.size, 0, none⟩) 0 0) [] := World.ownsRow_lit w #[] 0 (Nat.le_refl _) (by simp [maxLen]) (by simp)
  have HO := hide ho0
  have hlen0 := hide (show s.length ≤ 1000000000 by omega)
  clear hn hr hi0 hw ho0
  go_enter Tryz.func65, Tryz.ntmps65
  go_wp2_with (at_builtin; refine wpList_append_sl _ rfl (.tmp 6) (.tmp 7) _ rfl w.heap.size 71 .u64 i0 _ 8 Tryz.underlying35 HI.out hz0 hz1 hz2 rfl (by omega) (.slice (some ⟨w.heap.size, 0, none⟩) 0 0) [] rfl HO.out _ A n c (nI s) rfl (by rw [nI_len]; exact HN.out) (HR.out.alloc (Nat.le_refl _) _) (by simp; omega) (by simp) ?_; rw [List.nil_append]; intro v1 w1 ho1 hb1)
  have hB1 := ((Below.refl w.heap.size w).alloc (Nat.le_refl _) (.cells #[] 71)).trans hb1
  have HO1 := hide ho1
  clear ho1
  go_loopw [5] (fun v2 wr => ∃ j : Nat, Hid (s.length + j ≤ max s.length (m / 64 + 1)) ∧ Ow wr w.heap.size 71 .u64 v2 (nI (padW s j)) ∧ Below w.heap.size w wr) (fun v2 _ => 2000000000 - lenOf v2)
  case atStart => exact ⟨0, hide (by omega), by rw [padW_zero]; exact HO1.out, hB1⟩
  case round =>
    obtain ⟨j, hj, ho2, hb2⟩ := hrel
    obtain ⟨A2, c2, rfl, hc2, hcm2, hs2⟩ := ho2.sl
    have HO2 := hide ho2
    have hlen := hide (show (nI (padW s j)).length = s.length + j by rw [nI_len, padW_len])
    have hlb : (nI (padW s j)).length ≤ 1000000064 := by have h1 := hlen.out; have h2 := hj.out; have h3 := hlen0.out; omega
    clear ho2
    by_cases hin : m / 64 < (nI (padW s j)).length
    · have hjx := hide (show j = m / 64 + 1 - s.length by have h1 := hlen.out; have h2 := hj.out; omega)
      have hset := hide (show (padW s j).set (m / 64) (s.getD (m / 64) 0 ||| 2 ^ (m % 64)) = putW s m by rw [putW, hjx.out])
      have hget := hide (show (nI (padW s j))[m / 64]? = some ((s.getD (m / 64) 0 : Nat) : Int) by
        rw [nI, List.getElem?_map, get_some (by rw [nI_len] at hin; exact hin), padW_getD]; rfl)
      have hxw := HW.out.getD (m / 64)
      have hor := hide (or_spell (s.getD (m / 64) 0) (m % 64) hxw (Nat.mod_lt _ (by omega)))
      obtain ⟨g, rfl, hg1, hg2, hcell2, hfrz⟩ := HO2.out.block (by omega)
      have q1 : wr.cell? ⟨g, m / 64, none⟩ = some (.int .u64 ((s.getD (m / 64) 0 : Nat) : Int)) := hcell2 _ _ hget.out
      have q2 : wr.frozen? ⟨g, m / 64, none⟩ = false := hfrz _
      have hlp : (nI (padW s j)).length = (putW s m).length := by have h1 := hlen.out; have h2 := hjx.out; rw [putW_len]; omega
      have hfin := hide (show ∀ u : Int, u = ((s.getD (m / 64) 0 ||| 2 ^ (m % 64) : Nat) : Int) → MadeB w (putW s m) (.returned (.slice (some ⟨g, 0, none⟩) (nI (padW s j)).length c2)) (wr.setCell ⟨g, m / 64, none⟩ (.int .u64 u)) from fun u hu => by
        have hst := HO2.out.stored (m / 64) u
        rw [hu, ← nI_set, hset.out, ← hu] at hst
        have h := hst.trimmed
        have hb3 := hb2.setCell (p := ⟨g, m / 64, none⟩) hg1 (.int .u64 u)
        exact ⟨some ⟨g, 0, none⟩, c2, by rw [hlp], by rw [← hlp]; exact h.2.1, h.2.2.1, h.2.2.2.1, hb3⟩)
      have i1 : (0 : Int) ≤ (m : Int) / 64 := by omega
      have i2 : (m : Int) / 64 < (((nI (padW s j)).length : Nat) : Int) := by omega
      have i3 : decide ((((nI (padW s j)).length : Nat) : Int) ≤ (m : Int) / 64) = false := by simp; omega
      clear hcell2 hfrz hget hset hin hjx hlen hs2 hlp
      generalize s.getD (m / 64) 0 = x at *
      generalize (nI (padW s j)).length = len at *
      go_wp2
      go_ret
      exact hfin.out _ (by first | exact hor.out | (rw [pow_word _ (Nat.mod_lt _ (by omega)), pow_cast]; exact hor.out))
    · have hj2 := hide (show s.length + (j + 1) ≤ max s.length (m / 64 + 1) by have h1 := hlen.out; omega)
      have hno : (((nI (padW s j)).length : Nat) : Int) ≤ (m : Int) / 64 := by omega
      have hpad := hide (show nI (padW s j) ++ [0] = nI (padW s (j + 1)) by rw [padW_succ, nI_append]; rfl)
      have hlenS := hide (show (nI (padW s (j + 1))).length = (nI (padW s j)).length + 1 by rw [nI_len, nI_len, padW_len, padW_len]; rfl)
      clear hs2
      go_wp2_with (at_builtin; refine wpList_append_one _ rfl (.tmp 14) (.tmp 15) _ rfl w.heap.size 71 .u64 i0 _ 8 Tryz.underlying35 HI.out hz0 hz1 hz2 rfl (by omega) _ (nI (padW s j)) rfl HO2.out 0 rfl (by omega) hb2.size ?_; rw [hpad.out]; intro v3 w3 ho3 hb3)
      obtain ⟨A3, c3, rfl, -, -, -⟩ := ho3.sl
      go_roundw
      case rel => exact ⟨j + 1, hj2, ho3, hb2.trans hb3⟩
      case measure => simp only [lenOf]; rw [hlenS.out]; omega
end Go.Proofs.YtehboglielnjbaaGreatDoor
namespace Go.Proofs.YtehboglielnjbaaGreatDoor
open Go.RowKit

set_option maxRecDepth 100000 in
set_option maxHeartbeats 1000000 in
theorem rwith_any (A T : Option Addr) (n c m d : Nat) (ws : List Nat) (l : List Int) (w : World) (hx : Sl w w.heap.size .u64 A (nI ws)) (hn : ws.length = n) (hc : n ≤ c) (hc2 : c ≤ 9223372036854775807) (hmax : n ≤ 1000000) (hw : W64 ws) (hr : Sl w w.heap.size .i64 T l) (hm : l.length = m) (hmax2 : m ≤ 1099511627776) (hl : ∀ z ∈ l, -9223372036854775808 ≤ z ∧ z ≤ 9223372036854775807) :
    Calls Tryz.prog 34 #[.slice A n c, .slice T m d] w (MadeB w (neat (putsL ws l))) := by
  have HX := hide hx
  have HN := hide hn
  have HW := hide hw
  have HM := hide hm
  have HR := hide hr
  have HL := hide hl
  have hcw : ws.length ≤ c := by omega
  clear hn hr hl hx hm hw
  go_enter Tryz.func34, Tryz.ntmps34
  go_wp2
  go_loopw [5, 6] (fun v i wr => ∃ (k : Nat) (A1 : Option Addr) (c1 : Nat), k ≤ m ∧ i = .int .i64 (k : Int) ∧ v = .slice A1 (putsL ws (l.take k)).length c1 ∧ (putsL ws (l.take k)).length ≤ c1 ∧ c1 ≤ 9223372036854775807 ∧ Sl wr wr.heap.size .u64 A1 (nI (putsL ws (l.take k))) ∧ Below w.heap.size w wr) (fun _ i _ => m - (intOf i).toNat)
  case atStart => exact ⟨0, A, c, Nat.zero_le _, rfl, by rw [← HN.out]; rfl, hcw, hc2, HX.out, Below.refl _ _⟩
  case round =>
    obtain ⟨k, A1, c1, hk, rfl, rfl, h1, h2, hs, hb⟩ := hrel
    have HS := hide hs
    clear hs
    have hsl : (putsL ws (l.take k)).length ≤ 2000000 := by have := putsL_len ws (l.take k); have := HN.out; omega
    have hsw := hide (putsL_w64 HW.out (l.take k))
    by_cases hlt : k < m
    · have hkl : k < l.length := by have := HM.out; omega
      obtain ⟨b, o, rfl, hbB, hcell⟩ := HR.out (by omega)
      obtain ⟨z, hz⟩ : ∃ z, l[k]? = some z := ⟨_, List.getElem?_eq_getElem hkl⟩
      have g1 : wr.cell? ⟨b, o + k, none⟩ = some (.int .i64 z) := by rw [hb.cell hbB, hcell k hkl]; simp [List.getD, hz]
      have hzb := HL.out z (List.mem_of_getElem? hz)
      have hsn := hide (show putsL ws (l.take (k + 1)) = putI (putsL ws (l.take k)) z by rw [List.take_add_one, hz, Option.toList_some, putsL_snoc])
      clear hcell hkl hz
      generalize putsL ws (l.take k) = s at *
      by_cases hv : 0 ≤ z ∧ z < 4096
      · obtain ⟨q, rfl⟩ : ∃ q : Nat, z = q := ⟨z.toNat, by omega⟩
        have hq : q < 4096 := by omega
        have hput := hide (show putI s (q : Int) = putW s q by rw [putI, if_pos hv, Int.toNat_natCast])
        have HV := hide hv
        clear hv hzb
        go_wp2_with (first
          | (go_at_call 64; refine (small_yes (q : Int) _ HV.out).mono ?_; rintro e w' ⟨rfl, rfl⟩)
          | (go_at_call 65; refine (brput_any A1 _ c1 s q wr HS.out rfl (by omega) hsw.out hq).mono ?_; rintro e w2 ⟨A2, c2, rfl, h3, h4, hs2, hb2⟩))
        go_roundw
        case rel => exact ⟨k + 1, A2, c2, by omega, by go_num, by rw [hsn.out, hput.out], by rw [hsn.out, hput.out]; exact h3, h4, by rw [hsn.out, hput.out]; exact hs2, hb.trans (hb2.mono hb.size)⟩
        case measure => simp [intOf]; omega
      · have hput := hide (show putI s z = s by rw [putI, if_neg hv])
        have HV := hide hv
        clear hv
        go_wp2_with (go_at_call 64; refine (small_no z _ HV.out hzb).mono ?_; rintro e w' ⟨rfl, rfl⟩)
        go_roundw
        case rel => exact ⟨k + 1, A1, c1, by omega, by go_num, by rw [hsn.out, hput.out], by rw [hsn.out, hput.out]; exact h1, h2, by rw [hsn.out, hput.out]; exact HS.out, hb⟩
        case measure => simp [intOf]; omega
    · have hfull := hide (show neat (putsL ws (l.take k)) = neat (putsL ws l) by rw [List.take_of_length_le (by have := HM.out; omega)])
      go_wp2_with (go_at_call 66; refine (neat_any A1 _ c1 _ wr HS.out rfl h1 h2 (by omega)).mono ?_; rw [hfull.out]; rintro e w2 ⟨v2, rfl, ho2, hb2⟩)
      obtain ⟨A2, c2, rfl, h3, h4, hs2⟩ := ho2.sl
      go_ret
      exact ⟨A2, c2, ret_slice (nI_len _), by rw [nI_len] at h3; exact h3, by simp only [maxLen] at h4; omega, hs2, hb.trans (hb2.mono hb.size)⟩

theorem rof_any (T : Option Addr) (m d : Nat) (l : List Int) (w : World) (hr : Sl w w.heap.size .i64 T l) (hm : l.length = m) (hmax2 : m ≤ 1099511627776) (hl : ∀ z ∈ l, -9223372036854775808 ≤ z ∧ z ≤ 9223372036854775807) :
    Calls Tryz.prog 12 #[.slice T m d] w (MadeB w (ofL l)) := by
  have h := rwith_any none T 0 0 m d [] l w (Sl.nil _ _ _ _) rfl (Nat.le_refl _) (by omega) (by omega) W64.nil hr hm hmax2 hl
  rw [ofL_neat] at h
  have H := hide h
  clear hr hm hl h
  go_enter Tryz.func12, Tryz.ntmps12
  go_wp2_with (go_at_call 34; refine H.out.mono ?_; rintro e w1 ⟨A1, c1, rfl, h1, h2, hs, hb⟩)
  go_ret
  exact ⟨A1, c1, rfl, h1, h2, hs, hb⟩

end Go.Proofs.YtehboglielnjbaaGreatDoor
namespace Go.Proofs.YtehboglielnjbaaGreatDoor
open Go.RowKit

end Go.Proofs.YtehboglielnjbaaGreatDoor
