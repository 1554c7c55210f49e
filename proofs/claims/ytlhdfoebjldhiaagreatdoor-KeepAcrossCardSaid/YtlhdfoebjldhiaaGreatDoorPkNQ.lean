/- The contracts of the statements' fixed fact, of great, and of the reference's Same and Words. No condition. -/
import Derived.Test.YtlhdfoebjldhiaaGreatDoorPkNP
import Derived.Lib.TrailingZeros
import Derived.Shelf.Spec.TrailingZeros
import Derived.StillTailTactics
set_option linter.unusedSimpArgs false
set_option linter.unusedVariables false
namespace Go.Proofs.YtlhdfoebjldhiaaGreatDoor
open Go.RowKit

/-- A slice of integers that is written out, as the call meets it. -/
theorem Sl.lit' (w : World) (e : TypeId) (k : IntKind) (cs : Array Value) (zs : List Int) (h : cs.toList = zs.map (Value.int k)) : Sl (w.alloc (.cells cs e)) (w.alloc (.cells cs e)).heap.size k (some ⟨w.heap.size, 0, none⟩) zs := by
  have := Sl.lit w e k cs zs h
  rwa [show (w.alloc (.cells cs e)).heap.size = w.heap.size + 1 by simp]
end Go.Proofs.YtlhdfoebjldhiaaGreatDoor
namespace Go.Proofs.YtlhdfoebjldhiaaGreatDoor
open Go.RowKit

set_option maxRecDepth 100000 in
set_option maxHeartbeats 1000000 in
theorem each_less (A T : Option Addr) (n c m d : Nat) (xs ys : List Nat) (w : World) (hx : Sl w w.heap.size .u64 A (nI xs)) (hy : Sl w w.heap.size .u64 T (nI ys)) (hn : xs.length = n) (hm : ys.length = m) (hmax : n ≤ 1000000000000) (hmax2 : m ≤ 1000000000000) (wx : W64 xs) (wy : W64 ys) :
    Calls Tryz.prog 52 #[.slice A n c, .slice T m d, .int .i64 2] w (MadeB w (neat (mapR (max n m) fun i => andN (xs.getD i 0) (ys.getD i 0)))) := by
  obtain ⟨i0, hi0, hz0, hz1, hz2⟩ := info_parts info_u64
  have HI := hide hi0
  have HX := hide hx
  have HY := hide hy
  have HN := hide hn
  have HM := hide hm
  have WX := hide wx
  have WY := hide wy
  clear hx hy hn hm hi0 wx wy
  obtain ⟨p, hp⟩ : ∃ p, max n m = p := ⟨_, rfl⟩
  rw [hp]
  have hp2 : p ≤ 1000000000000 := by omega
  have hcases : (n < m ∧ p = m) ∨ (m ≤ n ∧ p = n) := by omega
  clear hp
  obtain ⟨F, hF⟩ : ∃ F : Nat → Nat, F = fun i => andN (xs.getD i 0) (ys.getD i 0) := ⟨_, rfl⟩
  rw [← hF]
  have HF := hide (fun i => congrFun hF i)
  clear hF
  rcases hcases with ⟨hc, he⟩ | ⟨hc, he⟩
  all_goals
    have HE := hide he
    clear he
    go_enter Tryz.func52, Tryz.ntmps52
    go_wp2
    go_loopw [7, 8] (fun v i wr => ∃ k : Nat, k ≤ p ∧ i = .int .i64 (k : Int) ∧ Ow wr w.heap.size 58 .u64 v (nI (mapR k F)) ∧ Below w.heap.size w wr) (fun _ i _ => p - (intOf i).toNat)
    case atStart => exact ⟨0, Nat.zero_le _, rfl, Ow.nil _ _ _ _, Below.refl _ _⟩
    case round =>
      obtain ⟨k, hk, rfl, ho, hb⟩ := hrel
      have HO := hide ho
      have hlen : (nI (mapR k F)).length ≤ 1000000000000 := by rw [nI_len, mapR_len]; omega
      clear ho
      by_cases hlt : k < p
      · have hlt3 := HE.out ▸ hlt
        have hxw := WX.out.getD k
        have hyw := WY.out.getD k
        have hop := hide (show bits .andNot .u64 ((xs.getD k 0 : Nat) : Int) ((ys.getD k 0 : Nat) : Int) = ((F k : Nat) : Int) by rw [u64_andNot_nat _ _ hxw hyw, HF.out] <;> rfl)
        have hsn := hide (show nI (mapR k F) ++ [((F k : Nat) : Int)] = nI (mapR (k + 1) F) by rw [mapR_snoc, nI_append]; rfl)
        generalize hgx : xs.getD k 0 = x at *
        generalize hgy : ys.getD k 0 = y at *
        have HGX := hide hgx
        have HGY := hide hgy
        clear hgx hgy
        go_wp2_with (first
          | (go_at_call_of 77 A; refine (at_any A n c xs k wr _ (HX.out.below hb) HN.out (by omega) (by omega)).mono ?_; rw [HGX.out]; rintro e w' ⟨rfl, rfl⟩)
          | (go_at_call_of 77 T; refine (at_any T m d ys k wr _ (HY.out.below hb) HM.out (by omega) (by omega)).mono ?_; rw [HGY.out]; rintro e w' ⟨rfl, rfl⟩)
          | (at_builtin; refine wpList_append_one _ rfl (.tmp 19) (.tmp 27) _ rfl w.heap.size 58 .u64 i0 _ 8 Tryz.underlying37 HI.out hz0 hz1 hz2 rfl (by omega) _ (nI (mapR k F)) rfl HO.out _ rfl (by omega) hb.size ?_; rw [hop.out, hsn.out]; intro v3 w3 ho3 hb3))
        go_roundw
        case rel => exact ⟨k + 1, by omega, by go_num, ho3, hb.trans hb3⟩
        case measure => simp [intOf]; omega
      · have hge := HE.out ▸ hlt
        have hkp := hide (show k = p by omega)
        obtain ⟨A2, c2, rfl, hc2, hcm2, hs2⟩ := HO.out.sl
        have hlp := hide (show (mapR k F).length = (nI (mapR k F)).length by rw [nI_len])
        have HS2 := hide hs2
        have HC2 := hide hcm2
        clear hs2 hcm2
        go_wp2_with (go_at_call 78; refine (neat_any A2 _ c2 (mapR k F) wr HS2.out hlp.out hc2 (by have := HC2.out; simp only [maxLen] at this; omega) (by omega)).mono ?_; rintro e w4 ⟨v4, rfl, ho4, hb4⟩; obtain ⟨A4, c4, rfl, h41, h42, hs4⟩ := ho4.sl)
        go_ret
        exact ⟨A4, c4, ret_slice (by rw [nI_len, hkp.out]), by rw [nI_len, hkp.out] at h41; exact h41, by simp only [maxLen] at h42; omega, by rw [hkp.out] at hs4; exact hs4, hb.trans (hb4.mono hb.size)⟩

set_option maxRecDepth 100000 in
theorem rless_any (A T : Option Addr) (n c m d : Nat) (xs ys : List Nat) (w : World) (hx : Sl w w.heap.size .u64 A (nI xs)) (hy : Sl w w.heap.size .u64 T (nI ys)) (hn : xs.length = n) (hm : ys.length = m) (hmax : n ≤ 1000000000000) (hmax2 : m ≤ 1000000000000) (wx : W64 xs) (wy : W64 ys) :
    Calls Tryz.prog 31 #[.slice A n c, .slice T m d] w (MadeB w (lessL xs ys)) := by
  have h := each_less A T n c m d xs ys w hx hy hn hm hmax hmax2 wx wy
  rw [← hn, ← hm, show neat (mapR (max xs.length ys.length) fun i => andN (xs.getD i 0) (ys.getD i 0)) = lessL xs ys from rfl, hn, hm] at h
  have H := hide h
  clear hx hy hn hm wx wy h
  go_enter Tryz.func31, Tryz.ntmps31
  go_wp2_with (go_at_call 52; refine H.out.mono ?_; rintro e w' ⟨A1, c1, rfl, h1, h2, hs, hb⟩)
  go_ret
  exact ⟨A1, c1, rfl, h1, h2, hs, hb⟩
set_option maxRecDepth 100000 in
theorem rholds_any (A T : Option Addr) (n c m d : Nat) (xs ys : List Nat) (w : World) (hx : Sl w w.heap.size .u64 A (nI xs)) (hy : Sl w w.heap.size .u64 T (nI ys)) (hn : xs.length = n) (hm : ys.length = m) (hmax : n ≤ 1000000000000) (hmax2 : m ≤ 1000000000000) (wx : W64 xs) (wy : W64 ys) :
    Calls Tryz.prog 10 #[.slice A n c, .slice T m d] w fun e w' => e = .returned (.bool (decide ((lessL ys xs).length = 0))) ∧ Below w.heap.size w w' := by
  have H := hide (rless_any T A m d n c ys xs w hy hx hm hn hmax2 hmax wy wx)
  clear hx hy hn hm wx wy
  generalize lessL ys xs = r at *
  go_enter Tryz.func10, Tryz.ntmps10
  go_wp2_with (go_at_call 31; refine H.out.mono ?_; rintro e w1 ⟨A1, c1, rfl, -, -, -, hb1⟩)
  go_ret
  exact ⟨ret_bool (by rw [Bool.eq_iff_iff]; simp), hb1⟩

end Go.Proofs.YtlhdfoebjldhiaaGreatDoor
namespace Go.Proofs.YtlhdfoebjldhiaaGreatDoor

/-- The numbers below K that are in a set. -/
def listN (s : List Nat) : Nat → List Int
  | 0 => []
  | K + 1 => listN s K ++ (if hasB s (K : Int) then [(K : Int)] else [])
theorem listN_len (s : List Nat) : ∀ K, (listN s K).length ≤ K
  | 0 => Nat.le_refl _
  | K + 1 => by
    have := listN_len s K
    rw [listN, List.length_append]
    split <;> simp <;> omega
/-- A set's numbers. -/
def listL (s : List Nat) : List Int := listN s (64 * s.length)
end Go.Proofs.YtlhdfoebjldhiaaGreatDoor
namespace Go.Proofs.YtlhdfoebjldhiaaGreatDoor
open Go.RowKit

/-- The library's table, as its initialiser lays it. -/
def TabW (w : World) : Prop := 0 < w.heap.size ∧ ∀ j, j < 64 → w.cell? ⟨0, j, none⟩ = some (.int .u8 ((Lib.deBruijn64tab.getD j 0 : Nat) : Int))
theorem TabW.below {w w' : World} {B : Nat} (h : TabW w) (hb : Below B w w') (hB : 0 < B) : TabW w' := ⟨by have := h.1; have := hb.size; omega, fun j hj => (hb.cell (p := ⟨0, j, none⟩) hB).trans (h.2 j hj)⟩

theorem info_int : (Tryz.prog.info? 3).map (fun i => (i.zero, i.size, i.bytes)) = some (some (.int .i64 0), 1, 8) := by kernel_rfl

end Go.Proofs.YtlhdfoebjldhiaaGreatDoor
namespace Go.Proofs.YtlhdfoebjldhiaaGreatDoor
open Go.RowKit

theorem bit_spell (x k : Nat) : (((x : Int) / 2 ^ k % 2) == 1) = x.testBit k := by
  rw [Nat.testBit_eq_decide_div_mod_eq, Bool.eq_iff_iff, beq_iff_eq, decide_eq_true_eq]
  have e : (x : Int) / 2 ^ k % 2 = ((x / 2 ^ k % 2 : Nat) : Int) := by simp
  rw [e]; omega

theorem and_one_spell (x k : Nat) (hx : x < 18446744073709551616) : bits .and .u64 ((x : Int) / 2 ^ k) 1 = (x : Int) / 2 ^ k % 2 := by
  have e : (x : Int) / 2 ^ k = ((x / 2 ^ k : Nat) : Int) := by simp
  have hle : x / 2 ^ k ≤ x := Nat.div_le_self _ _
  rw [e, show (1 : Int) = ((1 : Nat) : Int) by rfl, u64_and_nat _ 1 (by omega) (by omega), Nat.and_one_is_mod]
  omega

set_option maxRecDepth 100000 in
theorem brhas_any (A : Option Addr) (n c : Nat) (ws : List Nat) (m : Int) (w : World) (B : Nat) (hr : Sl w B .u64 A (nI ws)) (hn : ws.length = n) (hmax : n ≤ 1099511627776) (hw : W64 ws) (hm : -9223372036854775808 ≤ m ∧ m ≤ 9223372036854775807) :
    Calls Tryz.prog 9 #[.slice A n c, .int .i64 m] w fun e w' => e = .returned (.bool (hasB ws m)) ∧ w = w' := by
  by_cases h : m < 0 ∨ (n : Int) ≤ m / 64
  · have hf := hide (hasB_out (ws := ws) (n := m) (by rw [hn]; exact h))
    clear hr hn hw
    by_cases h0 : m < 0
    · clear h
      go_enter Tryz.func9, Tryz.ntmps9
      go_wp2
      go_ret
      exact ⟨ret_bool hf.out.symm, rfl⟩
    · have h1 : decide (m / 64 < (n : Int)) = false := by simp; omega
      clear h
      go_enter Tryz.func9, Tryz.ntmps9
      go_wp2
      go_ret
      exact ⟨ret_bool hf.out.symm, rfl⟩
  · obtain ⟨k, rfl⟩ : ∃ k : Nat, m = k := ⟨m.toNat, by omega⟩
    have hk : k / 64 < n := by omega
    obtain ⟨b, o, rfl, -, hcell⟩ := hr (by rw [nI_len]; omega)
    have g1 : w.cell? ⟨b, o + k / 64, none⟩ = some (.int .u64 ((ws.getD (k / 64) 0 : Nat) : Int)) := by rw [hcell (k / 64) (by rw [nI_len]; omega), nI_getD]
    have ht := hide (bit_spell (ws.getD (k / 64) 0) (k % 64))
    have hb := hide (hasB_nat ws k)
    have h1 : decide ((k : Int) / 64 < (n : Int)) = true := by simp; omega
    have hand := hide (and_one_spell (ws.getD (k / 64) 0) (k % 64) (hw.getD _))
    clear hr hn hw hcell h
    generalize ws.getD (k / 64) 0 = x at *
    go_enter Tryz.func9, Tryz.ntmps9
    go_wp2
    go_ret
    exact ⟨ret_bool (by rw [hb.out, ← ht.out, hand.out]), rfl⟩

set_option maxRecDepth 100000 in
theorem rlist_any (A : Option Addr) (n c : Nat) (ws : List Nat) (w : World) (hr : Sl w w.heap.size .u64 A (nI ws)) (hn : ws.length = n) (hmax : n ≤ 1000000000) (hw : W64 ws) :
    Calls Tryz.prog 15 #[.slice A n c] w fun e w' => ∃ v, e = .returned v ∧ Ow w' w.heap.size 3 .i64 v (listL ws) ∧ Below w.heap.size w w' := by
  obtain ⟨i0, hi0, hz0, hz1, hz2⟩ := info_parts info_int
  have HI := hide hi0
  have HN := hide hn
  have HR := hide hr
  have HW := hide hw
  have HL := hide (show listL ws = listN ws (64 * n) by rw [listL, hn])
  clear hn hr hw hi0
  go_enter Tryz.func15, Tryz.ntmps15
  go_wp2
  go_loopw [3, 4] (fun v i wr => ∃ k : Nat, k ≤ 64 * n ∧ i = .int .i64 (k : Int) ∧ Ow wr w.heap.size 3 .i64 v (listN ws k) ∧ Below w.heap.size w wr) (fun _ i _ => 64 * n - (intOf i).toNat)
  case atStart => exact ⟨0, Nat.zero_le _, rfl, Ow.nil _ _ _ _, Below.refl _ _⟩
  case round =>
    obtain ⟨k, hk, rfl, ho, hb⟩ := hrel
    have HO := hide ho
    clear ho
    by_cases hlt : k < 64 * n
    · have hll := listN_len ws k
      have hlen : (listN ws k).length ≤ 1000000000000 := by omega
      have hlt2 : (k : Int) < 64 * (n : Int) := by omega
      by_cases hh : hasB ws (k : Int) = true
      · have hsn := hide (show listN ws k ++ [(k : Int)] = listN ws (k + 1) by rw [listN, if_pos hh])
        have HH := hide hh
        clear hh
        go_wp2_with (first
          | (go_at_call 9; refine (brhas_any A n c ws (k : Int) wr _ (HR.out.below hb) HN.out (by omega) HW.out (by omega)).mono ?_; rw [HH.out]; rintro e w' ⟨rfl, rfl⟩)
          | (at_builtin; refine wpList_append_one _ rfl (.tmp 15) (.tmp 17) _ rfl w.heap.size 3 .i64 i0 _ 8 Tryz.underlying30 HI.out hz0 hz1 hz2 rfl (by omega) _ (listN ws k) rfl HO.out _ rfl (by omega) hb.size ?_; rw [hsn.out]; intro v3 w3 ho3 hb3))
        go_roundw
        case rel => exact ⟨k + 1, by omega, by go_num, ho3, hb.trans hb3⟩
        case measure => simp [intOf]; omega
      · have hh' : hasB ws (k : Int) = false := by simpa using hh
        have hsn := hide (show listN ws k = listN ws (k + 1) by rw [listN, if_neg hh, List.append_nil])
        have HH := hide hh'
        clear hh hh'
        go_wp2_with (go_at_call 9; refine (brhas_any A n c ws (k : Int) wr _ (HR.out.below hb) HN.out (by omega) HW.out (by omega)).mono ?_; rw [HH.out]; rintro e w' ⟨rfl, rfl⟩)
        go_roundw
        case rel => exact ⟨k + 1, by omega, by go_num, by rw [← hsn.out]; exact HO.out, hb⟩
        case measure => simp [intOf]; omega
    · have hkn := hide (show listN ws k = listL ws by rw [HL.out, show k = 64 * n by omega])
      have hlt2 : ¬ (k : Int) < 64 * (n : Int) := by omega
      go_wp2
      go_ret
      exact ⟨_, rfl, by rw [← hkn.out]; exact HO.out, hb⟩

end Go.Proofs.YtlhdfoebjldhiaaGreatDoor
namespace Go.Proofs.YtlhdfoebjldhiaaGreatDoor
open Go.RowKit

end Go.Proofs.YtlhdfoebjldhiaaGreatDoor
namespace Go.Proofs.YtlhdfoebjldhiaaGreatDoor
open Go.RowKit

end Go.Proofs.YtlhdfoebjldhiaaGreatDoor
