/- The statement BitsetBoth, walked: it answers true. No condition (more than 100 words: at once). -/
import Derived.Test.YtechebecgfmplaaBMeet
import Derived.Test.YtechebecgfmplaaBRef
namespace Go.Proofs.Ytechebecgfmplaa
open Go.RowKit

set_option maxRecDepth 100000 in
set_option maxHeartbeats 4000000 in
theorem both_law (A T : Option Addr) (n c m d : Nat) (xs ys : List Nat) (w : World) (hx : Sl w w.heap.size .u64 A (nI xs)) (hy : Sl w w.heap.size .u64 T (nI ys)) (hn : xs.length = n) (hm : ys.length = m) (hc : n ≤ c) (hc2 : c ≤ 9223372036854775807) (hmd : m ≤ d) (hd : d ≤ 9223372036854775807) (wx : W64 xs) (wy : W64 ys) :
    Calls Try.prog 3 #[.slice A n c, .slice T m d] w fun e w' => e = .returned (.bool true) ∧ Below w.heap.size w w' := by
  have HX := hide hx
  have HY := hide hy
  have HN := hide hn
  have HM := hide hm
  have WX := hide wx
  have WY := hide wy
  clear hx hy hn hm wx wy
  by_cases h100 : 100 < n ∨ 100 < m
  · have H100 := hide h100
    clear h100
    go_enter Try.func3, Try.ntmps3
    go_wp2_with (first | (go_at_call 6; refine (alive_any _).mono ?_; rintro e w1 ⟨rfl, hb1⟩) | (go_at_call 7; refine (great_yes A T n c m d _ H100.out (by omega) (by omega)).mono ?_; rintro e w' ⟨rfl, rfl⟩))
    go_ret
    exact ⟨rfl, hb1⟩
  · have hn100 : n ≤ 100 := by omega
    have hm100 : m ≤ 100 := by omega
    have lj : (joinL [xs, ys]).length ≤ 200 := joinL_le (by have := HN.out; have := HM.out; simp [maxLenL]; omega)
    have lm : (meetL xs ys).length ≤ 200 := by have := meetL_le xs ys; have := HN.out; have := HM.out; omega
    have ll : (lessL xs ys).length ≤ 200 := by have := lessL_le xs ys; have := HN.out; have := HM.out; omega
    clear h100
    obtain ⟨s1, hs1⟩ : ∃ b, decide (neat xs = neat ys) = b := ⟨_, rfl⟩
    obtain ⟨s2, hs2⟩ : ∃ b, decide ((lessL ys xs).length = 0) = b := ⟨_, rfl⟩
    have S1 := hide hs1
    have S2 := hide hs2
    clear hs1 hs2
    go_enter Try.func3, Try.ntmps3
    go_wp2_with (first
      | (go_at_call 6; refine (alive_any _).mono ?_; rintro e w1 ⟨rfl, hb1⟩)
      | (go_at_call 7; refine (great_no A T n c m d _ hn100 hm100).mono ?_; rintro e w' ⟨rfl, rfl⟩)
      | (go_at_call 9; refine (join_two A T n c m d xs ys w1 (good_of ((HX.out.below hb1).more hb1.size) WX.out HN.out hc hc2) (good_of ((HY.out.below hb1).more hb1.size) WY.out HM.out hmd hd) HN.out HM.out (by omega) (by omega)).mono ?_; rintro e w2 ⟨A2, c2, rfl, -, -, hs2, hb2⟩; have HS2 := hide hs2; clear hs2; have k2 := hb1.trans (hb2.mono hb1.size))
      | (go_at_call 10; refine (rjoin_two A T n c m d xs ys w2 (good_of ((HX.out.below k2).more k2.size) WX.out HN.out hc hc2) (good_of ((HY.out.below k2).more k2.size) WY.out HM.out hmd hd) HN.out HM.out (by omega) (by omega)).mono ?_; rintro e w3 ⟨A3, c3, rfl, -, -, hs3, hb3⟩; have HS3 := hide hs3; clear hs3; have k3 := k2.trans (hb3.mono k2.size))
      | (go_at_call_of 8 A2; refine (words_yes A2 A3 _ c2 _ c3 (joinL [xs, ys]) w3 _ _ (HS2.out.below hb3) HS3.out rfl rfl (by omega)).mono ?_; rintro e w' ⟨rfl, rfl⟩)
      | (go_at_call 11; refine (meet_any A T n c m d xs ys w3 ((HX.out.below k3).more k3.size) ((HY.out.below k3).more k3.size) HN.out HM.out hc hc2 hmd hd (by omega) WX.out WY.out).mono ?_; rintro e w4 ⟨A4, c4, rfl, -, -, hs4, hb4⟩; have HS4 := hide hs4; clear hs4; have k4 := k3.trans (hb4.mono k3.size))
      | (go_at_call 12; refine (rmeet_any A T n c m d xs ys w4 ((HX.out.below k4).more k4.size) ((HY.out.below k4).more k4.size) HN.out HM.out (by omega) (by omega) WX.out WY.out).mono ?_; rintro e w5 ⟨A5, c5, rfl, -, -, hs5, hb5⟩; have HS5 := hide hs5; clear hs5; have k5 := k4.trans (hb5.mono k4.size))
      | (go_at_call_of 8 A4; refine (words_yes A4 A5 _ c4 _ c5 (meetL xs ys) w5 _ _ (HS4.out.below hb5) HS5.out rfl rfl (by omega)).mono ?_; rintro e w' ⟨rfl, rfl⟩)
      | (go_at_call 13; refine (less_any A T n c m d xs ys w5 ((HX.out.below k5).more k5.size) ((HY.out.below k5).more k5.size) HN.out HM.out hmd hd (by omega) WX.out WY.out).mono ?_; rintro e w6 ⟨A6, c6, rfl, -, -, hs6, hb6⟩; have HS6 := hide hs6; clear hs6; have k6 := k5.trans (hb6.mono k5.size))
      | (go_at_call 14; refine (rless_any A T n c m d xs ys w6 ((HX.out.below k6).more k6.size) ((HY.out.below k6).more k6.size) HN.out HM.out (by omega) (by omega) WX.out WY.out).mono ?_; rintro e w7 ⟨A7, c7, rfl, -, -, hs7, hb7⟩; have HS7 := hide hs7; clear hs7; have k7 := k6.trans (hb7.mono k6.size))
      | (go_at_call_of 8 A6; refine (words_yes A6 A7 _ c6 _ c7 (lessL xs ys) w7 _ _ (HS6.out.below hb7) HS7.out rfl rfl (by omega)).mono ?_; rintro e w' ⟨rfl, rfl⟩)
      | (go_at_call 15; refine (same_any A T n c m d xs ys w7 _ _ (HX.out.below k7) (HY.out.below k7) HN.out HM.out hc hc2 hmd hd (by omega) (by omega)).mono ?_; rw [S1.out]; rintro e w' ⟨rfl, q8, rfl⟩; have k8 := below_drewN k7 q8)
      | (go_at_call 16; refine (rsame_any A T n c m d xs ys (w7.drewN q8) _ _ (HX.out.below k8) (HY.out.below k8) HN.out HM.out (by omega) (by omega)).mono ?_; rw [S1.out]; rintro e w' ⟨rfl, rfl⟩)
      | (go_at_call 17; refine (holds_any A T n c m d xs ys (w7.drewN q8) ((HX.out.below k8).more k8.size) ((HY.out.below k8).more k8.size) HN.out HM.out hc hc2 (by omega) WX.out WY.out).mono ?_; rw [S2.out]; rintro e w9 ⟨rfl, hb9⟩; have k9 := k8.trans (hb9.mono k8.size))
      | (go_at_call 18; refine (rholds_any A T n c m d xs ys w9 ((HX.out.below k9).more k9.size) ((HY.out.below k9).more k9.size) HN.out HM.out (by omega) (by omega) WX.out WY.out).mono ?_; rw [S2.out]; rintro e w10 ⟨rfl, hb10⟩; have k10 := k9.trans (hb10.mono k9.size)))
    all_goals
      go_ret
      exact ⟨rfl, k10⟩
end Go.Proofs.Ytechebecgfmplaa
