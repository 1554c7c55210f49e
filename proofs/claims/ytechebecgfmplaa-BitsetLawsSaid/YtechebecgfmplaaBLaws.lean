/- The statement BitsetLaws, walked: it answers true. No condition (more than 100 words: at once). -/
import Derived.Test.YtechebecgfmplaaBMeet
import Derived.Test.YtechebecgfmplaaBFact
namespace Go.Proofs.Ytechebecgfmplaa
open Go.RowKit

theorem below_of_drawn {w w' : World} (h : ∃ q, w' = w.drewN q) : Below w.heap.size w w' := by
  obtain ⟨q, rfl⟩ := h
  exact below_drewN (Below.refl _ _) q
theorem same_true (A T : Option Addr) (n c m d : Nat) (xs ys : List Nat) (w : World) (hx : Sl w w.heap.size .u64 A (nI xs)) (hy : Sl w w.heap.size .u64 T (nI ys)) (hn : xs.length = n) (hm : ys.length = m) (hc : n ≤ c) (hc2 : c ≤ 9223372036854775807) (hmd : m ≤ d) (hd : d ≤ 9223372036854775807) (hmax : n ≤ 1099511627776) (hmax2 : m ≤ 1099511627776) (h : neat xs = neat ys) :
    Calls Try.prog 15 #[.slice A n c, .slice T m d] w fun e w' => e = .returned (.bool true) ∧ Below w.heap.size w w' :=
  (same_any A T n c m d xs ys w _ _ hx hy hn hm hc hc2 hmd hd hmax hmax2).mono fun e w' ⟨he, hw⟩ => ⟨by rw [he]; exact ret_bool (by simpa using h), below_of_drawn hw⟩
theorem holds_true (A T : Option Addr) (n c m d : Nat) (xs ys : List Nat) (w : World) (hx : Sl w w.heap.size .u64 A (nI xs)) (hy : Sl w w.heap.size .u64 T (nI ys)) (hn : xs.length = n) (hm : ys.length = m) (hc : n ≤ c) (hc2 : c ≤ 9223372036854775807) (hmax : m ≤ 1099511627776) (wx : W64 xs) (wy : W64 ys) (h : (lessL ys xs).length = 0) :
    Calls Try.prog 17 #[.slice A n c, .slice T m d] w fun e w' => e = .returned (.bool true) ∧ Below w.heap.size w w' :=
  (holds_any A T n c m d xs ys w hx hy hn hm hc hc2 hmax wx wy).mono fun e w' ⟨he, hw⟩ => ⟨by rw [he]; exact ret_bool (by simpa using h), hw⟩

set_option maxRecDepth 100000 in
set_option maxHeartbeats 4000000 in
theorem laws_law (A T S : Option Addr) (n c m d p b : Nat) (xs ys zs : List Nat) (w : World) (hx : Sl w w.heap.size .u64 A (nI xs)) (hy : Sl w w.heap.size .u64 T (nI ys)) (hz : Sl w w.heap.size .u64 S (nI zs)) (hn : xs.length = n) (hm : ys.length = m) (hp : zs.length = p) (hc : n ≤ c) (hc2 : c ≤ 9223372036854775807) (hmd : m ≤ d) (hd : d ≤ 9223372036854775807) (hpb : p ≤ b) (hb : b ≤ 9223372036854775807) (wx : W64 xs) (wy : W64 ys) (wz : W64 zs) :
    Calls Try.prog 4 #[.slice A n c, .slice T m d, .slice S p b] w fun e w' => e = .returned (.bool true) ∧ Below w.heap.size w w' := by
  have HX := hide hx
  have HY := hide hy
  have HZ := hide hz
  have HN := hide hn
  have HM := hide hm
  have HP := hide hp
  have WX := hide wx
  have WY := hide wy
  have WZ := hide wz
  clear hx hy hz hn hm hp wx wy wz
  by_cases h100 : 100 < n ∨ 100 < m
  · have H100 := hide h100
    clear h100
    go_enter Try.func4, Try.ntmps4
    go_wp2_with (first | (go_at_call 6; refine (alive_any _).mono ?_; rintro e w1 ⟨rfl, hb1⟩) | (go_at_call 7; refine (great_yes A T n c m d _ H100.out (by omega) (by omega)).mono ?_; rintro e w' ⟨rfl, rfl⟩))
    go_ret
    exact ⟨rfl, hb1⟩
  · by_cases hp100 : 100 < p
    · go_enter Try.func4, Try.ntmps4
      go_wp2_with (first | (go_at_call 6; refine (alive_any _).mono ?_; rintro e w1 ⟨rfl, hb1⟩) | (go_at_call 7; refine (great_no A T n c m d _ (by omega) (by omega)).mono ?_; rintro e w' ⟨rfl, rfl⟩))
      go_ret
      exact ⟨rfl, hb1⟩
    · have hn100 : n ≤ 100 := by omega
      have hm100 : m ≤ 100 := by omega
      have hp100 : p ≤ 100 := by omega
      have WJ := hide (show W64 (joinL [xs, ys]) from joinL_w64 fun l hl => by
        simp only [List.mem_cons, List.not_mem_nil, or_false] at hl
        rcases hl with rfl | rfl
        · exact WX.out
        · exact WY.out)
      have WM := hide (meetL_w64 (b := ys) WX.out)
      have WL := hide (lessL_w64 (b := ys) WX.out)
      have q1 := hide (join_comm xs ys)
      have q2 := hide (meet_comm xs ys)
      have q3 := hide (join_holds WX.out WY.out)
      have q4 := hide (meet_held (b := ys) WX.out)
      have q5 := hide (join_assoc xs ys zs)
      have q6 := hide (less_join WX.out WY.out)
      have lj : (joinL [xs, ys]).length ≤ 100 := joinL_le (by have := HN.out; have := HM.out; simp [maxLenL]; omega)
      have lj2 : (joinL [ys, xs]).length ≤ 100 := joinL_le (by have := HN.out; have := HM.out; simp [maxLenL]; omega)
      have lm : (meetL xs ys).length ≤ 100 := by have := meetL_le xs ys; have := HN.out; have := HM.out; omega
      have lm2 : (meetL ys xs).length ≤ 100 := by have := meetL_le ys xs; have := HN.out; have := HM.out; omega
      have ll : (lessL xs ys).length ≤ 100 := by have := lessL_le xs ys; have := HN.out; have := HM.out; omega
      have lj3 : (joinL [xs, ys, zs]).length ≤ 100 := joinL_le (by have := HN.out; have := HM.out; have := HP.out; simp [maxLenL]; omega)
      have lj4 : (joinL [joinL [xs, ys], zs]).length ≤ 100 := joinL_le (by have := HP.out; simp [maxLenL]; omega)
      have lj5 : (joinL [lessL xs ys, meetL xs ys]).length ≤ 100 := joinL_le (by simp [maxLenL]; omega)
      have k1 := cnt_le xs
      have k2 := cnt_le ys
      have k3 := cnt_le (joinL [xs, ys])
      have k4 := cnt_le (meetL xs ys)
      have k5 := cnt_both xs ys
      have hxl := HN.out
      have hyl := HM.out
      have KE : (((cnt xs : Nat) : Int) + ((cnt ys : Nat) : Int) == ((cnt (joinL [xs, ys]) : Nat) : Int) + ((cnt (meetL xs ys) : Nat) : Int)) = true := by rw [beq_iff_eq]; omega
      have c1 : cnt xs ≤ 6400 := by omega
      have c2 : cnt ys ≤ 6400 := by omega
      have c3 : cnt (joinL [xs, ys]) ≤ 6400 := by omega
      have c4 : cnt (meetL xs ys) ≤ 6400 := by omega
      clear h100 k1 k2 k3 k4 k5 hxl hyl
      go_enter Try.func4, Try.ntmps4
      go_wp2_with (first
        | (go_at_call_of 19 A; refine (count_any A n c xs w15 _ (HX.out.below z15) HN.out (by omega) WX.out).mono ?_; rintro e w' ⟨rfl, rfl⟩)
        | (go_at_call_of 19 T; refine (count_any T m d ys w15 _ (HY.out.below z15) HM.out (by omega) WY.out).mono ?_; rintro e w' ⟨rfl, rfl⟩)
        | (go_at_call_of 19 A2; refine (count_any A2 _ c2' (joinL [xs, ys]) w15 _ (HS2.out.below y15) rfl (by omega) WJ.out).mono ?_; rintro e w' ⟨rfl, rfl⟩)
        | (go_at_call_of 19 A3; refine (count_any A3 _ c3' (meetL xs ys) w15 _ (HS3.out.below x15) rfl (by omega) WM.out).mono ?_; rintro e w' ⟨rfl, rfl⟩)
        | (go_at_call 15; refine (same_true A14 A _ c14 n c (joinL [lessL xs ys, meetL xs ys]) xs w14 HS14.out ((HX.out.below z14).more z14.size) rfl HN.out h14.1 h14.2 hc hc2 (by omega) (by omega) q6.out).mono ?_; rintro e w15 ⟨rfl, hb15⟩; have z15 := z14.trans (hb15.mono z14.size); have y15 := y14.trans (hb15.mono y14.size); have x15 := x14.trans (hb15.mono x14.size))
        | (go_at_call 9; refine (join_two A13 A3 _ c13 _ c3' (lessL xs ys) (meetL xs ys) w13 (good_of HS13.out WL.out rfl h13.1 h13.2) (good_of ((HS3.out.below x13).more x13.size) WM.out rfl h3.1 h3.2) rfl rfl (by omega) (by omega)).mono ?_; rintro e w14 ⟨A14, c14, rfl, h141, h142, hs14, hb14⟩; have HS14 := hide hs14; clear hs14; have h14 := And.intro h141 h142; clear h141 h142; have z14 := z13.trans (hb14.mono z13.size); have y14 := y13.trans (hb14.mono y13.size); have x14 := x13.trans (hb14.mono x13.size))
        | (go_at_call 13; refine (less_any A T n c m d xs ys w12 ((HX.out.below z12).more z12.size) ((HY.out.below z12).more z12.size) HN.out HM.out hmd hd (by omega) WX.out WY.out).mono ?_; rintro e w13 ⟨A13, c13, rfl, h131, h132, hs13, hb13⟩; have HS13 := hide hs13; clear hs13; have h13 := And.intro h131 h132; clear h131 h132; have z13 := z12.trans (hb13.mono z12.size); have y13 := y12.trans (hb13.mono y12.size); have x13 := x12.trans (hb13.mono x12.size))
        | (go_at_call 15; refine (same_true A10 A11 _ c10 _ c11 (joinL [xs, ys, zs]) (joinL [joinL [xs, ys], zs]) w11 ((HS10.out.below hb11).more hb11.size) HS11.out rfl rfl h10.1 h10.2 h11.1 h11.2 (by omega) (by omega) q5.out).mono ?_; rintro e w12 ⟨rfl, hb12⟩; have z12 := z11.trans (hb12.mono z11.size); have y12 := y11.trans (hb12.mono y11.size); have x12 := x11.trans (hb12.mono x11.size))
        | (go_at_call_of 9 w10; refine (join_two A2 S _ c2' p b (joinL [xs, ys]) zs w10 (good_of ((HS2.out.below y10).more y10.size) WJ.out rfl h2.1 h2.2) (good_of ((HZ.out.below z10).more z10.size) WZ.out HP.out hpb hb) rfl HP.out (by omega) (by omega)).mono ?_; rintro e w11 ⟨A11, c11, rfl, h111, h112, hs11, hb11⟩; have HS11 := hide hs11; clear hs11; have h11 := And.intro h111 h112; clear h111 h112; have z11 := z10.trans (hb11.mono z10.size); have y11 := y10.trans (hb11.mono y10.size); have x11 := x10.trans (hb11.mono x10.size))
        | (go_at_call_of 9 w9; refine (join_three A T S n c m d p b xs ys zs w9 (good_of ((HX.out.below z9).more z9.size) WX.out HN.out hc hc2) (good_of ((HY.out.below z9).more z9.size) WY.out HM.out hmd hd) (good_of ((HZ.out.below z9).more z9.size) WZ.out HP.out hpb hb) HN.out HM.out HP.out (by omega) (by omega) (by omega)).mono ?_; rintro e w10 ⟨A10, c10, rfl, h101, h102, hs10, hb10⟩; have HS10 := hide hs10; clear hs10; have h10 := And.intro h101 h102; clear h101 h102; have z10 := z9.trans (hb10.mono z9.size); have y10 := y9.trans (hb10.mono y9.size); have x10 := x9.trans (hb10.mono x9.size))
        | (go_at_call 17; refine (holds_true A A3 n c _ c3' xs (meetL xs ys) w8 ((HX.out.below z8).more z8.size) ((HS3.out.below x8).more x8.size) HN.out rfl hc hc2 (by omega) WX.out WM.out q4.out).mono ?_; rintro e w9 ⟨rfl, hb9⟩; have z9 := z8.trans (hb9.mono z8.size); have y9 := y8.trans (hb9.mono y8.size); have x9 := x8.trans (hb9.mono x8.size))
        | (go_at_call 17; refine (holds_true A2 A _ c2' n c (joinL [xs, ys]) xs w7 ((HS2.out.below y7).more y7.size) ((HX.out.below z7).more z7.size) rfl HN.out h2.1 h2.2 (by omega) WJ.out WX.out q3.out).mono ?_; rintro e w8 ⟨rfl, hb8⟩; have z8 := z7.trans (hb8.mono z7.size); have y8 := y7.trans (hb8.mono y7.size); have x8 := x7.trans (hb8.mono x7.size))
        | (go_at_call 15; refine (same_true A3 A6 _ c3' _ c6 (meetL xs ys) (meetL ys xs) w6 ((HS3.out.below x6).more x6.size) HS6.out rfl rfl h3.1 h3.2 h6.1 h6.2 (by omega) (by omega) q2.out).mono ?_; rintro e w7 ⟨rfl, hb7⟩; have z7 := z6.trans (hb7.mono z6.size); have y7 := y6.trans (hb7.mono y6.size); have x7 := x6.trans (hb7.mono x6.size))
        | (go_at_call 11; refine (meet_any T A m d n c ys xs w5 ((HY.out.below z5).more z5.size) ((HX.out.below z5).more z5.size) HM.out HN.out hmd hd hc hc2 (by omega) WY.out WX.out).mono ?_; rintro e w6 ⟨A6, c6, rfl, h61, h62, hs6, hb6⟩; have HS6 := hide hs6; clear hs6; have h6 := And.intro h61 h62; clear h61 h62; have z6 := z5.trans (hb6.mono z5.size); have y6 := y5.trans (hb6.mono y5.size); have x6 := x5.trans (hb6.mono x5.size))
        | (go_at_call 15; refine (same_true A2 A4 _ c2' _ c4' (joinL [xs, ys]) (joinL [ys, xs]) w4 ((HS2.out.below y4).more y4.size) HS4.out rfl rfl h2.1 h2.2 h4.1 h4.2 (by omega) (by omega) q1.out).mono ?_; rintro e w5 ⟨rfl, hb5⟩; have z5 := z4.trans (hb5.mono z4.size); have y5 := y4.trans (hb5.mono y4.size); have x5 := x4.trans (hb5.mono x4.size))
        | (go_at_call_of 9 w3; refine (join_two T A m d n c ys xs w3 (good_of ((HY.out.below z3).more z3.size) WY.out HM.out hmd hd) (good_of ((HX.out.below z3).more z3.size) WX.out HN.out hc hc2) HM.out HN.out (by omega) (by omega)).mono ?_; rintro e w4 ⟨A4, c4', rfl, h41, h42, hs4, hb4⟩; have HS4 := hide hs4; clear hs4; have h4 := And.intro h41 h42; clear h41 h42; have z4 := z3.trans (hb4.mono z3.size); have y4 := y3.trans (hb4.mono y3.size); have x4 := hb4)
        | (go_at_call 11; refine (meet_any A T n c m d xs ys w2 ((HX.out.below z2).more z2.size) ((HY.out.below z2).more z2.size) HN.out HM.out hc hc2 hmd hd (by omega) WX.out WY.out).mono ?_; rintro e w3 ⟨A3, c3', rfl, h31, h32, hs3, hb3⟩; have HS3 := hide hs3; clear hs3; have h3 := And.intro h31 h32; clear h31 h32; have z3 := z2.trans (hb3.mono z2.size); have y3 := hb3)
        | (go_at_call_of 9 w1; refine (join_two A T n c m d xs ys w1 (good_of ((HX.out.below hb1).more hb1.size) WX.out HN.out hc hc2) (good_of ((HY.out.below hb1).more hb1.size) WY.out HM.out hmd hd) HN.out HM.out (by omega) (by omega)).mono ?_; rintro e w2 ⟨A2, c2', rfl, h21, h22, hs2, hb2⟩; have HS2 := hide hs2; clear hs2; have h2 := And.intro h21 h22; clear h21 h22; have z2 := hb1.trans (hb2.mono hb1.size))
        | (go_at_call 6; refine (alive_any _).mono ?_; rintro e w1 ⟨rfl, hb1⟩)
        | (go_at_call 7; refine (great_no A T n c m d _ hn100 hm100).mono ?_; rintro e w' ⟨rfl, rfl⟩))
      all_goals
        go_ret
        exact ⟨rfl, z15⟩
end Go.Proofs.Ytechebecgfmplaa
