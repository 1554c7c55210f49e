/- The statement BitsetNumbers, walked: it answers true. Condition: the library's table lies as its initialiser lays it (more than 100 words, or 50 numbers: at once). -/
import Derived.Test.YtechebecgfmplaaDoorBLists
import Derived.Test.YtechebecgfmplaaDoorBRefF
namespace Go.Proofs.YtechebecgfmplaaDoor
open Go.RowKit

theorem rhas_is (A : Option Addr) (n c : Nat) (ws : List Nat) (m : Int) (b : Bool) (w : World) (k : Nat) (B : Nat) (hr : Sl w B .u64 A (nI ws)) (hn : ws.length = n) (hmax : n ≤ 1099511627776) (hw : W64 ws) (hm : -9223372036854775808 ≤ m ∧ m ≤ 9223372036854775807) (hb : hasB ws m = b) :
    Calls Tryd.prog 8 #[.slice A n c, .int .i64 m] (w.drewN k) fun e w' => e = .returned (.bool b) ∧ ∃ q, w' = w.drewN q := by
  subst hb
  exact ql (rhas_any A n c ws m (w.drewN k) B (hr.drewN k) hn hmax hw hm)

set_option maxRecDepth 100000 in
theorem numbers_far (A T : Option Addr) (n c m d : Nat) (w : World) (hn : n ≤ 9223372036854775807) (hm : m ≤ 9223372036854775807) (h : 100 < n ∨ 50 < m) :
    Calls Tryd.prog 3 #[.slice A n c, .slice T m d] w fun e w' => e = .returned (.bool true) ∧ Below w.heap.size w w' := by
  by_cases h1 : 100 < n
  · clear h
    go_enter Tryd.func3, Tryd.ntmps3
    go_wp2_with (first | (go_at_call 5; refine (alive_any _).mono ?_; rintro e w1 ⟨rfl, hb1⟩) | (go_at_call 6; refine (great_yes A none n c 0 0 _ (.inl h1) (by omega) (by omega)).mono ?_; rintro e w' ⟨rfl, rfl⟩))
    all_goals
      go_ret
      exact ⟨rfl, hb1⟩
  · have h2 : 50 < m := by omega
    clear h
    go_enter Tryd.func3, Tryd.ntmps3
    go_wp2_with (first | (go_at_call 5; refine (alive_any _).mono ?_; rintro e w1 ⟨rfl, hb1⟩) | (go_at_call 6; refine (great_no A none n c 0 0 _ (by omega) (by omega)).mono ?_; rintro e w' ⟨rfl, rfl⟩))
    all_goals
      go_ret
      exact ⟨rfl, hb1⟩

set_option maxRecDepth 100000 in
set_option maxHeartbeats 400000 in
theorem numbers_law (A T : Option Addr) (n c m d : Nat) (xs : List Nat) (l : List Int) (w : World) (hx : Sl w w.heap.size .u64 A (nI xs)) (hr : Sl w w.heap.size .i64 T l) (hn : xs.length = n) (hm : l.length = m) (hc : n ≤ c) (hc2 : c ≤ 9223372036854775807) (hmm : m ≤ 9223372036854775807) (wx : W64 xs) (hl : ∀ z ∈ l, -9223372036854775808 ≤ z ∧ z ≤ 9223372036854775807) (hT : TabW w) :
    Calls Tryd.prog 3 #[.slice A n c, .slice T m d] w fun e w' => e = .returned (.bool true) ∧ Below w.heap.size w w' := by
  by_cases hfar : 100 < n ∨ 50 < m
  · exact numbers_far A T n c m d w (by omega) hmm hfar
  · have hn100 : n ≤ 100 := by omega
    have hm50 : m ≤ 50 := by omega
    obtain ⟨i0, hi0, hz0, hz1, hz2⟩ := info_parts info_u64
    have HI := hide hi0
    have HX := hide hx
    have HR := hide hr
    have HN := hide hn
    have HM := hide hm
    have WX := hide wx
    have HL := hide hl
    have HT := hide hT
    have hT0 := hT.1
    have hll : (listL xs).length ≤ 6400 := by have := listL_len xs; omega
    have lo : (ofL l).length ≤ 64 := ofL_len l
    have lj : (joinL [xs, ofL l]).length ≤ 200 := joinL_le (by simp [maxLenL]; omega)
    have lw : (withoutL xs l).length ≤ 200 := by have := withoutL_len xs l; omega
    have hwb := hide (with_both xs l)
    have q2 := hide (listL_cnt xs)
    have q5 : (((cnt xs : Nat) : Int) == ((listL xs).length : Int)) = true := by rw [beq_iff_eq, q2.out]
    have hcl : cnt xs ≤ 6400 := by rw [← q2.out]; exact hll
    clear hx hr hn hm wx hl hT hfar hi0
    go_enter Tryd.func3, Tryd.ntmps3
    go_wp2_with (first
      | (go_at_call 5; refine (alive_any _).mono ?_; rintro e w1 ⟨rfl, hb1⟩)
      | (go_at_call 6; refine (great_no A none n c 0 0 _ (by omega) (by omega)).mono ?_; rintro e w' ⟨rfl, rfl⟩)
      | (at_builtin; refine wpList_append_sl _ rfl (.tmp 17) (.tmp 18) _ rfl w1.heap.size 34 .u64 i0 _ 8 Tryd.underlying22 HI.out hz0 hz1 hz2 rfl (by omega) (.slice (some ⟨w1.heap.size, 0, none⟩) 0 0) [] rfl (World.ownsRow_lit w1 #[] 0 (Nat.le_refl _) (by simp [maxLen]) (by simp)) _ A n c (nI xs) rfl (by rw [nI_len]; exact HN.out) (((HX.out.below hb1).more hb1.size).alloc (Nat.le_refl _) _) (by simp; omega) (by simp) ?_; rw [List.nil_append]; intro v2 w2 ho2 hb2))
    obtain ⟨A2, c2, hv2, hc2a, hc2b, hs2⟩ := ho2.sl
    rw [nI_len, HN.out] at hv2
    subst hv2
    have HS2 := hide hs2
    have z2 := hb1.trans ((((Below.refl w1.heap.size w1).alloc (Nat.le_refl _) (.cells #[] 34)).trans hb2).mono hb1.size)
    have hc22 : n ≤ c2 ∧ c2 ≤ 9223372036854775807 := ⟨by rw [nI_len, HN.out] at hc2a; exact hc2a, by simp only [maxLen] at hc2b; omega⟩
    clear hs2 ho2 hc2a hc2b
    go_loopw [6] (fun i wr => ∃ k : Nat, k ≤ m ∧ i = .int .i64 (k : Int) ∧ Below w.heap.size w wr ∧ Below w2.heap.size w2 wr) (fun i _ => m - (intOf i).toNat)
    case atStart => exact ⟨0, Nat.zero_le _, rfl, z2, Below.refl _ _⟩
    case round =>
      obtain ⟨k, hk, rfl, hb, hbb⟩ := hrel
      by_cases hlt : k < m
      · have hkl : k < l.length := by have := HM.out; omega
        obtain ⟨b, o, rfl, hbB, hcell⟩ := HR.out (by omega)
        obtain ⟨z, hz⟩ : ∃ z, l[k]? = some z := ⟨_, List.getElem?_eq_getElem hkl⟩
        have g1 : wr.cell? ⟨b, o + k, none⟩ = some (.int .i64 z) := by rw [hb.cell hbB, hcell k hkl]; simp [List.getD, hz]
        have hzr := HL.out z (List.mem_of_getElem? hz)
        have hslr := hide (HX.out.below hb)
        have hsl2 := hide (HS2.out.below hbb)
        obtain ⟨bz, hbz⟩ : ∃ b, hasB xs z = b := ⟨_, rfl⟩
        have HZ := hide hbz
        have hne : (bz != bz) = false := by simp
        clear hcell hz hbz
        go_wp2
        go_quiet ((first | (go_at_call 7; exact has_is A2 n c2 xs z bz _ _ _ hsl2.out HN.out (by omega) WX.out hzr HZ.out) | (go_at_call 8; exact rhas_is A n c xs z bz _ _ _ hslr.out HN.out (by omega) WX.out hzr HZ.out)))
        go_wp2
        all_goals
          go_roundw
          case rel => exact ⟨k + 1, by omega, by go_num, below_drewN hb _, below_drewN hbb _⟩
          case measure => simp [intOf]; omega
      · have HS3 := hide ((HS2.out.below hbb).more hbb.size)
        go_wp2_with (first
          | (go_at_call_of 10 A2; refine (words_yes A2 A n c2 n c xs (w11.drewN q11) _ _ (HS3.out.below x12) (HX.out.below z12) HN.out HN.out (by omega)).mono ?_; rintro e w' ⟨rfl, rfl⟩)
          | (go_at_call 19; refine (count_any A2 n c2 xs (w11.drewN q11) _ (HS3.out.below x12) HN.out (by omega) WX.out).mono ?_; rintro e w' ⟨rfl, rfl⟩)
          | (go_at_call 17; refine (ints_yes A11 A4 _ _ c11 c4 (listL xs) w11 _ _ HS11.out (HS4.out.below y11) rfl rfl (by omega)).mono ?_; rintro e w' ⟨rfl, q11, rfl⟩; have z12 := below_drewN z11 q11; have x12 := below_drewN x11 q11)
          | (go_at_call 18; refine (list_any A2 n c2 xs w10 ((HS3.out.below x10).more x10.size) HN.out (by omega) WX.out (HT.out.below z10 hT0)).mono ?_; rintro e w11 ⟨v11, rfl, ho11, hb11⟩; obtain ⟨A11, c11, rfl, -, -, hs11⟩ := ho11.sl; have HS11 := hide hs11; clear hs11 ho11; have z11 := z10.trans (hb11.mono z10.size); have x11 := x10.trans (hb11.mono x10.size); have y11 := y10.trans (hb11.mono y10.size))
          | (go_at_call_of 10 A9; refine (words_yes A9 A10 _ c9 _ c10 (withoutL xs l) w10 _ _ (HS9.out.below hb10) HS10.out rfl rfl (by omega)).mono ?_; rintro e w' ⟨rfl, rfl⟩)
          | (go_at_call 16; refine (rwithout_any A T n c m d xs l w9 ((HX.out.below z9).more z9.size) HN.out (by omega) WX.out ((HR.out.below z9).more z9.size) HM.out (by omega) HL.out).mono ?_; rintro e w10 ⟨A10, c10, rfl, -, -, hs10, hb10⟩; have HS10 := hide hs10; clear hs10; have z10 := z9.trans (hb10.mono z9.size); have x10 := x9.trans (hb10.mono x9.size); have y10 := y9.trans (hb10.mono y9.size))
          | (go_at_call 15; refine (without_any A2 T n c2 m d xs l w8 ((HS3.out.below x8).more x8.size) HN.out (by omega) WX.out ((HR.out.below z8).more z8.size) HM.out (by omega) HL.out).mono ?_; rintro e w9 ⟨A9, c9, rfl, -, -, hs9, hb9⟩; have HS9 := hide hs9; clear hs9; have z9 := z8.trans (hb9.mono z8.size); have x9 := x8.trans (hb9.mono x8.size); have y9 := y8.trans (hb9.mono y8.size))
          | (go_at_call_of 10 A7; refine (words_yes A7 A8 _ c7 _ c8 (joinL [xs, ofL l]) w8 _ _ (HS7.out.below hb8) HS8.out rfl rfl (by omega)).mono ?_; rintro e w' ⟨rfl, rfl⟩)
          | (go_at_call 14; refine (rwith_any A T n c m d xs l w7 ((HX.out.below z7).more z7.size) HN.out hc hc2 (by omega) WX.out ((HR.out.below z7).more z7.size) HM.out (by omega) HL.out).mono ?_; rw [← hwb.out]; rintro e w8 ⟨A8, c8, rfl, -, -, hs8, hb8⟩; have HS8 := hide hs8; clear hs8; have z8 := z7.trans (hb8.mono z7.size); have x8 := x7.trans (hb8.mono x7.size); have y8 := y7.trans (hb8.mono y7.size))
          | (go_at_call 13; refine (with_any A2 T n c2 m d xs l w6 (good_of ((HS3.out.below x6).more x6.size) WX.out HN.out hc22.1 hc22.2) HN.out (by omega) ((HR.out.below z6).more z6.size) HM.out (by omega) HL.out).mono ?_; rintro e w7 ⟨A7, c7, rfl, -, -, hs7, hb7⟩; have HS7 := hide hs7; clear hs7; have z7 := z6.trans (hb7.mono z6.size); have x7 := x6.trans (hb7.mono x6.size); have y7 := y6.trans (hb7.mono y6.size))
          | (go_at_call_of 10 A5; refine (words_yes A5 A6 _ c5 _ c6 (ofL l) w6 _ _ (HS5.out.below hb6) HS6.out rfl rfl (by omega)).mono ?_; rintro e w' ⟨rfl, rfl⟩)
          | (go_at_call 12; refine (rof_any T m d l w5 ((HR.out.below z5).more z5.size) HM.out (by omega) HL.out).mono ?_; rintro e w6 ⟨A6, c6, rfl, -, -, hs6, hb6⟩; have HS6 := hide hs6; clear hs6; have z6 := z5.trans (hb6.mono z5.size); have x6 := x5.trans (hb6.mono x5.size); have y6 := y5.trans (hb6.mono y5.size))
          | (go_at_call 11; refine (of_any T m d l w4 ((HR.out.below z4).more z4.size) HM.out (by omega) HL.out).mono ?_; rintro e w5 ⟨A5, c5, rfl, -, -, hs5, hb5⟩; have HS5 := hide hs5; clear hs5; have z5 := z4.trans (hb5.mono z4.size); have x5 := hb4.trans (hb5.mono hb4.size); have y5 := hb5)
          | (go_at_call 9; refine (rlist_any A n c xs wr ((HX.out.below hb).more hb.size) HN.out (by omega) WX.out).mono ?_; rintro e w4 ⟨v4, rfl, ho4, hb4⟩; obtain ⟨A4, c4, rfl, -, -, hs4⟩ := ho4.sl; have HS4 := hide hs4; clear hs4 ho4; have z4 := hb.trans (hb4.mono hb.size)))
        all_goals
          go_ret
          exact ⟨rfl, z12⟩
end Go.Proofs.YtechebecgfmplaaDoor
