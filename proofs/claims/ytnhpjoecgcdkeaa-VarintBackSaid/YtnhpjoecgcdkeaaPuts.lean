/- The statement VarintPuts, walked: it answers true. No condition (more than 2000 bytes: at once). -/
import Derived.Test.YtnhpjoecgcdkeaaRef
namespace Go.Proofs.Ytnhpjoecgcdkeaa
open Go.RowKit

/-- Two slices of the same bytes are the same. -/
theorem same_yes (A B : Option Addr) (n m c d : Nat) (xs : List Int) (w : World) (Bx By : Nat) (hx : Sl w Bx .u8 A xs) (hy : Sl w By .u8 B xs) (hn : xs.length = n) (hm : xs.length = m) (hmax : n ≤ 4611686018427387904) (hmax2 : m ≤ 4611686018427387904) :
    Calls Try.prog 8 #[.slice A n c, .slice B m d] w fun e w' => e = .returned (.bool true) ∧ ∃ q, w' = w.drewN q :=
  (same_any A B n m c d xs xs w Bx By hx hy hn hm hmax hmax2).mono fun e w' ⟨he, hw⟩ => ⟨by rw [he]; simp, hw⟩

set_option maxRecDepth 100000 in
theorem puts_law (A : Option Addr) (n c : Nat) (zs : List Int) (x : Int) (w : World) (hr : Sl w w.heap.size .u8 A zs) (hn : zs.length = n) (hmax : n ≤ 9223372036854775807) (hx : -9223372036854775808 ≤ x ∧ x ≤ 9223372036854775807) :
    Calls Try.prog 3 #[.slice A n c, .int .i64 x] w fun e w' => e = .returned (.bool true) ∧ Below w.heap.size w w' := by
  have HR := hide hr
  have HN := hide hn
  clear hr hn
  by_cases h2000 : 2000 < n
  · go_enter Try.func3, Try.ntmps3
    go_wp2_with (go_at_call 7; refine (alive_any _).mono ?_; rintro e w1 ⟨rfl, hb1⟩)
    go_ret
    exact ⟨rfl, hb1⟩
  · have hl1 : (encI x).length ≤ 10 := by
      unfold encI; split
      · simp
      · exact enc_len10 (by omega)
    have hl2 := enc_len10 (zz_lt hx)
    have HX := hide hx
    go_enter Try.func3, Try.ntmps3
    go_wp2_with (first | (go_at_call 7; refine (alive_any _).mono ?_; rintro e w1 ⟨rfl, hb1⟩) | (go_at_call 9; refine (put_any A n c zs x w1 ((HR.out.below hb1).more hb1.size) HN.out (by omega) HX.out).mono ?_; rintro e w2 ⟨v2, rfl, ho2, hb2⟩; obtain ⟨A2, c2, rfl, -, -, hs2⟩ := ho2.sl; have HS2 := hide hs2; clear ho2 hs2; have hc2 := hb1.trans (hb2.mono hb1.size)) | (go_at_call 10; refine (rput_any A n c zs x w2 ((HR.out.below hc2).more hc2.size) HN.out (by omega) HX.out).mono ?_; rintro e w3 ⟨v3, rfl, ho3, hb3⟩; obtain ⟨A3, c3, rfl, -, -, hs3⟩ := ho3.sl; have HS3 := hide hs3; clear ho3 hs3; have hc3 := hc2.trans (hb3.mono hc2.size)) | (go_at_call 8; refine (same_yes A5 A6 _ _ c5 c6 _ w6 _ _ (HS5.out.below hb6) HS6.out (by simp) (by simp) (by have := HN.out; simp; omega) (by have := HN.out; simp; omega)).mono ?_; rintro e w' ⟨rfl, q2, rfl⟩; have hc7 := below_drewN hc6 q2) | (go_at_call 8; refine (same_yes A2 A3 _ _ c2 c3 _ w3 _ _ (HS2.out.below hb3) HS3.out (by simp) (by simp) (by have := HN.out; simp; omega) (by have := HN.out; simp; omega)).mono ?_; rintro e w' ⟨rfl, q, rfl⟩; have hc4 := below_drewN hc3 q) | (go_at_call 11; refine (puts_any A n c zs x (w3.drewN q) ((HR.out.below hc4).more hc4.size) HN.out (by omega) HX.out).mono ?_; rintro e w5 ⟨v5, rfl, ho5, hb5⟩; obtain ⟨A5, c5, rfl, -, -, hs5⟩ := ho5.sl; have HS5 := hide hs5; clear ho5 hs5; have hc5 := hc4.trans (hb5.mono hc4.size)) | (go_at_call 12; refine (rputs_any A n c zs x w5 ((HR.out.below hc5).more hc5.size) HN.out (by omega) HX.out).mono ?_; rintro e w6 ⟨v6, rfl, ho6, hb6⟩; obtain ⟨A6, c6, rfl, -, -, hs6⟩ := ho6.sl; have HS6 := hide hs6; clear ho6 hs6; have hc6 := hc5.trans (hb6.mono hc5.size)) | (go_at_call 13; refine (size_any x _ HX.out).mono ?_; rintro e w' ⟨rfl, rfl⟩) | (go_at_call 14; refine (rsize_any x _ HX.out).mono ?_; rintro e w8 ⟨rfl, hb8⟩; have hc8 := hc7.trans (hb8.mono hc7.size)))
    all_goals
      go_ret
      exact ⟨rfl, hc8⟩
end Go.Proofs.Ytnhpjoecgcdkeaa
