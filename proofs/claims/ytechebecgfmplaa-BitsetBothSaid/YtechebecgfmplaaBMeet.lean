/- The contract of Meet. No condition. -/
import Derived.Test.YtechebecgfmplaaBSet
import Derived.Test.YtechebecgfmplaaBFoldAnd
namespace Go.Proofs.Ytechebecgfmplaa
open Go.RowKit

set_option maxRecDepth 100000 in
theorem meet_any (A T : Option Addr) (n c m d : Nat) (xs ys : List Nat) (w : World) (hx : Sl w w.heap.size .u64 A (nI xs)) (hy : Sl w w.heap.size .u64 T (nI ys)) (hn : xs.length = n) (hm : ys.length = m) (hc : n ≤ c) (hc2 : c ≤ 9223372036854775807) (hmd : m ≤ d) (hd : d ≤ 9223372036854775807) (hmax : n ≤ 1099511627776) (wx : W64 xs) (wy : W64 ys) :
    Calls Try.prog 11 #[.slice A n c, .slice T m d] w (Made w (meetL xs ys)) := by
  have HX := hide hx
  have HY := hide hy
  have HN := hide hn
  have HM := hide hm
  have WX := hide wx
  have WY := hide wy
  have HF := hide (meet_walk xs ys)
  rw [List.length_take, hn, hm] at HF
  clear hx hy hn hm wx wy
  obtain ⟨k, hk⟩ : ∃ k, k = min n m := ⟨_, rfl⟩
  have hkn : k ≤ n := by omega
  have hkm : k ≤ m := by omega
  have hlk := hide (show (xs.take k).length = k by rw [List.length_take, HN.out]; omega)
  have hfk := hide (show neat (foldW (· &&& ·) (xs.take k) ys (min k m)) = meetL xs ys by
    rw [← HF.out, hk, show min (min (min n m) n) m = min (min n m) m by omega])
  have hkb : (n ≤ m ∧ k = n) ∨ (m < n ∧ k = m) := by omega
  clear HF hk
  rcases hkb with ⟨hb, he⟩ | ⟨hb, he⟩
  all_goals
    subst he
    go_enter Try.func11, Try.ntmps11
    go_wp2_with (first
      | (go_at_call 28; refine (clone_any A _ c (xs.take k) w _ (by rw [nI_take]; exact HX.out.take _) hlk.out (Nat.le_refl _) (by omega)).mono ?_; rintro e w1 ⟨v1, rfl, ho1, hb1⟩; obtain ⟨A1, c1, rfl, -, -, -⟩ := ho1.sl; have HO1 := hide ho1; clear ho1)
      | (go_at_call 24; refine (fold_and A1 T _ c1 _ d (xs.take k) ys w1 w.heap.size HO1.out (HY.out.below hb1) HM.out (by omega) hd (by rw [nI_len, hlk.out]; omega) (WX.out.take _) WY.out).mono ?_; rw [nI_len, hlk.out]; rintro e w2 ⟨rfl, ho2, hb2⟩; have HO2 := hide ho2; clear ho2; have hc2 := hb1.trans hb2)
      | (go_at_call 26; refine (trim_any A1 _ c1 _ w2 _ HO2.out.trimmed.2.2.2.1 HO2.out.trimmed.1 HO2.out.trimmed.2.1 HO2.out.trimmed.2.2.1).mono ?_; rw [hfk.out]; rintro e w' ⟨rfl, rfl⟩))
    go_ret
    have h := HO2.out.trimmed
    rw [hfk.out] at h
    have hl : (meetL xs ys).length ≤ k := by
      rw [← hfk.out]
      refine Nat.le_trans (neat_le _) ?_
      rw [foldW_len, hlk.out]; exact Nat.le_refl _
    exact ⟨A1, c1, rfl, by have := h.2.1; omega, h.2.2.1, h.2.2.2.2, hc2⟩
end Go.Proofs.Ytechebecgfmplaa
