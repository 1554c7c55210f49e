/- The contracts of fold, by what a closure says of two words, and of reaches, bit and the closures. No condition. -/
import Derived.Test.YtechebecgfmplaaDoorBBase
namespace Go.Proofs.YtechebecgfmplaaDoor
open Go.RowKit

theorem or_word (x y : Nat) (w : World) (hx : x < 18446744073709551616) (hy : y < 18446744073709551616) :
    Calls Tryd.prog 37 #[.int .u64 (x : Int), .int .u64 (y : Int)] w fun e w' => e = .returned (.int .u64 ((x ||| y : Nat) : Int)) ∧ w = w' := by
  have h := hide (u64_or_nat x y hx hy)
  go_enter Tryd.func37, Tryd.ntmps37
  go_wp2
  go_ret
  exact ⟨ret_int h.out, rfl⟩
theorem andN_word (x y : Nat) (w : World) (hx : x < 18446744073709551616) (hy : y < 18446744073709551616) :
    Calls Tryd.prog 38 #[.int .u64 (x : Int), .int .u64 (y : Int)] w fun e w' => e = .returned (.int .u64 ((andN x y : Nat) : Int)) ∧ w = w' := by
  have h := hide (u64_andNot_nat x y hx hy)
  go_enter Tryd.func38, Tryd.ntmps38
  go_wp2
  go_ret
  exact ⟨ret_int h.out, rfl⟩

set_option maxRecDepth 100000 in
theorem fold_or
    (A T : Option Addr) (n c m d : Nat) (xs ys : List Nat) (w : World) (base : Nat) (ho : Ow w base 34 .u64 (.slice A n c) (nI xs)) (hr : Sl w base .u64 T (nI ys)) (hm : ys.length = m) (hmd : m ≤ d) (hmax : d ≤ 9223372036854775807) (hmax2 : n ≤ 4611686018427387904) (ha : W64 xs) (hb : W64 ys) :
    Calls Tryd.prog 36 #[.slice A n c, .slice T m d, .func (.func 37) #[] #[]] w fun e w' => e = .returned (.tuple #[]) ∧ Ow w' base 34 .u64 (.slice A n c) (nI (foldW (· ||| ·) xs ys (min n m))) ∧ Below base w w' := by
  have hn : xs.length = n := by have := ho.len.1; rwa [nI_len] at this
  have HN := hide hn
  have HM := hide hm
  have HO := hide ho
  have HR := hide hr
  have HA := hide ha
  have HB := hide hb
  clear hn hm ho hr ha hb
  go_enter Tryd.func36, Tryd.ntmps36
  go_wp2
  all_goals
    go_loopw [16] (fun i wr => ∃ k : Nat, k ≤ min n m ∧ i = .int .i64 (k : Int) ∧ Ow wr base 34 .u64 (.slice A n c) (nI (foldW (· ||| ·) xs ys k)) ∧ Below base w wr) (fun i _ => min n m - (intOf i).toNat)
    case atStart => exact ⟨0, Nat.zero_le _, rfl, by rw [foldW_zero]; exact HO.out, Below.refl _ _⟩
    case round =>
      obtain ⟨k, hk, rfl, hok, hbk⟩ := hrel
      by_cases hlt : k < min n m
      · obtain ⟨g, rfl, hg1, hg2, hcell, hfrz⟩ := hok.block (by rw [nI_len, foldW_len]; have := HN.out; omega)
        obtain ⟨b2, o2, rfl, hb2, hc2⟩ := HR.out (by rw [nI_len]; have := HM.out; omega)
        have hkx : k < xs.length := by have := HN.out; omega
        have hky : k < ys.length := by have := HM.out; omega
        have hx := HA.out.getD k
        have hy := HB.out.getD k
        have g1 : wr.cell? ⟨g, k, none⟩ = some (.int .u64 ((xs.getD k 0 : Nat) : Int)) := hcell k _ (by rw [nI, List.getElem?_map, foldW_get hkx]; rfl)
        have g2 : wr.cell? ⟨b2, o2 + k, none⟩ = some (.int .u64 ((ys.getD k 0 : Nat) : Int)) := by rw [hbk.cell hb2, hc2 k (by rw [nI_len]; exact hky), nI_getD]
        have g3 : wr.frozen? ⟨g, k, none⟩ = false := hfrz k
        have hst := hok.stored k ((xs.getD k 0 ||| ys.getD k 0 : Nat) : Int)
        rw [← nI_set, foldW_step (f := (· ||| ·)) hkx] at hst
        have hbst := hbk.setCell (p := ⟨g, k, none⟩) hg1 (.int .u64 ((xs.getD k 0 ||| ys.getD k 0 : Nat) : Int))
        generalize hgx : xs.getD k 0 = x at *
        generalize hgy : ys.getD k 0 = y at *
        have HST := hide hst
        have HBST := hide hbst
        clear hcell hfrz hc2 hkx hky hgx hgy hst hbst hok hbk
        go_wp2_with (go_at_call 37; refine (or_word x y _ hx hy).mono ?_; rintro e w' ⟨rfl, rfl⟩)
        go_roundw
        case rel => exact ⟨k + 1, by omega, by go_num, HST.out, HBST.out⟩
        case measure => simp [intOf]; omega
      · have hk2 : min n m = k := by omega
        have HK := hide hk2
        have HOK := hide hok
        clear hk2 hok
        go_wp2
        go_end0
        exact ⟨rfl, by rw [HK.out]; exact HOK.out, hbk⟩

set_option maxRecDepth 100000 in
theorem fold_less
    (A T : Option Addr) (n c m d : Nat) (xs ys : List Nat) (w : World) (base : Nat) (ho : Ow w base 34 .u64 (.slice A n c) (nI xs)) (hr : Sl w base .u64 T (nI ys)) (hm : ys.length = m) (hmd : m ≤ d) (hmax : d ≤ 9223372036854775807) (hmax2 : n ≤ 4611686018427387904) (ha : W64 xs) (hb : W64 ys) :
    Calls Tryd.prog 36 #[.slice A n c, .slice T m d, .func (.func 38) #[] #[]] w fun e w' => e = .returned (.tuple #[]) ∧ Ow w' base 34 .u64 (.slice A n c) (nI (foldW andN xs ys (min n m))) ∧ Below base w w' := by
  have hn : xs.length = n := by have := ho.len.1; rwa [nI_len] at this
  have HN := hide hn
  have HM := hide hm
  have HO := hide ho
  have HR := hide hr
  have HA := hide ha
  have HB := hide hb
  clear hn hm ho hr ha hb
  go_enter Tryd.func36, Tryd.ntmps36
  go_wp2
  all_goals
    go_loopw [16] (fun i wr => ∃ k : Nat, k ≤ min n m ∧ i = .int .i64 (k : Int) ∧ Ow wr base 34 .u64 (.slice A n c) (nI (foldW andN xs ys k)) ∧ Below base w wr) (fun i _ => min n m - (intOf i).toNat)
    case atStart => exact ⟨0, Nat.zero_le _, rfl, by rw [foldW_zero]; exact HO.out, Below.refl _ _⟩
    case round =>
      obtain ⟨k, hk, rfl, hok, hbk⟩ := hrel
      by_cases hlt : k < min n m
      · obtain ⟨g, rfl, hg1, hg2, hcell, hfrz⟩ := hok.block (by rw [nI_len, foldW_len]; have := HN.out; omega)
        obtain ⟨b2, o2, rfl, hb2, hc2⟩ := HR.out (by rw [nI_len]; have := HM.out; omega)
        have hkx : k < xs.length := by have := HN.out; omega
        have hky : k < ys.length := by have := HM.out; omega
        have hx := HA.out.getD k
        have hy := HB.out.getD k
        have g1 : wr.cell? ⟨g, k, none⟩ = some (.int .u64 ((xs.getD k 0 : Nat) : Int)) := hcell k _ (by rw [nI, List.getElem?_map, foldW_get hkx]; rfl)
        have g2 : wr.cell? ⟨b2, o2 + k, none⟩ = some (.int .u64 ((ys.getD k 0 : Nat) : Int)) := by rw [hbk.cell hb2, hc2 k (by rw [nI_len]; exact hky), nI_getD]
        have g3 : wr.frozen? ⟨g, k, none⟩ = false := hfrz k
        have hst := hok.stored k ((andN (xs.getD k 0) (ys.getD k 0) : Nat) : Int)
        rw [← nI_set, foldW_step (f := andN) hkx] at hst
        have hbst := hbk.setCell (p := ⟨g, k, none⟩) hg1 (.int .u64 ((andN (xs.getD k 0) (ys.getD k 0) : Nat) : Int))
        generalize hgx : xs.getD k 0 = x at *
        generalize hgy : ys.getD k 0 = y at *
        have HST := hide hst
        have HBST := hide hbst
        clear hcell hfrz hc2 hkx hky hgx hgy hst hbst hok hbk
        go_wp2_with (go_at_call 38; refine (andN_word x y _ hx hy).mono ?_; rintro e w' ⟨rfl, rfl⟩)
        go_roundw
        case rel => exact ⟨k + 1, by omega, by go_num, HST.out, HBST.out⟩
        case measure => simp [intOf]; omega
      · have hk2 : min n m = k := by omega
        have HK := hide hk2
        have HOK := hide hok
        clear hk2 hok
        go_wp2
        go_end0
        exact ⟨rfl, by rw [HK.out]; exact HOK.out, hbk⟩
end Go.Proofs.YtechebecgfmplaaDoor
