/- The contracts of slices.EqualFunc at Ins, Block, Func, of sameBlock, sameFunc, Same. No condition. -/
import Derived.Test.YtpgljbjgbjjcnaaDoorCEq
set_option linter.unusedSimpArgs false
set_option linter.unusedVariables false
namespace Go.Proofs.YtpgljbjgbjjcnaaDoor
open Go.RowKit

theorem list_ne {α : Type} {xs ys : List α} {k : Nat} {x y : α} (h1 : xs[k]? = some x) (h2 : ys[k]? = some y) (hxy : ¬ x = y) : ¬ xs = ys := fun h => by
  rw [h, h2] at h1
  exact hxy (Option.some.inj h1).symm
theorem take_more {α : Type} {xs ys : List α} {k : Nat} {x : α} (h : xs.take k = ys.take k) (h1 : xs[k]? = some x) (h2 : ys[k]? = some x) : xs.take (k + 1) = ys.take (k + 1) := by
  rw [List.take_add_one, List.take_add_one, h, h1, h2]

set_option maxRecDepth 100000 in
theorem eqIns_any (va vb : Value) (xs ys : List InsV) (w : World) (B : Nat) (hB : B ≤ w.heap.size) (hx : InssV w (· < B) va xs) (hy : InssV w (· < B) vb ys) :
    Calls Tryd.prog 110 #[va, vb, .func (.func 105) #[] #[]] w fun e w' => e = .returned (.bool (decide (xs = ys))) ∧ Below w.heap.size w w' := by
  obtain ⟨A, c, rfl, hc, hcm⟩ := hx.open'
  obtain ⟨A', c', rfl, hc', hcm'⟩ := hy.open'
  obtain ⟨n, hn⟩ : ∃ n, xs.length = n := ⟨_, rfl⟩
  obtain ⟨m, hm⟩ : ∃ m, ys.length = m := ⟨_, rfl⟩
  rw [hn] at hx hc ⊢
  rw [hm] at hy hc' ⊢
  by_cases hne : n = m
  · subst hne
    have HX := hide hx
    have HY := hide hy
    have HN := hide hn
    have HM := hide hm
    clear hx hy hn hm
    go_enter Tryd.func110, Tryd.ntmps110
    go_wp2
    go_loopw [17] (fun i wr => ∃ k : Nat, k ≤ n ∧ i = .int .i64 k ∧ Hid (xs.take k = ys.take k) ∧ Below w.heap.size w wr) (fun i _ => n - (intOf i).toNat)
    case atStart => exact ⟨0, Nat.zero_le _, rfl, hide (by simp), Below.refl _ _⟩
    case round =>
      obtain ⟨k, hk, rfl, he, hb⟩ := hrel
      have hsz := hb.size
      by_cases hlt : k < n
      · obtain ⟨x, hxx⟩ : ∃ x, xs[k]? = some x := ⟨_, List.getElem?_eq_getElem (by have := HN.out; omega)⟩
        obtain ⟨y, hyy⟩ : ∃ y, ys[k]? = some y := ⟨_, List.getElem?_eq_getElem (by have := HM.out; omega)⟩
        obtain ⟨b1, o1, A1, c1, rfl, hb1', ⟨e10, e11, e12, e13, e14, e15, e16⟩, hi1⟩ := (HX.out.keep (up hb hB) (fun _ h => h)).get hxx
        obtain ⟨b2, o2, A2, c2, rfl, hb2', ⟨e20, e21, e22, e23, e24, e25, e26⟩, hi2⟩ := (HY.out.keep (up hb hB) (fun _ h => h)).get hyy
        have hs1 : b1 < wr.heap.size := by omega
        have hs2 : b2 < wr.heap.size := by omega
        have H1 := hide hxx
        have H2 := hide hyy
        have hC := fun (W : World) (hW : Below wr.heap.size wr W) => sameIns_any (.slice A1 x.args.length c1) (.slice A2 y.args.length c2) x y W B (by have := hW.size; omega) (hi1.1.keep (up hW (by omega)) (fun _ h => h)) (hi2.1.keep (up hW (by omega)) (fun _ h => h))
        generalize x.args.length = l1 at *
        generalize y.args.length = l2 at *
        clear hxx hyy
        by_cases hxy : x = y
        · have ht := hide (take_more he.out H1.out (by rw [hxy]; exact H2.out))
          rw [decide_eq_true hxy] at hC
          have HC := hide hC
          clear hC hxy
          go_wp2_with (go_at_call 105; refine (HC.out _ (alloc2 wr _ _)).mono ?_; rintro e w1 ⟨rfl, hb1⟩)
          have hb2 := (alloc2 wr (.cells #[.int .i64 x.op, .int .i64 x.d, .int .i64 x.a, .int .i64 x.b, .int .i64 x.n, .int .i64 x.m, .slice A1 l1 c1] 47) (.cells #[.int .i64 y.op, .int .i64 y.d, .int .i64 y.a, .int .i64 y.b, .int .i64 y.n, .int .i64 y.m, .slice A2 l2 c2] 47)).trans (hb1.mono (by simp <;> omega))
          go_roundw
          case rel => exact ⟨k + 1, by omega, by go_num, ht, hb.trans (hb2.mono hsz)⟩
          case measure => simp [intOf]; omega
        · have hd := hide (decide_eq_false (list_ne H1.out H2.out hxy))
          rw [decide_eq_false hxy] at hC
          have HC := hide hC
          clear hC hxy
          go_wp2_with (go_at_call 105; refine (HC.out _ (alloc2 wr _ _)).mono ?_; rintro e w1 ⟨rfl, hb1⟩)
          have hb2 := (alloc2 wr (.cells #[.int .i64 x.op, .int .i64 x.d, .int .i64 x.a, .int .i64 x.b, .int .i64 x.n, .int .i64 x.m, .slice A1 l1 c1] 47) (.cells #[.int .i64 y.op, .int .i64 y.d, .int .i64 y.a, .int .i64 y.b, .int .i64 y.n, .int .i64 y.m, .slice A2 l2 c2] 47)).trans (hb1.mono (by simp <;> omega))
          go_ret
          exact ⟨ret_bool hd.out.symm, hb.trans (hb2.mono hsz)⟩
      · have hd := hide (decide_eq_true (show xs = ys by
          have h := he.out
          rwa [List.take_of_length_le (by have := HN.out; omega), List.take_of_length_le (by have := HM.out; omega)] at h))
        go_wp2
        go_ret
        exact ⟨ret_bool hd.out.symm, hb⟩
  · have hd := hide (decide_eq_false (show ¬ xs = ys from fun h => by rw [h] at hn; omega))
    have hb : (((n : Nat) : Int) != ((m : Nat) : Int)) = true := by simp; omega
    clear hn hm hne hx hy
    go_enter Tryd.func110, Tryd.ntmps110
    go_wp2
    go_ret
    exact ⟨ret_bool hd.out.symm, Below.refl _ _⟩

theorem sameBlock_any (va vb : Value) (x y : List InsV) (w : World) (B : Nat) (hB : B ≤ w.heap.size) (hx : InssV w (· < B) va x) (hy : InssV w (· < B) vb y) :
    Calls Tryd.prog 81 #[.agg #[va], .agg #[vb]] w fun e w' => e = .returned (.bool (decide (x = y))) ∧ Below w.heap.size w w' := by
  have hE := fun (W : World) (hW : Below w.heap.size w W) => eqIns_any va vb x y W B (by have := hW.size; omega) (hx.keep (up hW hB) (fun _ h => h)) (hy.keep (up hW hB) (fun _ h => h))
  obtain ⟨A, c, rfl, -, -⟩ := hx.open'
  obtain ⟨A', c', rfl, -, -⟩ := hy.open'
  have HE := hide hE
  generalize x.length = lx at *
  generalize y.length = ly at *
  clear hE hx hy
  go_enter Tryd.func81, Tryd.ntmps81
  go_wp2_with (go_at_call 110; refine (HE.out _ (alloc2 w _ _)).mono ?_; rintro e w1 ⟨rfl, hb1⟩)
  go_ret
  exact ⟨rfl, (alloc2 w _ _).trans (hb1.mono (by simp <;> omega))⟩

set_option maxRecDepth 100000 in
theorem eqBlk_any (va vb : Value) (xs ys : List (List InsV)) (w : World) (B : Nat) (hB : B ≤ w.heap.size) (hx : BlksV w (· < B) va xs) (hy : BlksV w (· < B) vb ys) :
    Calls Tryd.prog 80 #[va, vb, .func (.func 81) #[] #[]] w fun e w' => e = .returned (.bool (decide (xs = ys))) ∧ Below w.heap.size w w' := by
  obtain ⟨A, c, rfl, hc, hcm⟩ := hx.open'
  obtain ⟨A', c', rfl, hc', hcm'⟩ := hy.open'
  obtain ⟨n, hn⟩ : ∃ n, xs.length = n := ⟨_, rfl⟩
  obtain ⟨m, hm⟩ : ∃ m, ys.length = m := ⟨_, rfl⟩
  rw [hn] at hx hc ⊢
  rw [hm] at hy hc' ⊢
  by_cases hne : n = m
  · subst hne
    have HX := hide hx
    have HY := hide hy
    have HN := hide hn
    have HM := hide hm
    clear hx hy hn hm
    go_enter Tryd.func80, Tryd.ntmps80
    go_wp2
    go_loopw [17] (fun i wr => ∃ k : Nat, k ≤ n ∧ i = .int .i64 k ∧ Hid (xs.take k = ys.take k) ∧ Below w.heap.size w wr) (fun i _ => n - (intOf i).toNat)
    case atStart => exact ⟨0, Nat.zero_le _, rfl, hide (by simp), Below.refl _ _⟩
    case round =>
      obtain ⟨k, hk, rfl, he, hb⟩ := hrel
      have hsz := hb.size
      by_cases hlt : k < n
      · obtain ⟨x, hxx⟩ : ∃ x, xs[k]? = some x := ⟨_, List.getElem?_eq_getElem (by have := HN.out; omega)⟩
        obtain ⟨y, hyy⟩ : ∃ y, ys[k]? = some y := ⟨_, List.getElem?_eq_getElem (by have := HM.out; omega)⟩
        obtain ⟨b1, o1, A1, c1, rfl, hb1', e10, hi1⟩ := (HX.out.keep (up hb hB) (fun _ h => h)).get hxx
        obtain ⟨b2, o2, A2, c2, rfl, hb2', e20, hi2⟩ := (HY.out.keep (up hb hB) (fun _ h => h)).get hyy
        have hs1 : b1 < wr.heap.size := by omega
        have hs2 : b2 < wr.heap.size := by omega
        have H1 := hide hxx
        have H2 := hide hyy
        have hC := fun (W : World) (hW : Below wr.heap.size wr W) => sameBlock_any (.slice A1 x.length c1) (.slice A2 y.length c2) x y W B (by have := hW.size; omega) (hi1.keep (up hW (by omega)) (fun _ h => h)) (hi2.keep (up hW (by omega)) (fun _ h => h))
        generalize x.length = l1 at *
        generalize y.length = l2 at *
        clear hxx hyy
        by_cases hxy : x = y
        · have ht := hide (take_more he.out H1.out (by rw [hxy]; exact H2.out))
          rw [decide_eq_true hxy] at hC
          have HC := hide hC
          clear hC hxy
          go_wp2_with (go_at_call 81; refine (HC.out _ (alloc2 wr _ _)).mono ?_; rintro e w1 ⟨rfl, hb1⟩)
          have hb2 := (alloc2 wr (.cells #[.slice A1 l1 c1] 56) (.cells #[.slice A2 l2 c2] 56)).trans (hb1.mono (by simp <;> omega))
          go_roundw
          case rel => exact ⟨k + 1, by omega, by go_num, ht, hb.trans (hb2.mono hsz)⟩
          case measure => simp [intOf]; omega
        · have hd := hide (decide_eq_false (list_ne H1.out H2.out hxy))
          rw [decide_eq_false hxy] at hC
          have HC := hide hC
          clear hC hxy
          go_wp2_with (go_at_call 81; refine (HC.out _ (alloc2 wr _ _)).mono ?_; rintro e w1 ⟨rfl, hb1⟩)
          have hb2 := (alloc2 wr (.cells #[.slice A1 l1 c1] 56) (.cells #[.slice A2 l2 c2] 56)).trans (hb1.mono (by simp <;> omega))
          go_ret
          exact ⟨ret_bool hd.out.symm, hb.trans (hb2.mono hsz)⟩
      · have hd := hide (decide_eq_true (show xs = ys by
          have h := he.out
          rwa [List.take_of_length_le (by have := HN.out; omega), List.take_of_length_le (by have := HM.out; omega)] at h))
        go_wp2
        go_ret
        exact ⟨ret_bool hd.out.symm, hb⟩
  · have hd := hide (decide_eq_false (show ¬ xs = ys from fun h => by rw [h] at hn; omega))
    have hb : (((n : Nat) : Int) != ((m : Nat) : Int)) = true := by simp; omega
    clear hn hm hne hx hy
    go_enter Tryd.func80, Tryd.ntmps80
    go_wp2
    go_ret
    exact ⟨ret_bool hd.out.symm, Below.refl _ _⟩
end Go.Proofs.YtpgljbjgbjjcnaaDoor
