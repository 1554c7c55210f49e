/- The contracts of sameFunc, slices.EqualFunc at Func, Same. No condition. -/
import Derived.Test.YtpgljbjgbjjcnaaDoorCEqF
set_option linter.unusedSimpArgs false
set_option linter.unusedVariables false
namespace Go.Proofs.YtpgljbjgbjjcnaaDoor
open Go.RowKit

theorem fun_eq (x y : FunV) : decide (x = y) = (decide (x.params = y.params) && (decide (x.result = y.result) && (decide (x.kinds = y.kinds) && (decide (x.base = y.base) && decide (x.blocks = y.blocks))))) := by
  obtain ⟨k, b, p, r, l⟩ := x
  obtain ⟨k', b', p', r', l'⟩ := y
  rw [Bool.eq_iff_iff]
  simp
  constructor
  · rintro ⟨h1, h2, h3, h4, h5⟩; exact ⟨h3, h4, h1, h2, h5⟩
  · rintro ⟨h3, h4, h1, h2, h5⟩; exact ⟨h1, h2, h3, h4, h5⟩

set_option maxRecDepth 100000 in
theorem sameFunc_any (va vb vc ua ub uc : Value) (x y : FunV) (w : World) (B : Nat) (hB : B ≤ w.heap.size) (hx : FunI w (· < B) va vb vc x) (hy : FunI w (· < B) ua ub uc y) :
    Calls Tryd.prog 48 #[.agg #[va, vb, .int .i64 x.params, .int .i64 x.result, vc], .agg #[ua, ub, .int .i64 y.params, .int .i64 y.result, uc]] w fun e w' => e = .returned (.bool (decide (x = y))) ∧ Below w.heap.size w w' := by
  obtain ⟨hk, hb, hs, -, -⟩ := hx
  obtain ⟨jk, jb, js, -, -⟩ := hy
  have h1 := fun (W : World) (hW : Below w.heap.size w W) => equal_any va ua x.kinds y.kinds W B (hk.keep (up hW hB) (fun _ h => h)) (jk.keep (up hW hB) (fun _ h => h))
  have h2 := fun (W : World) (hW : Below w.heap.size w W) => equal_any vb ub x.base y.base W B (hb.keep (up hW hB) (fun _ h => h)) (jb.keep (up hW hB) (fun _ h => h))
  have h3 := fun (W : World) (hW : Below w.heap.size w W) => eqBlk_any vc uc x.blocks y.blocks W B (by have := hW.size; omega) (hs.keep (up hW hB) (fun _ h => h)) (js.keep (up hW hB) (fun _ h => h))
  obtain ⟨A1, c1, rfl, -, -⟩ := hk.open'
  obtain ⟨A2, c2, rfl, -, -⟩ := hb.open'
  obtain ⟨A3, c3, rfl, -, -⟩ := hs.open'
  obtain ⟨A4, c4, rfl, -, -⟩ := jk.open'
  obtain ⟨A5, c5, rfl, -, -⟩ := jb.open'
  obtain ⟨A6, c6, rfl, -, -⟩ := js.open'
  rw [fun_eq]
  generalize x.params = p0, x.result = p1, y.params = q0, y.result = q1 at *
  generalize x.kinds.length = l1 at *
  generalize x.base.length = l2 at *
  generalize x.blocks.length = l3 at *
  generalize y.kinds.length = l4 at *
  generalize y.base.length = l5 at *
  generalize y.blocks.length = l6 at *
  generalize decide (x.kinds = y.kinds) = b1 at *
  generalize decide (x.base = y.base) = b2 at *
  generalize decide (x.blocks = y.blocks) = b3 at *
  clear hk hb hs jk jb js
  by_cases g0 : p0 = q0
  · subst g0
    by_cases g1 : p1 = q1
    · subst g1
      cases b1 with
      | false =>
        have H1 := hide h1
        clear h1 h2 h3
        go_enter Tryd.func48, Tryd.ntmps48
        go_wp2_with (go_at_call 79; refine (H1.out _ (alloc2 w _ _)).mono ?_; rintro e w' ⟨rfl, q, rfl⟩)
        go_ret
        exact ⟨by simp, below_alloc2_drewN _ _ _⟩
      | true =>
        cases b2 with
        | false =>
          have H1 := hide h1
          have H2 := hide h2
          clear h1 h2 h3
          go_enter Tryd.func48, Tryd.ntmps48
          go_wp2_with (first
            | (go_at_call 79; (with_reducible refine (H1.out _ (alloc2 w _ _)).mono ?_); rintro e w' ⟨rfl, q, rfl⟩)
            | (go_at_call 79; refine (H2.out _ (below_alloc2_drewN _ _ _)).mono ?_; rintro e w' ⟨rfl, q2, rfl⟩))
          go_ret
          exact ⟨by simp, below_alloc2_drewN _ _ _⟩
        | true =>
          have H1 := hide h1
          have H2 := hide h2
          have H3 := hide h3
          clear h1 h2 h3
          go_enter Tryd.func48, Tryd.ntmps48
          go_wp2_with (first
            | (go_at_call 79; (with_reducible refine (H1.out _ (alloc2 w _ _)).mono ?_); rintro e w' ⟨rfl, q, rfl⟩)
            | (go_at_call 79; refine (H2.out _ (below_alloc2_drewN _ _ _)).mono ?_; rintro e w' ⟨rfl, q2, rfl⟩)
            | (go_at_call 80; refine (H3.out _ (below_alloc2_drewN _ _ _)).mono ?_; rintro e w1 ⟨rfl, hb1⟩))
          go_ret
          exact ⟨by simp, (below_alloc2_drewN _ _ _).trans (hb1.mono (by simp <;> omega))⟩
    · have hb' : (p1 == q1) = false := by simpa using g1
      have hd : decide (p1 = q1) = false := by simpa using g1
      clear g1 h1 h2 h3
      go_enter Tryd.func48, Tryd.ntmps48
      go_wp2
      go_ret
      exact ⟨by simp [hd], alloc2 w _ _⟩
  · have hb' : (p0 == q0) = false := by simpa using g0
    have hd : decide (p0 = q0) = false := by simpa using g0
    clear g0 h1 h2 h3
    go_enter Tryd.func48, Tryd.ntmps48
    go_wp2
    go_ret
    exact ⟨by simp [hd], alloc2 w _ _⟩

set_option maxRecDepth 100000 in
theorem eqFun_any (va vb : Value) (xs ys : List FunV) (w : World) (B : Nat) (hB : B ≤ w.heap.size) (hx : FunsV w (· < B) va xs) (hy : FunsV w (· < B) vb ys) :
    Calls Tryd.prog 47 #[va, vb, .func (.func 48) #[] #[]] w fun e w' => e = .returned (.bool (decide (xs = ys))) ∧ Below w.heap.size w w' := by
  obtain ⟨A, c, rfl, hc, hcm⟩ := hx.open'
  obtain ⟨A', c', rfl, hc', hcm'⟩ := hy.open'
  obtain ⟨n, hn⟩ : ∃ n, xs.length = n := ⟨_, rfl⟩
  obtain ⟨m, hm⟩ : ∃ m, ys.length = m := ⟨_, rfl⟩
  rw [hn] at hx hc ⊢
  rw [hm] at hy hc' ⊢
  by_cases hne : n = m
  · subst hne
    have HX := hide hx
    have HY := hide hy
    have HN := hide hn
    have HM := hide hm
    clear hx hy hn hm
    go_enter Tryd.func47, Tryd.ntmps47
    go_wp2
    go_loopw [17] (fun i wr => ∃ k : Nat, k ≤ n ∧ i = .int .i64 k ∧ Hid (xs.take k = ys.take k) ∧ Below w.heap.size w wr) (fun i _ => n - (intOf i).toNat)
    case atStart => exact ⟨0, Nat.zero_le _, rfl, hide (by simp), Below.refl _ _⟩
    case round =>
      obtain ⟨k, hk, rfl, he, hb⟩ := hrel
      have hsz := hb.size
      by_cases hlt : k < n
      · obtain ⟨x, hxx⟩ : ∃ x, xs[k]? = some x := ⟨_, List.getElem?_eq_getElem (by have := HN.out; omega)⟩
        obtain ⟨y, hyy⟩ : ∃ y, ys[k]? = some y := ⟨_, List.getElem?_eq_getElem (by have := HM.out; omega)⟩
        obtain ⟨b1, o1, A1, c1, A1', c1', A1'', c1'', rfl, hb1', ⟨e10, e11, e12, e13, e14⟩, hi1⟩ := (HX.out.keep (up hb hB) (fun _ h => h)).get hxx
        obtain ⟨b2, o2, A2, c2, A2', c2', A2'', c2'', rfl, hb2', ⟨e20, e21, e22, e23, e24⟩, hi2⟩ := (HY.out.keep (up hb hB) (fun _ h => h)).get hyy
        have hs1 : b1 < wr.heap.size := by omega
        have hs2 : b2 < wr.heap.size := by omega
        have H1 := hide hxx
        have H2 := hide hyy
        have hC := fun (W : World) (hW : Below wr.heap.size wr W) => sameFunc_any (.slice A1 x.kinds.length c1) (.slice A1' x.base.length c1') (.slice A1'' x.blocks.length c1'') (.slice A2 y.kinds.length c2) (.slice A2' y.base.length c2') (.slice A2'' y.blocks.length c2'') x y W B (by have := hW.size; omega) (hi1.keep (up hW (by omega)) (fun _ h => h)) (hi2.keep (up hW (by omega)) (fun _ h => h))
        generalize x.kinds.length = l1 at *
        generalize x.base.length = l1' at *
        generalize x.blocks.length = l1'' at *
        generalize y.kinds.length = l2 at *
        generalize y.base.length = l2' at *
        generalize y.blocks.length = l2'' at *
        clear hxx hyy
        by_cases hxy : x = y
        · have ht := hide (take_more he.out H1.out (by rw [hxy]; exact H2.out))
          rw [decide_eq_true hxy] at hC
          have HC := hide hC
          clear hC hxy
          go_wp2_with (go_at_call 48; refine (HC.out _ (alloc2 wr _ _)).mono ?_; rintro e w1 ⟨rfl, hb1⟩)
          have hb2 := (alloc2 wr (.cells #[.slice A1 l1 c1, .slice A1' l1' c1', .int .i64 x.params, .int .i64 x.result, .slice A1'' l1'' c1''] 44) (.cells #[.slice A2 l2 c2, .slice A2' l2' c2', .int .i64 y.params, .int .i64 y.result, .slice A2'' l2'' c2''] 44)).trans (hb1.mono (by simp <;> omega))
          go_roundw
          case rel => exact ⟨k + 1, by omega, by go_num, ht, hb.trans (hb2.mono hsz)⟩
          case measure => simp [intOf]; omega
        · have hd := hide (decide_eq_false (list_ne H1.out H2.out hxy))
          rw [decide_eq_false hxy] at hC
          have HC := hide hC
          clear hC hxy
          go_wp2_with (go_at_call 48; refine (HC.out _ (alloc2 wr _ _)).mono ?_; rintro e w1 ⟨rfl, hb1⟩)
          have hb2 := (alloc2 wr (.cells #[.slice A1 l1 c1, .slice A1' l1' c1', .int .i64 x.params, .int .i64 x.result, .slice A1'' l1'' c1''] 44) (.cells #[.slice A2 l2 c2, .slice A2' l2' c2', .int .i64 y.params, .int .i64 y.result, .slice A2'' l2'' c2''] 44)).trans (hb1.mono (by simp <;> omega))
          go_ret
          exact ⟨ret_bool hd.out.symm, hb.trans (hb2.mono hsz)⟩
      · have hd := hide (decide_eq_true (show xs = ys by
          have h := he.out
          rwa [List.take_of_length_le (by have := HN.out; omega), List.take_of_length_le (by have := HM.out; omega)] at h))
        go_wp2
        go_ret
        exact ⟨ret_bool hd.out.symm, hb⟩
  · have hd := hide (decide_eq_false (show ¬ xs = ys from fun h => by rw [h] at hn; omega))
    have hb : (((n : Nat) : Int) != ((m : Nat) : Int)) = true := by simp; omega
    clear hn hm hne hx hy
    go_enter Tryd.func47, Tryd.ntmps47
    go_wp2
    go_ret
    exact ⟨ret_bool hd.out.symm, Below.refl _ _⟩

theorem sameP_any (va vb : Value) (p q : List FunV) (w : World) (B : Nat) (hB : B ≤ w.heap.size) (hx : FunsV w (· < B) va p) (hy : FunsV w (· < B) vb q) :
    Calls Tryd.prog 18 #[.agg #[va], .agg #[vb]] w fun e w' => e = .returned (.bool (decide (p = q))) ∧ Below w.heap.size w w' := by
  have hE := fun (W : World) (hW : Below w.heap.size w W) => eqFun_any va vb p q W B (by have := hW.size; omega) (hx.keep (up hW hB) (fun _ h => h)) (hy.keep (up hW hB) (fun _ h => h))
  obtain ⟨A, c, rfl, -, -⟩ := hx.open'
  obtain ⟨A', c', rfl, -, -⟩ := hy.open'
  have HE := hide hE
  generalize p.length = lx at *
  generalize q.length = ly at *
  clear hE hx hy
  go_enter Tryd.func18, Tryd.ntmps18
  go_wp2_with (go_at_call 47; refine (HE.out _ (alloc2 w _ _)).mono ?_; rintro e w1 ⟨rfl, hb1⟩)
  go_ret
  exact ⟨rfl, (alloc2 w _ _).trans (hb1.mono (by simp <;> omega))⟩
end Go.Proofs.YtpgljbjgbjjcnaaDoor
