/- The contracts of the reference's SameIns, SameFunc, Same. No condition. -/
import Derived.Test.YtnoknodijombpaaPgMB
import Derived.Test.YtnoknodijombpaaPgSB
import Derived.Test.YtnoknodijombpaaPgMD
import Derived.Test.YtnoknodijombpaaPgME
import Derived.StillTailTactics
set_option linter.unusedSimpArgs false
set_option linter.unusedVariables false
namespace Go.Proofs.Ytnoknodijombpaa
open Go.RowKit

theorem rints_any (va vb : Value) (xs ys : List Int) (w : World) (B : Nat) (hx : IntsV w (· < B) va xs) (hy : IntsV w (· < B) vb ys) :
    Calls Try.prog 41 #[va, vb] w fun e w' => e = .returned (.bool (decide (xs = ys))) ∧ ∃ q, w' = w.drewN q := by
  obtain ⟨A, c, rfl, h1, h2, h3, -⟩ := hx.sl
  obtain ⟨A', c', rfl, h1', h2', h3', -⟩ := hy.sl
  exact ints_any A A' _ _ c c' xs ys w B B h3 h3' rfl rfl (by omega) (by omega)

set_option maxRecDepth 100000 in
theorem rsameIns_any (va vb : Value) (x y : InsV) (w : World) (B : Nat) (hB : B ≤ w.heap.size) (hx : IntsV w (· < B) va x.args) (hy : IntsV w (· < B) vb y.args) :
    Calls Try.prog 42 #[.agg #[.int .i64 x.op, .int .i64 x.d, .int .i64 x.a, .int .i64 x.b, .int .i64 x.n, .int .i64 x.m, va], .agg #[.int .i64 y.op, .int .i64 y.d, .int .i64 y.a, .int .i64 y.b, .int .i64 y.n, .int .i64 y.m, vb]] w fun e w' => e = .returned (.bool (decide (x = y))) ∧ Below w.heap.size w w' := by
  have hE := fun (W : World) (hW : Below w.heap.size w W) => rints_any va vb x.args y.args W B (hx.keep (up hW hB) (fun _ h => h)) (hy.keep (up hW hB) (fun _ h => h))
  obtain ⟨A, c, rfl, -, -⟩ := hx.open'
  obtain ⟨A', c', rfl, -, -⟩ := hy.open'
  rw [ins_eq]
  generalize x.args.length = lx at *
  generalize y.args.length = ly at *
  generalize x.op = p0, x.d = p1, x.a = p2, x.b = p3, x.n = p4, x.m = p5, y.op = q0, y.d = q1, y.a = q2, y.b = q3, y.n = q4, y.m = q5 at *
  generalize decide (x.args = y.args) = be at *
  have HE := hide hE
  clear hE hx hy
  by_cases h0 : p0 = q0
  · subst h0
    by_cases h1 : p1 = q1
    · subst h1
      by_cases h2 : p2 = q2
      · subst h2
        by_cases h3 : p3 = q3
        · subst h3
          by_cases h4 : p4 = q4
          · subst h4
            by_cases h5 : p5 = q5
            · subst h5
              go_enter Try.func42, Try.ntmps42
              go_wp2_with (go_at_call 41; refine (HE.out _ (alloc2 w _ _)).mono ?_; rintro e w' ⟨rfl, q, rfl⟩)
              go_ret
              exact ⟨by simp, below_alloc2_drewN _ _ _⟩
            · have hb : (p5 == q5) = false := by simpa using h5
              have hd : decide (p5 = q5) = false := by simpa using h5
              clear h5
              go_enter Try.func42, Try.ntmps42
              go_wp2
              go_ret
              exact ⟨by simp [hd], alloc2 w _ _⟩
          · have hb : (p4 == q4) = false := by simpa using h4
            have hd : decide (p4 = q4) = false := by simpa using h4
            clear h4
            go_enter Try.func42, Try.ntmps42
            go_wp2
            go_ret
            exact ⟨by simp [hd], alloc2 w _ _⟩
        · have hb : (p3 == q3) = false := by simpa using h3
          have hd : decide (p3 = q3) = false := by simpa using h3
          clear h3
          go_enter Try.func42, Try.ntmps42
          go_wp2
          go_ret
          exact ⟨by simp [hd], alloc2 w _ _⟩
      · have hb : (p2 == q2) = false := by simpa using h2
        have hd : decide (p2 = q2) = false := by simpa using h2
        clear h2
        go_enter Try.func42, Try.ntmps42
        go_wp2
        go_ret
        exact ⟨by simp [hd], alloc2 w _ _⟩
    · have hb : (p1 == q1) = false := by simpa using h1
      have hd : decide (p1 = q1) = false := by simpa using h1
      clear h1
      go_enter Try.func42, Try.ntmps42
      go_wp2
      go_ret
      exact ⟨by simp [hd], alloc2 w _ _⟩
  · have hb : (p0 == q0) = false := by simpa using h0
    have hd : decide (p0 = q0) = false := by simpa using h0
    clear h0
    go_enter Try.func42, Try.ntmps42
    go_wp2
    go_ret
    exact ⟨by simp [hd], alloc2 w _ _⟩

theorem fun_eqr (x y : FunV) : decide (x = y) = (decide (x.kinds = y.kinds) && (decide (x.base = y.base) && (decide (x.params = y.params) && (decide (x.result = y.result) && decide (x.blocks = y.blocks))))) := by
  obtain ⟨k, b, p, r, l⟩ := x
  obtain ⟨k', b', p', r', l'⟩ := y
  rw [Bool.eq_iff_iff]
  simp

set_option maxHeartbeats 1000000 in
set_option maxRecDepth 100000 in
theorem rsameFunc_any (va vb vc ua ub uc : Value) (x y : FunV) (w : World) (B : Nat) (hB : B ≤ w.heap.size) (hx : FunI w (· < B) va vb vc x) (hy : FunI w (· < B) ua ub uc y) :
    Calls Try.prog 14 #[.agg #[va, vb, .int .i64 x.params, .int .i64 x.result, vc], .agg #[ua, ub, .int .i64 y.params, .int .i64 y.result, uc]] w fun e w' => e = .returned (.bool (decide (x = y))) ∧ Below w.heap.size w w' := by
  obtain ⟨hk, hb, hs, -, -⟩ := hx
  obtain ⟨jk, jb, js, -, -⟩ := hy
  have h1 := fun (W : World) (hW : Below w.heap.size w W) => rints_any va ua x.kinds y.kinds W B (hk.keep (up hW hB) (fun _ h => h)) (jk.keep (up hW hB) (fun _ h => h))
  have h2 := fun (W : World) (hW : Below w.heap.size w W) => rints_any vb ub x.base y.base W B (hb.keep (up hW hB) (fun _ h => h)) (jb.keep (up hW hB) (fun _ h => h))
  obtain ⟨A1, c1, rfl, -, -⟩ := hk.open'
  obtain ⟨A2, c2, rfl, -, -⟩ := hb.open'
  obtain ⟨A3, c3, rfl, hc3, hm3⟩ := hs.open'
  obtain ⟨A4, c4, rfl, -, -⟩ := jk.open'
  obtain ⟨A5, c5, rfl, -, -⟩ := jb.open'
  obtain ⟨A6, c6, rfl, hc6, hm6⟩ := js.open'
  rw [fun_eqr]
  generalize x.params = p0, x.result = p1, y.params = q0, y.result = q1 at *
  generalize x.kinds.length = l1 at *
  generalize x.base.length = l2 at *
  generalize y.kinds.length = l4 at *
  generalize y.base.length = l5 at *
  generalize decide (x.kinds = y.kinds) = b1 at *
  generalize decide (x.base = y.base) = b2 at *
  generalize x.blocks = xs at *
  generalize y.blocks = ys at *
  obtain ⟨n, hn⟩ : ∃ n, xs.length = n := ⟨_, rfl⟩
  obtain ⟨m, hm⟩ : ∃ m, ys.length = m := ⟨_, rfl⟩
  rw [hn] at hs hc3 ⊢
  rw [hm] at js hc6 ⊢
  have HX := hide hs
  have HY := hide js
  have HN := hide hn
  have HM := hide hm
  clear hk hb hs jk jb js hn hm
  have H1 := hide h1
  have H2 := hide h2
  clear h1 h2
  cases b1 with
  | false =>
    go_enter Try.func14, Try.ntmps14
    go_wp2_with (go_at_call 41; refine (H1.out _ (alloc2 w _ _)).mono ?_; rintro e w' ⟨rfl, q, rfl⟩)
    go_ret
    exact ⟨by simp, below_alloc2_drewN _ _ _⟩
  | true =>
  cases b2 with
  | false =>
    go_enter Try.func14, Try.ntmps14
    go_wp2_with (first
      | (go_at_call 41; (with_reducible refine (H1.out _ (alloc2 w _ _)).mono ?_); rintro e w' ⟨rfl, q, rfl⟩)
      | (go_at_call 41; refine (H2.out _ (below_alloc2_drewN _ _ _)).mono ?_; rintro e w' ⟨rfl, q2, rfl⟩))
    go_ret
    exact ⟨by simp, below_alloc2_drewN _ _ _⟩
  | true =>
  by_cases g0 : p0 = q0
  case neg =>
    have hb' : (p0 != q0) = true := by simpa using g0
    have hd : decide (p0 = q0) = false := by simpa using g0
    clear g0
    go_enter Try.func14, Try.ntmps14
    go_wp2_with (first
      | (go_at_call 41; (with_reducible refine (H1.out _ (alloc2 w _ _)).mono ?_); rintro e w' ⟨rfl, q, rfl⟩)
      | (go_at_call 41; refine (H2.out _ (below_alloc2_drewN _ _ _)).mono ?_; rintro e w' ⟨rfl, q2, rfl⟩))
    go_ret
    exact ⟨by simp [hd], below_alloc2_drewN _ _ _⟩
  subst g0
  by_cases g1 : p1 = q1
  case neg =>
    have hb' : (p1 != q1) = true := by simpa using g1
    have hd : decide (p1 = q1) = false := by simpa using g1
    clear g1
    go_enter Try.func14, Try.ntmps14
    go_wp2_with (first
      | (go_at_call 41; (with_reducible refine (H1.out _ (alloc2 w _ _)).mono ?_); rintro e w' ⟨rfl, q, rfl⟩)
      | (go_at_call 41; refine (H2.out _ (below_alloc2_drewN _ _ _)).mono ?_; rintro e w' ⟨rfl, q2, rfl⟩))
    go_ret
    exact ⟨by simp [hd], below_alloc2_drewN _ _ _⟩
  subst g1
  by_cases hne : n = m
  case neg =>
    have hd := hide (decide_eq_false (show ¬ xs = ys from fun h => by have h1 := HN.out; have h2 := HM.out; rw [h] at h1; omega))
    have hb' : (((n : Nat) : Int) != ((m : Nat) : Int)) = true := by simp; omega
    clear hne
    go_enter Try.func14, Try.ntmps14
    go_wp2_with (first
      | (go_at_call 41; (with_reducible refine (H1.out _ (alloc2 w _ _)).mono ?_); rintro e w' ⟨rfl, q, rfl⟩)
      | (go_at_call 41; refine (H2.out _ (below_alloc2_drewN _ _ _)).mono ?_; rintro e w' ⟨rfl, q2, rfl⟩))
    go_ret
    exact ⟨by simp [hd.out], below_alloc2_drewN _ _ _⟩
  subst hne
  go_enter Try.func14, Try.ntmps14
  go_wp2_with (first
    | (go_at_call 41; (with_reducible refine (H1.out _ (alloc2 w _ _)).mono ?_); rintro e w' ⟨rfl, q, rfl⟩)
    | (go_at_call 41; refine (H2.out _ (below_alloc2_drewN _ _ _)).mono ?_; rintro e w' ⟨rfl, q2, rfl⟩))
  clear H1 H2
  go_loopw [5] (fun i wr => ∃ k : Nat, k ≤ n ∧ i = .int .i64 k ∧ Hid (xs.take k = ys.take k) ∧ Below w.heap.size w wr ∧ w.heap.size + 1 < wr.heap.size ∧ wr.cell? ⟨w.heap.size, 4, none⟩ = some (.slice A3 n c3) ∧ wr.cell? ⟨w.heap.size + 1, 4, none⟩ = some (.slice A6 n c6)) (fun i _ => n - (intOf i).toNat)
  case atStart => exact ⟨0, Nat.zero_le _, rfl, hide (by simp), below_alloc2_drewN _ _ _, by simp, by simp, by simp⟩
  case round =>
    obtain ⟨k, hk, rfl, he, hb, hs, x1, x2⟩ := hrel
    have hsz := hb.size
    by_cases hlt : k < n
    · obtain ⟨x, hxx⟩ : ∃ x, xs[k]? = some x := ⟨_, List.getElem?_eq_getElem (by have := HN.out; omega)⟩
      obtain ⟨y, hyy⟩ : ∃ y, ys[k]? = some y := ⟨_, List.getElem?_eq_getElem (by have := HM.out; omega)⟩
      obtain ⟨b1, o1, A7, c7, rfl, hb1', e10, hi1⟩ := (HX.out.keep (up hb hB) (fun _ h => h)).get hxx
      obtain ⟨b2, o2, A8, c8, rfl, hb2', e20, hi2⟩ := (HY.out.keep (up hb hB) (fun _ h => h)).get hyy
      have hs1 : b1 < wr.heap.size := by omega
      have hs2 : b2 < wr.heap.size := by omega
      have H1 := hide hxx
      have H2 := hide hyy
      obtain ⟨A7', c7', heq, hl7, hm7⟩ := hi1.open'
      injection heq with hA0 _ hcs
      subst hA0
      subst hcs
      obtain ⟨A8', c8', heq, hl8, hm8⟩ := hi2.open'
      injection heq with hA0 _ hcs
      subst hA0
      subst hcs
      obtain ⟨a, ha⟩ : ∃ a, x.length = a := ⟨_, rfl⟩
      obtain ⟨d, hd⟩ : ∃ d, y.length = d := ⟨_, rfl⟩
      rw [ha] at e10 hi1 hl7
      rw [hd] at e20 hi2 hl8
      have HI1 := hide hi1
      have HI2 := hide hi2
      have HA := hide ha
      have HD := hide hd
      clear hxx hyy hi1 hi2 ha hd
      by_cases had : a = d
      · subst had
        obtain ⟨wo, rfl⟩ : ∃ wo, wo = wr := ⟨_, rfl⟩
        go_wp2
        go_quiet (fail)
        go_wp2
        go_loopw [8] (fun i wr => ∃ j : Nat, j ≤ a ∧ i = .int .i64 j ∧ Hid (x.take j = y.take j) ∧ Below wo.heap.size wo wr) (fun i _ => a - (intOf i).toNat)
        case atStart => exact ⟨0, Nat.zero_le _, rfl, hide (by simp), below_drewN (Below.refl _ _) _⟩
        case round =>
          obtain ⟨j, hj, rfl, he2, hbi⟩ := hrel
          have hszi := hbi.size
          by_cases hlj : j < a
          · obtain ⟨u, huu⟩ : ∃ u, x[j]? = some u := ⟨_, List.getElem?_eq_getElem (by have := HA.out; omega)⟩
            obtain ⟨v, hvv⟩ : ∃ v, y[j]? = some v := ⟨_, List.getElem?_eq_getElem (by have := HD.out; omega)⟩
            obtain ⟨g1, o3, A9, c9, rfl, hg1', ⟨f10, f11, f12, f13, f14, f15, f16⟩, hu1⟩ := (HI1.out.keep (up hbi (by omega)) (fun _ h => h)).get huu
            obtain ⟨g2, o4, A10, c10, rfl, hg2', ⟨f20, f21, f22, f23, f24, f25, f26⟩, hu2⟩ := (HI2.out.keep (up hbi (by omega)) (fun _ h => h)).get hvv
            have hs3 : g1 < wr.heap.size := by omega
            have hs4 : g2 < wr.heap.size := by omega
            have H3 := hide huu
            have H4 := hide hvv
            have hC := rsameIns_any (.slice A9 u.args.length c9) (.slice A10 v.args.length c10) u v wr.drew B (by show B ≤ wr.heap.size; omega) (hu1.1.keep (fun _ _ _ => rfl) (fun _ h => h)) (hu2.1.keep (fun _ _ _ => rfl) (fun _ h => h))
            generalize u.args.length = l1 at *
            generalize v.args.length = l2 at *
            clear huu hvv hu1 hu2
            by_cases huv : u = v
            · have ht := hide (take_more he2.out H3.out (by rw [huv]; exact H4.out))
              rw [decide_eq_true huv] at hC
              have HC := hide hC
              clear hC huv
              go_wp2
              go_still_tail 8, (by kernel_rfl)
              change wpList _ _ _ _ _ wr.drew
              go_wp2_with (go_at_call 42; refine HC.out.mono ?_; rintro e w1 ⟨rfl, hb1⟩)
              go_roundw
              case rel => exact ⟨j + 1, by omega, by go_num, ht, hbi.drew.trans (hb1.mono hszi)⟩
              case measure => simp [intOf]; omega
            · have hd := hide (decide_eq_false (list_ne H1.out H2.out (list_ne H3.out H4.out huv)))
              rw [decide_eq_false huv] at hC
              have HC := hide hC
              clear hC huv
              go_wp2
              go_still_tail 8, (by kernel_rfl)
              change wpList _ _ _ _ _ wr.drew
              go_wp2_with (go_at_call 42; refine HC.out.mono ?_; rintro e w1 ⟨rfl, hb1⟩)
              go_ret
              exact ⟨by simp [hd.out], hb.trans ((hbi.drew.trans (hb1.mono hszi)).mono hsz)⟩
          · have ht := hide (take_more he.out H1.out (by rw [show x = y from by
              have h := he2.out
              rwa [List.take_of_length_le (by have := HA.out; omega), List.take_of_length_le (by have := HD.out; omega)] at h]; exact H2.out))
            have y1 := (hbi.cell (p := ⟨w.heap.size, 4, none⟩) (by show w.heap.size < _; omega)).trans x1
            have y2 := (hbi.cell (p := ⟨w.heap.size + 1, 4, none⟩) (by show w.heap.size + 1 < _; omega)).trans x2
            clear x1 x2
            go_wp2
            go_roundw
            case rel => exact ⟨k + 1, by omega, by go_num, ht, hb.trans (hbi.mono hsz), by omega, y1, y2⟩
            case measure => simp [intOf]; omega
      · have hd := hide (decide_eq_false (list_ne H1.out H2.out (fun h => had (by have h1 := HA.out; have h2 := HD.out; rw [h] at h1; omega))))
        have hb' : (((a : Nat) : Int) != ((d : Nat) : Int)) = true := by simp; omega
        clear had
        go_wp2
        go_quiet (fail)
        go_wp2
        go_ret
        exact ⟨by simp [hd.out], below_drewN hb _⟩
    · have hd := hide (decide_eq_true (show xs = ys by
        have h := he.out
        rwa [List.take_of_length_le (by have := HN.out; omega), List.take_of_length_le (by have := HM.out; omega)] at h))
      go_wp2
      go_ret
      exact ⟨by simp [hd.out], hb⟩

set_option maxRecDepth 100000 in
theorem rsame_any (va vb : Value) (xs ys : List FunV) (w : World) (B : Nat) (hB : B ≤ w.heap.size) (hx : FunsV w (· < B) va xs) (hy : FunsV w (· < B) vb ys) :
    Calls Try.prog 17 #[.agg #[va], .agg #[vb]] w fun e w' => e = .returned (.bool (decide (xs = ys))) ∧ Below w.heap.size w w' := by
  obtain ⟨A, c, rfl, hc, hcm⟩ := hx.open'
  obtain ⟨A', c', rfl, hc', hcm'⟩ := hy.open'
  obtain ⟨n, hn⟩ : ∃ n, xs.length = n := ⟨_, rfl⟩
  obtain ⟨m, hm⟩ : ∃ m, ys.length = m := ⟨_, rfl⟩
  rw [hn] at hx hc ⊢
  rw [hm] at hy hc' ⊢
  by_cases hne : n = m
  · subst hne
    have HX := hide hx
    have HY := hide hy
    have HN := hide hn
    have HM := hide hm
    clear hx hy hn hm
    go_enter Try.func17, Try.ntmps17
    go_wp2
    go_loopw [5] (fun i wr => ∃ k : Nat, k ≤ n ∧ i = .int .i64 k ∧ Hid (xs.take k = ys.take k) ∧ Below w.heap.size w wr ∧ w.heap.size + 1 < wr.heap.size ∧ wr.cell? ⟨w.heap.size, 0, none⟩ = some (.slice A n c) ∧ wr.cell? ⟨w.heap.size + 1, 0, none⟩ = some (.slice A' n c')) (fun i _ => n - (intOf i).toNat)
    case atStart => exact ⟨0, Nat.zero_le _, rfl, hide (by simp), alloc2 w _ _, by simp, by simp, by simp⟩
    case round =>
      obtain ⟨k, hk, rfl, he, hb, hs, x1, x2⟩ := hrel
      have hsz := hb.size
      by_cases hlt : k < n
      · obtain ⟨x, hxx⟩ : ∃ x, xs[k]? = some x := ⟨_, List.getElem?_eq_getElem (by have := HN.out; omega)⟩
        obtain ⟨y, hyy⟩ : ∃ y, ys[k]? = some y := ⟨_, List.getElem?_eq_getElem (by have := HM.out; omega)⟩
        obtain ⟨b1, o1, A1, c1, A1', c1', A1'', c1'', rfl, hb1', ⟨e10, e11, e12, e13, e14⟩, hi1⟩ := (HX.out.keep (up hb hB) (fun _ h => h)).get hxx
        obtain ⟨b2, o2, A2, c2, A2', c2', A2'', c2'', rfl, hb2', ⟨e20, e21, e22, e23, e24⟩, hi2⟩ := (HY.out.keep (up hb hB) (fun _ h => h)).get hyy
        have hs1 : b1 < wr.heap.size := by omega
        have hs2 : b2 < wr.heap.size := by omega
        have H1 := hide hxx
        have H2 := hide hyy
        have hC := rsameFunc_any (.slice A1 x.kinds.length c1) (.slice A1' x.base.length c1') (.slice A1'' x.blocks.length c1'') (.slice A2 y.kinds.length c2) (.slice A2' y.base.length c2') (.slice A2'' y.blocks.length c2'') x y wr.drew B (by show B ≤ wr.heap.size; omega) (hi1.keep (fun _ _ _ => rfl) (fun _ h => h)) (hi2.keep (fun _ _ _ => rfl) (fun _ h => h))
        generalize x.kinds.length = l1 at *
        generalize x.base.length = l1' at *
        generalize x.blocks.length = l1'' at *
        generalize y.kinds.length = l2 at *
        generalize y.base.length = l2' at *
        generalize y.blocks.length = l2'' at *
        clear hxx hyy hi1 hi2
        by_cases hxy : x = y
        · have ht := hide (take_more he.out H1.out (by rw [hxy]; exact H2.out))
          rw [decide_eq_true hxy] at hC
          have HC := hide hC
          clear hC hxy
          go_wp2
          go_still_tail 10, (by kernel_rfl)
          change wpList _ _ _ _ _ wr.drew
          go_wp2_with (go_at_call 14; refine HC.out.mono ?_; rintro e w1 ⟨rfl, hb1⟩)
          have hb2 := hb.drew.trans (hb1.mono hsz)
          have hz1 : wr.heap.size ≤ w1.heap.size := hb1.size
          have y1 := (hb1.cell (p := ⟨w.heap.size, 0, none⟩) (by show w.heap.size < wr.heap.size; omega)).trans x1
          have y2 := (hb1.cell (p := ⟨w.heap.size + 1, 0, none⟩) (by show w.heap.size + 1 < wr.heap.size; omega)).trans x2
          go_roundw
          case rel => exact ⟨k + 1, by omega, by go_num, ht, hb2, by omega, y1, y2⟩
          case measure => simp [intOf]; omega
        · have hd := hide (decide_eq_false (list_ne H1.out H2.out hxy))
          rw [decide_eq_false hxy] at hC
          have HC := hide hC
          clear hC hxy
          go_wp2
          go_still_tail 10, (by kernel_rfl)
          change wpList _ _ _ _ _ wr.drew
          go_wp2_with (go_at_call 14; refine HC.out.mono ?_; rintro e w1 ⟨rfl, hb1⟩)
          have hb2 := hb.drew.trans (hb1.mono hsz)
          go_ret
          exact ⟨ret_bool hd.out.symm, hb2⟩
      · have hd := hide (decide_eq_true (show xs = ys by
          have h := he.out
          rwa [List.take_of_length_le (by have := HN.out; omega), List.take_of_length_le (by have := HM.out; omega)] at h))
        go_wp2
        go_ret
        exact ⟨ret_bool hd.out.symm, hb⟩
  · have hd := hide (decide_eq_false (show ¬ xs = ys from fun h => by rw [h] at hn; omega))
    have hb : (((n : Nat) : Int) != ((m : Nat) : Int)) = true := by simp; omega
    clear hn hm hne hx hy
    go_enter Try.func17, Try.ntmps17
    go_wp2
    go_ret
    exact ⟨ret_bool hd.out.symm, alloc2 w _ _⟩
end Go.Proofs.Ytnoknodijombpaa
namespace Go.Proofs.Ytnoknodijombpaa
open Go.RowKit

theorem partsN_not {op : Int} (h : ∀ j : Nat, 1 ≤ j → j ≤ 23 → op ≠ j) : partsN op = [] := by
  unfold partsN
  split
  · rfl
  · by_cases hj : op.toNat < 24
    · have h0 : op.toNat = 0 := by
        have := h op.toNat
        omega
      rw [h0]; rfl
    · rw [List.getD, List.getElem?_eq_none (show partsT.length ≤ op.toNat by show 24 ≤ _; omega)]; rfl
set_option maxRecDepth 100000 in
theorem rparts_any (op : Int) (w : World) :
    Calls Try.prog 65 #[.int .i64 op] w fun e w' => e = .returned (.string (strOf (partsN op))) ∧ w = w' := by
  by_cases hin : 1 ≤ op ∧ op ≤ 23
  · obtain ⟨h1, h2⟩ := hin
    obtain ⟨j, rfl⟩ : ∃ j : Nat, op = j := ⟨op.toNat, by omega⟩
    have hj : j = 1 ∨ j = 2 ∨ j = 3 ∨ j = 4 ∨ j = 5 ∨ j = 6 ∨ j = 7 ∨ j = 8 ∨ j = 9 ∨ j = 10 ∨ j = 11 ∨ j = 12 ∨ j = 13 ∨ j = 14 ∨ j = 15 ∨ j = 16 ∨ j = 17 ∨ j = 18 ∨ j = 19 ∨ j = 20 ∨ j = 21 ∨ j = 22 ∨ j = 23 := by omega
    clear h1 h2
    rcases hj with rfl | rfl | rfl | rfl | rfl | rfl | rfl | rfl | rfl | rfl | rfl | rfl | rfl | rfl | rfl | rfl | rfl | rfl | rfl | rfl | rfl | rfl | rfl
    all_goals
      go_enter Try.func65, Try.ntmps65
      go_wp2
      go_ret
      exact ⟨rfl, rfl⟩
  · have he := hide (show strOf (partsN op) = ⟨#[]⟩ by rw [partsN_not (fun j h1 h2 h => hin (by omega))]; rfl)
    have g : ∀ j : Int, 1 ≤ j → j ≤ 23 → (op == j) = false := fun j h1 h2 => by simp; omega
    have g1 := g 1 (by omega) (by omega); have g2 := g 2 (by omega) (by omega); have g3 := g 3 (by omega) (by omega); have g4 := g 4 (by omega) (by omega)
    have g5 := g 5 (by omega) (by omega); have g6 := g 6 (by omega) (by omega); have g7 := g 7 (by omega) (by omega); have g8 := g 8 (by omega) (by omega)
    have g9 := g 9 (by omega) (by omega); have g10 := g 10 (by omega) (by omega); have g11 := g 11 (by omega) (by omega); have g12 := g 12 (by omega) (by omega)
    have g13 := g 13 (by omega) (by omega); have g14 := g 14 (by omega) (by omega); have g15 := g 15 (by omega) (by omega); have g16 := g 16 (by omega) (by omega)
    have g17 := g 17 (by omega) (by omega); have g18 := g 18 (by omega) (by omega); have g19 := g 19 (by omega) (by omega); have g20 := g 20 (by omega) (by omega)
    have g21 := g 21 (by omega) (by omega); have g22 := g 22 (by omega) (by omega); have g23 := g 23 (by omega) (by omega)
    clear g hin
    go_enter Try.func65, Try.ntmps65
    go_wp2
    go_ret
    exact ⟨ret_str he.out.symm, rfl⟩

theorem Sl.other {w : World} {B g j : Nat} {A : Option Addr} {zs : List Int} {v : Value} (h : Sl w B .u8 A zs) (hg : ∀ a, A = some a → a.block ≠ g) : Sl (w.setCell ⟨g, j, none⟩ v) B .u8 A zs := fun hp => by
  obtain ⟨b, o, e, hb, hc⟩ := h hp
  refine ⟨b, o, e, hb, fun i hi => ?_⟩
  have hne : b ≠ g := hg _ e
  rw [← hc i hi]
  exact World.cell?_of_block (a := ⟨b, o + i, none⟩) (heap_setCell_other w ⟨g, j, none⟩ b v hne)
end Go.Proofs.Ytnoknodijombpaa
namespace Go.Proofs.Ytnoknodijombpaa
open Go.RowKit

end Go.Proofs.Ytnoknodijombpaa
namespace Go.Proofs.Ytnoknodijombpaa
open Go.RowKit

end Go.Proofs.Ytnoknodijombpaa
