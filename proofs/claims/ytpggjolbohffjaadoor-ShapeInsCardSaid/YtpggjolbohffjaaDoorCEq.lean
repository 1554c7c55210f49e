/- The contracts of slices.Equal at int, sameIns, slices.EqualFunc at Ins, sameBlock. No condition. -/
import Derived.Test.YtpggjolbohffjaaDoorCPart
set_option linter.unusedSimpArgs false
set_option linter.unusedVariables false
namespace Go.Proofs.YtpggjolbohffjaaDoor
open Go.RowKit

theorem len_le {A : Option Addr} {n c : Nat} {w : World} {S : Nat → Prop} {xs : List Int} (h : IntsV w S (.slice A n c) xs) : n ≤ 9223372036854775807 ∧ xs.length = n := by
  obtain ⟨A', c', e, h1, h2, -⟩ := h
  injection e with _ e1 e2
  omega

set_option maxRecDepth 100000 in
theorem equal_any (va vb : Value) (xs ys : List Int) (w : World) (B : Nat) (hx : IntsV w (· < B) va xs) (hy : IntsV w (· < B) vb ys) :
    Calls Tryd.prog 104 #[va, vb] w fun e w' => e = .returned (.bool (decide (xs = ys))) ∧ ∃ q, w' = w.drewN q := by
  obtain ⟨A, c, rfl, -, -⟩ := hx.open'
  obtain ⟨A', c', rfl, -, -⟩ := hy.open'
  obtain ⟨n, hn⟩ : ∃ n, xs.length = n := ⟨_, rfl⟩
  obtain ⟨m, hm⟩ : ∃ m, ys.length = m := ⟨_, rfl⟩
  rw [hn] at hx ⊢
  rw [hm] at hy ⊢
  have hnl := (len_le hx).1
  have hml := (len_le hy).1
  by_cases hne : n = m
  · subst hne
    have HX := hide hx
    have HY := hide hy
    have HN := hide hn
    have HM := hide hm
    clear hx hy hn hm
    go_enter Tryd.func104, Tryd.ntmps104
    go_wp2
    go_loopw [13] (fun i wr => ∃ (k : Nat) (q : Nat), k ≤ n ∧ i = .int .i64 k ∧ Hid (xs.take k = ys.take k) ∧ wr = w.drewN q) (fun i _ => n - (intOf i).toNat)
    case atStart => exact ⟨0, 0, Nat.zero_le _, rfl, hide (by simp), rfl⟩
    case round =>
      obtain ⟨k, q, hk, rfl, he, rfl⟩ := hrel
      by_cases hlt : k < n
      · obtain ⟨x, hxx⟩ : ∃ x, xs[k]? = some x := ⟨_, List.getElem?_eq_getElem (by have := HN.out; omega)⟩
        obtain ⟨y, hyy⟩ : ∃ y, ys[k]? = some y := ⟨_, List.getElem?_eq_getElem (by have := HM.out; omega)⟩
        obtain ⟨b1, o1, rfl, -, g1, -⟩ := HX.out.get hxx
        obtain ⟨b2, o2, rfl, -, g2, -⟩ := HY.out.get hyy
        have H1 := hide hxx
        have H2 := hide hyy
        clear hxx hyy
        by_cases hxy : x = y
        · subst hxy
          have hb : (x != x) = false := by simp
          have ht := hide (take_step he.out H1.out H2.out)
          go_wp2
          go_quiet (fail)
          go_wp2
          go_roundw
          case rel => exact ⟨k + 1, _, by omega, by go_num, ht, rfl⟩
          case measure => simp [intOf]; omega
        · have hb : (x != y) = true := by rw [bne_iff_ne]; exact hxy
          have hd := hide (decide_eq_false (show ¬ xs = ys from fun h => by
            have h1 := H1.out
            rw [h, H2.out] at h1
            exact hxy (Option.some.inj h1).symm))
          clear hxy
          go_wp2
          go_quiet (fail)
          go_wp2
          go_ret
          exact ⟨ret_bool hd.out.symm, _, by rw [World.drewN_drewN]⟩
      · have hd := hide (decide_eq_true (show xs = ys by
          have h := he.out
          rwa [List.take_of_length_le (by have := HN.out; omega), List.take_of_length_le (by have := HM.out; omega)] at h))
        go_wp2
        go_ret
        exact ⟨ret_bool hd.out.symm, q, rfl⟩
  · have hd := hide (decide_eq_false (show ¬ xs = ys from fun h => by rw [h] at hn; omega))
    have hb : (((n : Nat) : Int) != ((m : Nat) : Int)) = true := by simp; omega
    clear hn hm hne hx hy
    go_enter Tryd.func104, Tryd.ntmps104
    go_wp2
    go_ret
    exact ⟨ret_bool hd.out.symm, 0, rfl⟩

def insAgg (x : InsV) (va : Value) : Value := .agg #[.int .i64 x.op, .int .i64 x.d, .int .i64 x.a, .int .i64 x.b, .int .i64 x.n, .int .i64 x.m, va]
theorem below_alloc2_drewN {w : World} (o1 o2 : Obj) (q : Nat) : Below w.heap.size w (((w.alloc o1).alloc o2).drewN q) := below_drewN (alloc2 w o1 o2) q
theorem ins_eq (x y : InsV) : decide (x = y) = (decide (x.op = y.op) && (decide (x.d = y.d) && (decide (x.a = y.a) && (decide (x.b = y.b) && (decide (x.n = y.n) && (decide (x.m = y.m) && decide (x.args = y.args))))))) := by
  obtain ⟨o, d, a, b, n, m, l⟩ := x
  obtain ⟨o', d', a', b', n', m', l'⟩ := y
  simp [Bool.decide_and]

set_option maxRecDepth 100000 in
theorem sameIns_any (va vb : Value) (x y : InsV) (w : World) (B : Nat) (hB : B ≤ w.heap.size) (hx : IntsV w (· < B) va x.args) (hy : IntsV w (· < B) vb y.args) :
    Calls Tryd.prog 94 #[.agg #[.int .i64 x.op, .int .i64 x.d, .int .i64 x.a, .int .i64 x.b, .int .i64 x.n, .int .i64 x.m, va], .agg #[.int .i64 y.op, .int .i64 y.d, .int .i64 y.a, .int .i64 y.b, .int .i64 y.n, .int .i64 y.m, vb]] w fun e w' => e = .returned (.bool (decide (x = y))) ∧ Below w.heap.size w w' := by
  have hE := fun (W : World) (hW : Below w.heap.size w W) => equal_any va vb x.args y.args W B (hx.keep (up hW hB) (fun _ h => h)) (hy.keep (up hW hB) (fun _ h => h))
  obtain ⟨A, c, rfl, -, -⟩ := hx.open'
  obtain ⟨A', c', rfl, -, -⟩ := hy.open'
  rw [ins_eq]
  generalize x.args.length = lx at *
  generalize y.args.length = ly at *
  generalize x.op = p0, x.d = p1, x.a = p2, x.b = p3, x.n = p4, x.m = p5, y.op = q0, y.d = q1, y.a = q2, y.b = q3, y.n = q4, y.m = q5 at *
  generalize decide (x.args = y.args) = be at *
  have HE := hide hE
  clear hE hx hy
  by_cases h0 : p0 = q0
  · subst h0
    by_cases h1 : p1 = q1
    · subst h1
      by_cases h2 : p2 = q2
      · subst h2
        by_cases h3 : p3 = q3
        · subst h3
          by_cases h4 : p4 = q4
          · subst h4
            by_cases h5 : p5 = q5
            · subst h5
              go_enter Tryd.func94, Tryd.ntmps94
              go_wp2_with (go_at_call 104; refine (HE.out _ (alloc2 w _ _)).mono ?_; rintro e w' ⟨rfl, q, rfl⟩)
              go_ret
              exact ⟨by simp, below_alloc2_drewN _ _ _⟩
            · have hb : (p5 == q5) = false := by simpa using h5
              have hd : decide (p5 = q5) = false := by simpa using h5
              clear h5
              go_enter Tryd.func94, Tryd.ntmps94
              go_wp2
              go_ret
              exact ⟨by simp [hd], alloc2 w _ _⟩
          · have hb : (p4 == q4) = false := by simpa using h4
            have hd : decide (p4 = q4) = false := by simpa using h4
            clear h4
            go_enter Tryd.func94, Tryd.ntmps94
            go_wp2
            go_ret
            exact ⟨by simp [hd], alloc2 w _ _⟩
        · have hb : (p3 == q3) = false := by simpa using h3
          have hd : decide (p3 = q3) = false := by simpa using h3
          clear h3
          go_enter Tryd.func94, Tryd.ntmps94
          go_wp2
          go_ret
          exact ⟨by simp [hd], alloc2 w _ _⟩
      · have hb : (p2 == q2) = false := by simpa using h2
        have hd : decide (p2 = q2) = false := by simpa using h2
        clear h2
        go_enter Tryd.func94, Tryd.ntmps94
        go_wp2
        go_ret
        exact ⟨by simp [hd], alloc2 w _ _⟩
    · have hb : (p1 == q1) = false := by simpa using h1
      have hd : decide (p1 = q1) = false := by simpa using h1
      clear h1
      go_enter Tryd.func94, Tryd.ntmps94
      go_wp2
      go_ret
      exact ⟨by simp [hd], alloc2 w _ _⟩
  · have hb : (p0 == q0) = false := by simpa using h0
    have hd : decide (p0 = q0) = false := by simpa using h0
    clear h0
    go_enter Tryd.func94, Tryd.ntmps94
    go_wp2
    go_ret
    exact ⟨by simp [hd], alloc2 w _ _⟩
end Go.Proofs.YtpggjolbohffjaaDoor
