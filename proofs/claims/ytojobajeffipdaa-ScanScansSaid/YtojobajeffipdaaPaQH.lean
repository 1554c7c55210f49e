/- Layer 16: the fixed fact; the reference: Same of locations and of spans, Slots. Condition: no more than 10^12. -/
import Derived.Test.YtojobajeffipdaaPaQG
set_option linter.unusedSimpArgs false
set_option linter.unusedVariables false
namespace Go.Proofs.Ytojobajeffipdaa
open Go.RowKit

theorem sps_two (w : World) (g : Nat) (a b : SpV) (ha : i64R a.v ∧ i64R a.f ∧ i64R a.t) (hb : i64R b.v ∧ i64R b.f ∧ i64R b.t) (h : Box w g #[.int .i64 a.v, .int .i64 a.f, .int .i64 a.t, .bool a.c, .int .i64 b.v, .int .i64 b.f, .int .i64 b.t, .bool b.c] 35) : SpsV w (· < w.heap.size) (.slice (some ⟨g, 0, none⟩) 2 2) [a, b] := by
  refine ⟨_, _, rfl, Nat.le_refl _, by omega, fun _ => ⟨g, 0, rfl, h.lt, fun j x hj => ?_⟩⟩
  match j, hj with
  | 0, hj =>
    simp at hj
    subst hj
    exact ⟨⟨(h.cell 0 rfl).1, (h.cell 1 rfl).1, (h.cell 2 rfl).1, (h.cell 3 rfl).1⟩, ha⟩
  | 1, hj =>
    simp at hj
    subst hj
    exact ⟨⟨(h.cell 4 rfl).1, (h.cell 5 rfl).1, (h.cell 6 rfl).1, (h.cell 7 rfl).1⟩, hb⟩
  | j + 2, hj => simp at hj
def twoS : List SpV := [⟨0, 0, 9, false⟩, ⟨1, 1, 3, false⟩]
theorem twoS_right : rightB16 twoS = true := by decide +kernel
theorem twoS_scan : scanL twoS 1 2 = [⟨2, 0⟩, ⟨1, 0⟩] := by decide +kernel
theorem twoS_slots : slotsN [⟨2, 0⟩, ⟨1, 0⟩] = 1 := by decide +kernel
set_option maxHeartbeats 1000000 in
set_option maxRecDepth 100000 in
theorem alive16_any (w : World) : Calls Try.prog 8 #[] w fun e w' => e = .returned (.bool true) ∧ Below w.heap.size w w' := by
  have HSC := hide (fun (W : World) (g : Nat) (h : Box W g #[.int .i64 0, .int .i64 0, .int .i64 9, .bool false, .int .i64 1, .int .i64 1, .int .i64 3, .bool false] 35) => (qscan_any (.slice (some ⟨g, 0, none⟩) 2 2) twoS 1 W (sps_two W g ⟨0, 0, 9, false⟩ ⟨1, 1, 3, false⟩ ⟨⟨by simp, by simp⟩, ⟨by simp, by simp⟩, ⟨by simp, by simp⟩⟩ ⟨⟨by simp, by simp⟩, ⟨by simp, by simp⟩, ⟨by simp, by simp⟩⟩ h) (by simp [twoS])).mono (R' := fun e w' => ∃ g', e = .returned (.tuple #[.slice (some ⟨g', 0, none⟩) 2 2, .int .i64 0]) ∧ Box w' g' #[.int .i64 2, .int .i64 0, .int .i64 1, .int .i64 0] 37 ∧ Below W.heap.size W w') (fun e w' h => by
    obtain ⟨g', he, hx, -⟩ := h.1.1 ⟨twoS_right, by omega, by omega⟩
    refine ⟨g', he, ?_, h.2⟩
    rw [show twoS.length = 2 from rfl, twoS_scan] at hx
    exact hx))
  have HSL := hide (fun (W : World) (g : Nat) (h : Box W g #[.int .i64 2, .int .i64 0, .int .i64 1, .int .i64 0] 37) => (show Calls Try.prog 15 #[.slice (some ⟨g, 0, none⟩) 2 2] W fun e w' => e = .returned (.int .i64 1) ∧ Below W.heap.size W w' from by
    have t := qslots_any (.slice (some ⟨g, 0, none⟩) 2 2) [⟨2, 0⟩, ⟨1, 0⟩] W (lcs_of_box (ls := [⟨2, 0⟩, ⟨1, 0⟩]) h (fun x hx => by simp at hx; rcases hx with rfl | rfl <;> exact ⟨⟨by simp, by simp⟩, by simp, by simp⟩) rfl (Nat.le_refl _) (by omega)) (by simp)
    rwa [twoS_slots] at t))
  go_enter Try.func8, Try.ntmps8
  go_upto_region 2 with (obtain ⟨w1, hw1⟩ := letr (w.alloc (.cells #[.int .i64 0, .int .i64 0, .int .i64 9, .bool false, .int .i64 1, .int .i64 1, .int .i64 3, .bool false] 35)); obtain ⟨h0, hh0⟩ := letl w.heap.size; have HX0 := lBox hw1 hh0; have HB1 := lBel hw1; rw [← hw1, hh0]; clear hw1 hh0; go_at_call 9; (with_reducible refine (HSC.out w1 h0 HX0.out).mono ?_); rintro e w2 ⟨g', rfl, hx2, hb2⟩; have HX2 := hide hx2; have HB2 := hide (HB1.out.trans (hb2.mono HB1.out.size)); clear hx2 hb2)
  obtain ⟨c0, c1, c2, c3⟩ := And.intro (HX2.out.cell 0 (v := .int .i64 2) rfl).1 (And.intro (HX2.out.cell 1 (v := .int .i64 0) rfl).1 (And.intro (HX2.out.cell 2 (v := .int .i64 1) rfl).1 (HX2.out.cell 3 (v := .int .i64 0) rfl).1))
  have lx := HX2.out.lt
  go_wp2_with (go_at_call 15; (with_reducible refine (HSL.out w2 g' HX2.out).mono ?_); rintro e w3 ⟨rfl, hb3⟩)
  go_ret
  exact ⟨rfl, HB2.out.trans (hb3.mono HB2.out.size)⟩
theorem list_ext_at {a b : List LcV} (hl : a.length = b.length) (h : ∀ j, j < a.length → lcAt a j = lcAt b j) : a = b := List.ext_getElem? fun j => by
  by_cases hj : j < a.length
  · rw [lcAt_some hj, lcAt_some (by omega), h j hj]
  · rw [List.getElem?_eq_none (by omega), List.getElem?_eq_none (by omega)]
theorem list_ext_sp {a b : List SpV} (hl : a.length = b.length) (h : ∀ j, j < a.length → spAt a j = spAt b j) : a = b := List.ext_getElem? fun j => by
  by_cases hj : j < a.length
  · rw [spAt_some hj, spAt_some (by omega), h j hj]
  · rw [List.getElem?_eq_none (by omega), List.getElem?_eq_none (by omega)]
set_option maxHeartbeats 1000000 in
set_option maxRecDepth 100000 in
theorem rsameL_any (v u : Value) (a b : List LcV) (w : World) (ha : LcsV w (· < w.heap.size) v a) (hb : LcsV w (· < w.heap.size) u b) (hma : a.length ≤ 9223372036854775807) (hmb : b.length ≤ 9223372036854775807) :
    Calls Try.prog 11 #[v, u] w fun e w' => e = .returned (.bool (decide (a = b))) ∧ Below w.heap.size w w' := by
  obtain ⟨A, c, rfl, hc, hcm⟩ := ha.open'
  obtain ⟨B, d, rfl, hd, hdm⟩ := hb.open'
  obtain ⟨n, hn⟩ := letl a.length
  obtain ⟨m, hm⟩ := letl b.length
  rw [hn] at ha hc hma ⊢
  rw [hm] at hb hd hmb ⊢
  by_cases hnm : n = m
  rotate_left
  · have HE := hide (decide_eq_false (fun e : a = b => hnm (by rw [← hn, ← hm, e])))
    clear ha hb hn hm
    go_enter Try.func11, Try.ntmps11
    go_wp2
    go_ret
    exact ⟨by rw [HE.out]; rfl, Below.refl _ _⟩
  subst hnm
  have HA := hide (fun (W : World) (hW : Below w.heap.size w W) (b o : Nat) (hA : A = some ⟨b, o, none⟩) (j : Nat) (y : LcV) (hy : a[j]? = some y) => (hA ▸ ha).at' hW hy)
  have HB := hide (fun (W : World) (hW : Below w.heap.size w W) (b' o : Nat) (hA : B = some ⟨b', o, none⟩) (j : Nat) (y : LcV) (hy : b[j]? = some y) => (hA ▸ hb).at' hW hy)
  have HAA := hide (fun (j : Nat) (y : LcV) (hy : a[j]? = some y) => (show (∃ b o, A = some ⟨b, o, none⟩) from by
    obtain ⟨b, o, e, -⟩ := ha.get hy
    exact ⟨b, o, e⟩))
  have HBA := hide (fun (j : Nat) (y : LcV) (hy : b[j]? = some y) => (show (∃ b o, B = some ⟨b, o, none⟩) from by
    obtain ⟨b, o, e, -⟩ := hb.get hy
    exact ⟨b, o, e⟩))
  have HN := hide hn
  have HM := hide hm
  clear ha hb hn hm
  go_enter Try.func11, Try.ntmps11
  go_wp2
  go_loopw [5] (fun z wr => ∃ k : Nat, k ≤ n ∧ z = .int .i64 k ∧ Below w.heap.size w wr ∧ Hid (∀ j, j < k → lcAt a j = lcAt b j)) (fun z _ => n - (intOf z).toNat)
  case atStart => exact ⟨0, Nat.zero_le _, rfl, Below.refl _ _, hide (fun j h => absurd h (by omega))⟩
  case round =>
    obtain ⟨k, hk, rfl, hbw, hall⟩ := hrel
    obtain ⟨wo, rfl⟩ : ∃ wo, wo = wr := ⟨_, rfl⟩
    have HW := hide hbw
    clear hbw
    by_cases hlt : k < n
    case neg =>
      have HE := hide (decide_eq_true (show a = b from list_ext_at (by rw [HN.out, HM.out]) (fun j hj => hall.out j (by have := HN.out; omega))))
      go_wp2
      go_ret
      exact ⟨by rw [HE.out]; rfl, HW.out⟩
    obtain ⟨x, hx⟩ : ∃ y, a[k]? = some y := ⟨_, List.getElem?_eq_getElem (by have := HN.out; omega)⟩
    obtain ⟨y, hy⟩ : ∃ y, b[k]? = some y := ⟨_, List.getElem?_eq_getElem (by have := HM.out; omega)⟩
    obtain ⟨ba, oa, hA⟩ := HAA.out k x hx
    obtain ⟨bb, ob, hB⟩ := HBA.out k y hy
    subst hA
    subst hB
    have HYS := hide (fun (e : x = y) (j : Nat) (hj : j < k + 1) => (show lcAt a j = lcAt b j from by
      by_cases e2 : j = k
      · subst e2; rw [lcAt_of hx, lcAt_of hy, e]
      · exact hall.out j (by omega)))
    have HNO := hide (fun (e : ¬ x = y) => (show decide (a = b) = false from decide_eq_false (fun h => e (by have h1 := lcAt_of hx; rw [h, lcAt_of hy] at h1; exact h1.symm))))
    have hxa := HA.out wo HW.out ba oa rfl k x hx
    have hyb := HB.out wo HW.out bb ob rfl k y hy
    obtain ⟨xk, xn⟩ := x
    obtain ⟨yk, yn⟩ := y
    obtain ⟨a0, a1, la⟩ := hxa
    obtain ⟨b0, b1, lb⟩ := hyb
    clear hx hy hall
    rcases (show (xk = yk ∧ xn = yn) ∨ (¬ xk = yk) ∨ (xk = yk ∧ ¬ xn = yn) by by_cases h0 : xk = yk <;> by_cases h1 : xn = yn <;> simp [h0, h1]) with ⟨rfl, rfl⟩ | hne | ⟨rfl, hne⟩
    rotate_left
    all_goals try (
      have HE := hide (HNO.out (fun e => hne (by injection e)))
      go_wp2
      go_quiet (fail)
      go_wp2
      go_ret
      exact ⟨by rw [HE.out]; rfl, below_drewN HW.out _⟩)
    have HE := hide (HYS.out rfl)
    go_wp2
    go_quiet (fail)
    go_wp2
    go_roundw
    case rel => exact ⟨k + 1, by omega, by go_num, below_drewN HW.out _, hide (fun j hj => HE.out j hj)⟩
    case measure => simp [intOf]; omega
set_option maxHeartbeats 1000000 in
set_option maxRecDepth 100000 in
theorem rsameS_any (v u : Value) (a b : List SpV) (w : World) (ha : SpsV w (· < w.heap.size) v a) (hb : SpsV w (· < w.heap.size) u b) (hma : a.length ≤ 9223372036854775807) (hmb : b.length ≤ 9223372036854775807) :
    Calls Try.prog 14 #[v, u] w fun e w' => e = .returned (.bool (decide (a = b))) ∧ Below w.heap.size w w' := by
  obtain ⟨A, c, rfl, hc, hcm⟩ := ha.open'
  obtain ⟨B, d, rfl, hd, hdm⟩ := hb.open'
  obtain ⟨n, hn⟩ := letl a.length
  obtain ⟨m, hm⟩ := letl b.length
  rw [hn] at ha hc hma ⊢
  rw [hm] at hb hd hmb ⊢
  by_cases hnm : n = m
  rotate_left
  · have HE := hide (decide_eq_false (fun e : a = b => hnm (by rw [← hn, ← hm, e])))
    clear ha hb hn hm
    go_enter Try.func14, Try.ntmps14
    go_wp2
    go_ret
    exact ⟨by rw [HE.out]; rfl, Below.refl _ _⟩
  subst hnm
  have HA := hide (fun (W : World) (hW : Below w.heap.size w W) (b o : Nat) (hA : A = some ⟨b, o, none⟩) (j : Nat) (y : SpV) (hy : a[j]? = some y) => (hA ▸ ha).at' hW hy)
  have HB := hide (fun (W : World) (hW : Below w.heap.size w W) (b' o : Nat) (hA : B = some ⟨b', o, none⟩) (j : Nat) (y : SpV) (hy : b[j]? = some y) => (hA ▸ hb).at' hW hy)
  have HAA := hide (fun (j : Nat) (y : SpV) (hy : a[j]? = some y) => (show (∃ b o, A = some ⟨b, o, none⟩) from by
    obtain ⟨b, o, e, -⟩ := ha.get hy
    exact ⟨b, o, e⟩))
  have HBA := hide (fun (j : Nat) (y : SpV) (hy : b[j]? = some y) => (show (∃ b o, B = some ⟨b, o, none⟩) from by
    obtain ⟨b, o, e, -⟩ := hb.get hy
    exact ⟨b, o, e⟩))
  have HN := hide hn
  have HM := hide hm
  clear ha hb hn hm
  go_enter Try.func14, Try.ntmps14
  go_wp2
  go_loopw [5] (fun z wr => ∃ k : Nat, k ≤ n ∧ z = .int .i64 k ∧ Below w.heap.size w wr ∧ Hid (∀ j, j < k → spAt a j = spAt b j)) (fun z _ => n - (intOf z).toNat)
  case atStart => exact ⟨0, Nat.zero_le _, rfl, Below.refl _ _, hide (fun j h => absurd h (by omega))⟩
  case round =>
    obtain ⟨k, hk, rfl, hbw, hall⟩ := hrel
    obtain ⟨wo, rfl⟩ : ∃ wo, wo = wr := ⟨_, rfl⟩
    have HW := hide hbw
    clear hbw
    by_cases hlt : k < n
    case neg =>
      have HE := hide (decide_eq_true (show a = b from list_ext_sp (by rw [HN.out, HM.out]) (fun j hj => hall.out j (by have := HN.out; omega))))
      go_wp2
      go_ret
      exact ⟨by rw [HE.out]; rfl, HW.out⟩
    obtain ⟨x, hx⟩ : ∃ y, a[k]? = some y := ⟨_, List.getElem?_eq_getElem (by have := HN.out; omega)⟩
    obtain ⟨y, hy⟩ : ∃ y, b[k]? = some y := ⟨_, List.getElem?_eq_getElem (by have := HM.out; omega)⟩
    obtain ⟨ba, oa, hA⟩ := HAA.out k x hx
    obtain ⟨bb, ob, hB⟩ := HBA.out k y hy
    subst hA
    subst hB
    have HYS := hide (fun (e : x = y) (j : Nat) (hj : j < k + 1) => (show spAt a j = spAt b j from by
      by_cases e2 : j = k
      · subst e2; rw [spAt_of hx, spAt_of hy, e]
      · exact hall.out j (by omega)))
    have HNO := hide (fun (e : ¬ x = y) => (show decide (a = b) = false from decide_eq_false (fun h => e (by have h1 := spAt_of hx; rw [h, spAt_of hy] at h1; exact h1.symm))))
    have hxa := HA.out wo HW.out ba oa rfl k x hx
    have hyb := HB.out wo HW.out bb ob rfl k y hy
    obtain ⟨xv, xf, xt, xc⟩ := x
    obtain ⟨yv, yf, yt, yc⟩ := y
    obtain ⟨a0, a1, a2, a3, la⟩ := hxa
    obtain ⟨b0, b1, b2, b3, lb⟩ := hyb
    clear hx hy hall
    rcases (show (xv = yv ∧ xf = yf ∧ xt = yt ∧ xc = yc) ∨ (¬ xv = yv) ∨ (xv = yv ∧ ¬ xf = yf) ∨ (xv = yv ∧ xf = yf ∧ ¬ xt = yt) ∨ (xv = yv ∧ xf = yf ∧ xt = yt ∧ ¬ xc = yc) by by_cases h0 : xv = yv <;> by_cases h1 : xf = yf <;> by_cases h2 : xt = yt <;> by_cases h3 : xc = yc <;> simp [h0, h1, h2, h3]) with ⟨rfl, rfl, rfl, rfl⟩ | hne | ⟨rfl, hne⟩ | ⟨rfl, rfl, hne⟩ | ⟨rfl, rfl, rfl, hne⟩
    rotate_left
    all_goals try (
      have HE := hide (HNO.out (fun e => hne (by injection e)))
      go_wp2
      go_quiet (fail)
      go_wp2
      go_ret
      exact ⟨by rw [HE.out]; rfl, below_drewN HW.out _⟩)
    have HE := hide (HYS.out rfl)
    go_wp2
    go_quiet (fail)
    go_wp2
    go_roundw
    case rel => exact ⟨k + 1, by omega, by go_num, below_drewN HW.out _, hide (fun j hj => HE.out j hj)⟩
    case measure => simp [intOf]; omega
end Go.Proofs.Ytojobajeffipdaa
