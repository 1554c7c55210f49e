/- Layer 16: the program's Clash. Condition: no more than 1000. -/
import Derived.Test.YtojobajeffipdaaPcQW
set_option linter.unusedSimpArgs false
set_option linter.unusedVariables false
namespace Go.Proofs.Ytojobajeffipdaa
open Go.RowKit

theorem home_len16 (ss : List SpV) (ls : List LcV) : (homesL ss ls).length ≤ ss.length := by
  unfold homesL
  refine Nat.le_trans (List.length_filter_le _ _) ?_
  rw [List.length_zip]
  omega
set_option maxHeartbeats 4000000 in
set_option maxRecDepth 100000 in
theorem qclash_any (v u : Value) (ss : List SpV) (ls : List LcV) (w : World) (hs : SpsV w (· < w.heap.size) v ss) (hl : LcsV w (· < w.heap.size) u ls) (hm1 : ss.length ≤ 1000) (hm2 : ls.length ≤ 1000) :
    Calls Try.prog 17 #[v, u] w fun e w' => e = .returned (.bool (clashB ss ls)) ∧ Below w.heap.size w w' := by
  have HH := hide (qhomes_any v u ss ls w hs hl hm1 hm2)
  have HSO := hide (fun (W : World) (v' : Value) (h : OwC homeC 53 6 W w.heap.size v' (homesL ss ls)) => sortH_any v' _ w.heap.size W h (Nat.le_trans (home_len16 ss ls) hm1))
  have HCS := hide (fun (d : List HomeV) (hp : d.Perm (homesL ss ls)) hs => clash_sorted (ss := ss) (ls := ls) (d := d) hp hs)
  have hLm := Nat.le_trans (home_len16 ss ls) hm1
  obtain ⟨L, hL⟩ := letl (homesL ss ls)
  rw [hL] at HH HSO HCS hLm
  obtain ⟨cl, hcl⟩ := letl (clashB ss ls)
  rw [hcl] at HCS ⊢
  clear hs hl hm1 hm2 hL hcl
  go_enter Try.func17, Try.ntmps17
  go_upto_region 2 with (go_at_call 22; (with_reducible refine HH.out.mono ?_); rintro e w1 ⟨v1, rfl, ho1, hb1⟩; have HO1 := hide ho1; have HB1 := hide hb1; clear ho1 hb1)
  obtain ⟨A1, c1, hv1, hlc, hcm⟩ := HO1.out.sl
  obtain ⟨n, hn⟩ := letl L.length
  subst hv1
  have HS2 := hide (HSO.out w1 _ HO1.out)
  clear HSO HH
  rw [hn] at HS2 hlc hLm HO1 ⊢
  go_upto_region 3 with (go_at_call 23; (with_reducible refine HS2.out.mono ?_); rintro e w2 ⟨rfl, d, hpm, hsd, hb2, hcells⟩; have HB2 := hide (HB1.out.trans hb2); have HC2 := hide hcells; have HI := hide (HCS.out d hpm hsd); have HPL := hide hpm.length_eq; clear hb2 hcells hpm hsd)
  clear HS2 HCS
  rw [hn] at HPL
  clear HO1 hn
  go_wp2
  go_loopw [6] (fun z wr => ∃ i : Nat, 1 ≤ i ∧ i ≤ n + 1 ∧ z = .int .i64 i ∧ Below w2.heap.size w2 wr ∧ Hid (∀ j a b, j + 1 < i → d[j]? = some a → d[j + 1]? = some b → clashR a b = false)) (fun z _ => n + 1 - (intOf z).toNat)
  case atStart => exact ⟨1, by omega, by omega, rfl, Below.refl _ _, hide (fun j a b h => absurd h (by omega))⟩
  case round =>
    obtain ⟨i, hi1, hi2, rfl, hb, HP⟩ := hrel
    obtain ⟨wo, rfl⟩ : ∃ wo, wo = wr := ⟨_, rfl⟩
    have HBW := hide hb
    clear hb
    by_cases hlt : i < n
    case neg =>
      have HF := hide (HI.out.1 (fun j a b ha hb => HP.out j a b (by have := (List.getElem?_eq_some_iff.1 hb).1; have := HPL.out; omega) ha hb))
      go_wp2
      go_ret
      exact ⟨by rw [HF.out]; rfl, HB2.out.trans (HBW.out.mono HB2.out.size)⟩
    obtain ⟨m, rfl⟩ : ∃ m, i = m + 1 := ⟨i - 1, by omega⟩
    obtain ⟨a, ha⟩ : ∃ y, d[m]? = some y := ⟨_, List.getElem?_eq_getElem (by have := HPL.out; omega)⟩
    obtain ⟨b, hb⟩ : ∃ y, d[m + 1]? = some y := ⟨_, List.getElem?_eq_getElem (by have := HPL.out; omega)⟩
    obtain ⟨g, cap, hgA, hgc, hgl, hgcells⟩ := HC2.out (by omega)
    obtain ⟨rfl, rfl⟩ : A1 = some ⟨g, 0, none⟩ ∧ c1 = cap := by injection hgA with h1 h2 h3; exact ⟨h1, h3⟩
    clear hgA
    have HYES := hide (fun (h : clashR a b = true) => (show cl = true from by
      cases hc : cl with
      | true => rfl
      | false => have t := HI.out.2 hc m a b ha hb; rw [h] at t; cases t))
    have HNO := hide (fun (h : clashR a b = false) (j : Nat) (a' b' : HomeV) (hj : j + 1 < m + 1 + 1) (ha' : d[j]? = some a') (hb' : d[j + 1]? = some b') => (show clashR a' b' = false from by
      by_cases e : j = m
      · subst e
        rw [ha] at ha'
        rw [hb] at hb'
        injection ha' with ha'
        injection hb' with hb'
        subst ha'
        subst hb'
        exact h
      · exact HP.out j a' b' (by omega) ha' hb'))
    have HCL := hide (fun (W : World) (hW : Below wo.heap.size wo W) => And.intro (hgcells W (HBW.out.trans (hW.mono HBW.out.size)) m a ha) (hgcells W (HBW.out.trans (hW.mono HBW.out.size)) (m + 1) b hb))
    have hgo : g < wo.heap.size := Nat.lt_of_lt_of_le hgl HBW.out.size
    obtain ⟨⟨av, af, a1, ac⟩, ⟨ak, an⟩⟩ := a
    obtain ⟨⟨bv, bf, b1, bc⟩, ⟨bk, bn⟩⟩ := b
    clear ha hb hgcells
    obtain ⟨⟨p0, p1, p2, p3, p4, p5⟩, ⟨q0, q1, q2, q3, q4, q5⟩⟩ := HCL.out wo (Below.refl _ _)
    have hidx : ((m + 1 : Nat) : Int) - 1 = (m : Int) := by omega
    clear HI HP
    go_upto_region 6 with (fail)
    go_region
    · obtain ⟨w4, hw4⟩ := letr ((wo.alloc (.cells #[.int .i64 av, .int .i64 af, .int .i64 a1, .bool ac, .int .i64 ak, .int .i64 an] 53)).alloc (.cells #[.int .i64 bv, .int .i64 bf, .int .i64 b1, .bool bc, .int .i64 bk, .int .i64 bn] 53))
      obtain ⟨h4, hh4⟩ := letl wo.heap.size
      have HXA := lY2 hw4 hh4
      have HXB := lX2 hw4 hh4
      have HB4 := hide (show Below wo.heap.size wo w4 by rw [hw4]; exact alloc2 wo _ _)
      rw [← hw4, hh4]
      clear hw4 hh4 p0 p1 p2 p3 p4 p5 q0 q1 q2 q3 q4 q5 HCL
      obtain ⟨c0, c1, c2, c3, c4, c5⟩ := (And.intro (HXA.out.cell 0 (v := .int .i64 av) rfl).1 (And.intro (HXA.out.cell 1 (v := .int .i64 af) rfl).1 (And.intro (HXA.out.cell 2 (v := .int .i64 a1) rfl).1 (And.intro (HXA.out.cell 3 (v := .bool ac) rfl).1 (And.intro (HXA.out.cell 4 (v := .int .i64 ak) rfl).1 (HXA.out.cell 5 (v := .int .i64 an) rfl).1)))))
      obtain ⟨d0, d1, d2, d3, d4, d5⟩ := (And.intro (HXB.out.cell 0 (v := .int .i64 bv) rfl).1 (And.intro (HXB.out.cell 1 (v := .int .i64 bf) rfl).1 (And.intro (HXB.out.cell 2 (v := .int .i64 b1) rfl).1 (And.intro (HXB.out.cell 3 (v := .bool bc) rfl).1 (And.intro (HXB.out.cell 4 (v := .int .i64 bk) rfl).1 (HXB.out.cell 5 (v := .int .i64 bn) rfl).1)))))
      have la := HXA.out.lt
      have lb := HXB.out.lt
      have HC4 := hide (HBW.out.trans (HB4.out.mono HBW.out.size))
      rcases (show (ak = bk ∧ an = bn) ∨ ¬ ak = bk ∨ (ak = bk ∧ ¬ an = bn) by omega) with ⟨rfl, rfl⟩ | hne | ⟨rfl, hne⟩
      rotate_left
      · have HN := hide (HNO.out (by unfold clashR; rw [decide_eq_false (fun e => hne (by injection e))]; rfl))
        go_wp2
        go_roundw
        case rel => exact ⟨m + 1 + 1, by omega, by omega, by go_num, below_drewN HC4.out 1, hide (fun j a b hj => HN.out j a b hj)⟩
        case measure => simp [intOf]; omega
      · have HN := hide (HNO.out (by unfold clashR; rw [decide_eq_false (fun e => hne (by injection e))]; rfl))
        go_wp2
        go_roundw
        case rel => exact ⟨m + 1 + 1, by omega, by omega, by go_num, below_drewN HC4.out 1, hide (fun j a b hj => HN.out j a b hj)⟩
        case measure => simp [intOf]; omega
      have HM2 := hide (fun (W : World) => qmeet_any ⟨av, af, a1, ac⟩ ⟨bv, bf, b1, bc⟩ W)
      have HCR := hide (show clashR (⟨av, af, a1, ac⟩, ⟨ak, an⟩) (⟨bv, bf, b1, bc⟩, ⟨ak, an⟩) = meetB ⟨av, af, a1, ac⟩ ⟨bv, bf, b1, bc⟩ by unfold clashR; simp)
      obtain ⟨q, hq⟩ := letl (meetB ⟨av, af, a1, ac⟩ ⟨bv, bf, b1, bc⟩)
      rw [hq] at HM2 HCR
      unfold spA at HM2
      clear hq
      cases q
      · have HN := hide (HNO.out HCR.out)
        go_wp2_with (go_at_call 27; (with_reducible refine (HM2.out _).mono ?_); rintro e w5 ⟨rfl, hb5⟩)
        go_roundw
        case rel => exact ⟨m + 1 + 1, by omega, by omega, by go_num, (below_drewN HC4.out 1).trans (hb5.mono (Nat.le_trans HC4.out.size (Nat.le_refl _))), hide (fun j a b hj => HN.out j a b hj)⟩
        case measure => simp [intOf]; omega
      · have HF := hide (HYES.out HCR.out)
        go_wp2_with (go_at_call 27; (with_reducible refine (HM2.out _).mono ?_); rintro e w5 ⟨rfl, hb5⟩)
        go_ret
        exact ⟨by rw [HF.out]; rfl, HB2.out.trans (((below_drewN HC4.out 1).trans (hb5.mono (Nat.le_trans HC4.out.size (Nat.le_refl _)))).mono HB2.out.size)⟩
    · obtain ⟨w4, hw4⟩ := letr ((wo.alloc (.cells #[.int .i64 bv, .int .i64 bf, .int .i64 b1, .bool bc, .int .i64 bk, .int .i64 bn] 53)).alloc (.cells #[.int .i64 av, .int .i64 af, .int .i64 a1, .bool ac, .int .i64 ak, .int .i64 an] 53))
      obtain ⟨h4, hh4⟩ := letl wo.heap.size
      have HXB := lY2 hw4 hh4
      have HXA := lX2 hw4 hh4
      have HB4 := hide (show Below wo.heap.size wo w4 by rw [hw4]; exact alloc2 wo _ _)
      rw [← hw4, hh4]
      clear hw4 hh4 p0 p1 p2 p3 p4 p5 q0 q1 q2 q3 q4 q5 HCL
      obtain ⟨c0, c1, c2, c3, c4, c5⟩ := (And.intro (HXA.out.cell 0 (v := .int .i64 av) rfl).1 (And.intro (HXA.out.cell 1 (v := .int .i64 af) rfl).1 (And.intro (HXA.out.cell 2 (v := .int .i64 a1) rfl).1 (And.intro (HXA.out.cell 3 (v := .bool ac) rfl).1 (And.intro (HXA.out.cell 4 (v := .int .i64 ak) rfl).1 (HXA.out.cell 5 (v := .int .i64 an) rfl).1)))))
      obtain ⟨d0, d1, d2, d3, d4, d5⟩ := (And.intro (HXB.out.cell 0 (v := .int .i64 bv) rfl).1 (And.intro (HXB.out.cell 1 (v := .int .i64 bf) rfl).1 (And.intro (HXB.out.cell 2 (v := .int .i64 b1) rfl).1 (And.intro (HXB.out.cell 3 (v := .bool bc) rfl).1 (And.intro (HXB.out.cell 4 (v := .int .i64 bk) rfl).1 (HXB.out.cell 5 (v := .int .i64 bn) rfl).1)))))
      have la := HXA.out.lt
      have lb := HXB.out.lt
      have HC4 := hide (HBW.out.trans (HB4.out.mono HBW.out.size))
      rcases (show (ak = bk ∧ an = bn) ∨ ¬ ak = bk ∨ (ak = bk ∧ ¬ an = bn) by omega) with ⟨rfl, rfl⟩ | hne | ⟨rfl, hne⟩
      rotate_left
      · have HN := hide (HNO.out (by unfold clashR; rw [decide_eq_false (fun e => hne (by injection e))]; rfl))
        go_wp2
        go_roundw
        case rel => exact ⟨m + 1 + 1, by omega, by omega, by go_num, below_drewN HC4.out 1, hide (fun j a b hj => HN.out j a b hj)⟩
        case measure => simp [intOf]; omega
      · have HN := hide (HNO.out (by unfold clashR; rw [decide_eq_false (fun e => hne (by injection e))]; rfl))
        go_wp2
        go_roundw
        case rel => exact ⟨m + 1 + 1, by omega, by omega, by go_num, below_drewN HC4.out 1, hide (fun j a b hj => HN.out j a b hj)⟩
        case measure => simp [intOf]; omega
      have HM2 := hide (fun (W : World) => qmeet_any ⟨av, af, a1, ac⟩ ⟨bv, bf, b1, bc⟩ W)
      have HCR := hide (show clashR (⟨av, af, a1, ac⟩, ⟨ak, an⟩) (⟨bv, bf, b1, bc⟩, ⟨ak, an⟩) = meetB ⟨av, af, a1, ac⟩ ⟨bv, bf, b1, bc⟩ by unfold clashR; simp)
      obtain ⟨q, hq⟩ := letl (meetB ⟨av, af, a1, ac⟩ ⟨bv, bf, b1, bc⟩)
      rw [hq] at HM2 HCR
      unfold spA at HM2
      clear hq
      cases q
      · have HN := hide (HNO.out HCR.out)
        go_wp2_with (go_at_call 27; (with_reducible refine (HM2.out _).mono ?_); rintro e w5 ⟨rfl, hb5⟩)
        go_roundw
        case rel => exact ⟨m + 1 + 1, by omega, by omega, by go_num, (below_drewN HC4.out 1).trans (hb5.mono (Nat.le_trans HC4.out.size (Nat.le_refl _))), hide (fun j a b hj => HN.out j a b hj)⟩
        case measure => simp [intOf]; omega
      · have HF := hide (HYES.out HCR.out)
        go_wp2_with (go_at_call 27; (with_reducible refine (HM2.out _).mono ?_); rintro e w5 ⟨rfl, hb5⟩)
        go_ret
        exact ⟨by rw [HF.out]; rfl, HB2.out.trans (((below_drewN HC4.out 1).trans (hb5.mono (Nat.le_trans HC4.out.size (Nat.le_refl _)))).mono HB2.out.size)⟩
end Go.Proofs.Ytojobajeffipdaa
