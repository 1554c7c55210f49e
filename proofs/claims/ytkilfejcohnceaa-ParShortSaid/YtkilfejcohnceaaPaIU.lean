/- The statement ParShort, walked: it answers true. No condition. -/
import Derived.Test.YtkilfejcohnceaaPaIT
set_option linter.unusedSimpArgs false
set_option linter.unusedVariables false
namespace Go.Proofs.Ytkilfejcohnceaa
open Go.RowKit

theorem left_snocS {l : List MvV} {k : Nat} {m : MvV} (h : l[k]? = some m) : (leftO (l.take (k + 1))).length = (leftO (l.take k)).length + (if m.t = m.f then 0 else 1) := by
  rw [left_snoc h, List.length_append]
  unfold selfB
  by_cases e : m.t = m.f
  · simp [e]
  · simp [e]
theorem spares_snoc {l : List MvV} {k : Nat} {m : MvV} (sp : LcV) (h : l[k]? = some m) : sparesN sp (l.take (k + 1)) = sparesN sp (l.take k) + (if m.t = sp then 1 else 0) := by
  unfold sparesN
  rw [List.take_add_one, h, Option.toList_some, List.filter_append, List.length_append]
  by_cases e : m.t = sp
  · simp [e]
  · simp [e]
theorem left_le (l : List MvV) (k : Nat) : (leftO (l.take k)).length ≤ k := Nat.le_trans (List.length_filter_le _ _) (by rw [List.length_take]; omega)
theorem spares_le (sp : LcV) (l : List MvV) (k : Nat) : sparesN sp (l.take k) ≤ k := Nat.le_trans (List.length_filter_le _ _) (by rw [List.length_take]; omega)
set_option maxHeartbeats 4000000 in
set_option maxRecDepth 100000 in
theorem short17_law (v : Value) (l : List MvV) (sp : LcV) (w : World) (hl : MvsV w (· < w.heap.size) v l) (hsp : lcR sp) :
    Calls Try.prog 7 #[v, lcA sp] w fun e w' => e = .returned (.bool true) ∧ Below w.heap.size w w' := by
  have HAL := hide (fun (W : World) => alive17_any W)
  have HSP := hide hsp
  obtain ⟨A, c, rfl, hc, hcm⟩ := hl.open'
  obtain ⟨n, hn⟩ := letl l.length
  rw [hn] at hl hc ⊢
  by_cases hlim : n ≤ 40
  rotate_left
  · obtain ⟨sk, sn⟩ := sp
    unfold lcA
    clear hl hn
    have hgt : 40 < n := by omega
    go_enter Try.func7, Try.ntmps7
    go_wp2_with (go_at_call 8; refine (HAL.out _).mono ?_; rintro e w1 ⟨rfl, hb1⟩)
    go_ret
    exact ⟨rfl, (alloc1 w _).trans (hb1.mono (by simp))⟩
  have HLV := hide (fun (W : World) (hW : Below w.heap.size w W) => hl.up hW)
  have HN := hide hn
  have HMR := hide hl.range
  have HOU := hide (show okO l sp = true → (outL l sp).length = (leftO l).length + sparesN sp (outL l sp) ∧ 2 * sparesN sp (outL l sp) ≤ (leftO l).length from fun ho => by
    unfold outL
    rw [if_pos ho]
    have h1 := ord_len _ _ (ok_inv ho) (Nat.le_refl (dueN (leftO l)))
    have h2 := ord_spares (dueN (leftO l)) _ (ok_inv ho)
    exact ⟨h1, by unfold orderL; omega⟩)
  obtain ⟨sk, sn⟩ := sp
  unfold lcA
  clear hl hn hsp
  go_enter Try.func7, Try.ntmps7
  go_upto_region 1 with (fail)
  obtain ⟨w0, hw0⟩ := letr (w.alloc (.cells #[.int .i64 sk, .int .i64 sn] 24))
  obtain ⟨hs, hhs⟩ := letl w.heap.size
  have HXS := lBox hw0 hhs
  have HB0 := lBel hw0
  rw [← hw0, hhs]
  clear hw0 hhs
  go_upto_region 5 with (go_at_call 8; refine (HAL.out w0).mono ?_; rintro e w1 ⟨rfl, hb1⟩; have HX1 := hide (HXS.out.below hb1); have HB1 := hide (HB0.out.trans (hb1.mono HB0.out.size)); clear hb1 HXS)
  have HOR := hide ((iorder_any (.slice A n c) l ⟨sk, sn⟩ w1 (HLV.out w1 HB1.out) (by have := HN.out; omega) HSP.out).mono (R' := OutP w1 l ⟨sk, sn⟩) (fun e w' h => h.out))
  have HOK := hide (show okO l ⟨sk, sn⟩ = false → outE l ⟨sk, sn⟩ = 1 ∧ outL l ⟨sk, sn⟩ = [] from fun h => by unfold outE outL; rw [h]; exact ⟨rfl, rfl⟩)
  have HOK1 := hide (show okO l ⟨sk, sn⟩ = true → outE l ⟨sk, sn⟩ = 0 from fun h => by unfold outE; rw [h]; rfl)
  unfold lcA at HOR
  unfold OutP at HOR
  have x0 := (HX1.out.cell 0 (v := .int .i64 sk) rfl).1
  have x1 := (HX1.out.cell 1 (v := .int .i64 sn) rfl).1
  have lx := HX1.out.lt
  cases hok : okO l ⟨sk, sn⟩ with
  | false =>
    obtain ⟨e1, e2⟩ := HOK.out hok
    rw [e1, e2] at HOR
    simp only [List.length_nil] at HOR
    clear HOU HOK HOK1 e1 e2 hok
    go_upto_region 6 with (go_at_call 9; (with_reducible refine HOR.out.mono ?_); rintro e w6 ⟨A6, c6, rfl, hc6, hm6, ho6, hv6, hb6⟩; have HB6 := hide (HB1.out.trans (hb6.mono HB1.out.size)); clear ho6 hv6 hb6)
    go_wp2
    go_ret
    exact ⟨by simp, HB6.out⟩
  | true =>
    have e1 := HOK1.out hok
    rw [e1] at HOR
    obtain ⟨hq1, hq2⟩ := HOU.out hok
    obtain ⟨ol, hol⟩ := letl (outL l ⟨sk, sn⟩)
    rw [hol] at HOR hq1 hq2
    have HQ := hide (And.intro hq1 hq2)
    obtain ⟨m, hm⟩ := letl ol.length
    rw [hm] at HOR hq1
    have HM := hide hm
    have HM80 := hide (show m ≤ 80 from by
      have := left_le l n
      rw [List.take_of_length_le (by have := HN.out; omega)] at this
      omega)
    clear HOU HOK HOK1 e1 hok hol hm hq1 hq2
    go_upto_region 6 with (go_at_call 9; (with_reducible refine HOR.out.mono ?_); rintro e w6 ⟨A6, c6, rfl, hc6, hm6, ho6, hv6, hb6⟩; have HV6 := hide hv6; have HB6 := hide (HB1.out.trans (hb6.mono HB1.out.size)); have HX6 := hide (HX1.out.below hb6); clear ho6 hv6 hb6)
    clear x0 x1 lx HOR HX1
    go_upto_region 10 with (fail)
    go_loopw [7, 9] (fun z i wr => ∃ k : Nat, k ≤ n ∧ i = .int .i64 (k : Int) ∧ z = .int .i64 (((leftO (l.take k)).length : Nat) : Int) ∧ Below w6.heap.size w6 wr) (fun _ i _ => n - (intOf i).toNat)
    case atStart => exact ⟨0, Nat.zero_le _, rfl, rfl, Below.refl _ _⟩
    case round =>
      obtain ⟨k, hk, rfl, rfl, hb⟩ := hrel
      obtain ⟨w7, rfl⟩ : ∃ w7, w7 = wr := ⟨_, rfl⟩
      have HB7 := hide hb
      clear hb
      by_cases hlt : k < n
      case neg =>
        obtain rfl : n = k := by omega
        have hnn : ¬ ((n : Int) < (n : Int)) := by omega
        rw [List.take_of_length_le (by have := HN.out; omega)]
        have HP40 := hide (show (leftO l).length ≤ 40 from by
          have := left_le l n
          rw [List.take_of_length_le (by have := HN.out; omega)] at this
          omega)
        obtain ⟨p, hp⟩ := letl (leftO l).length
        rw [hp] at HQ HP40 ⊢
        clear hp
        go_upto_region 15 with (fail)
        go_loopw [8, 10] (fun z i wr => ∃ j : Nat, j ≤ m ∧ i = .int .i64 (j : Int) ∧ z = .int .i64 ((sparesN ⟨sk, sn⟩ (ol.take j) : Nat) : Int) ∧ Below w6.heap.size w6 wr) (fun _ i _ => m - (intOf i).toNat)
        case atStart => exact ⟨0, Nat.zero_le _, rfl, rfl, HB7.out⟩
        case round =>
          obtain ⟨j, hj, rfl, rfl, hb⟩ := hrel
          obtain ⟨w8, rfl⟩ : ∃ w8, w8 = wr := ⟨_, rfl⟩
          have HB8 := hide hb
          clear hb
          by_cases hjl : j < m
          case neg =>
            obtain rfl : m = j := by omega
            have hnn2 : ¬ ((m : Int) < (m : Int)) := by omega
            rw [List.take_of_length_le (by have := HM.out; omega)]
            obtain ⟨q, hq⟩ := letl (sparesN ⟨sk, sn⟩ ol)
            rw [hq, HM.out] at HQ
            rw [hq]
            clear hq
            have hp40 := HP40.out
            obtain ⟨hq1, hq2⟩ := HQ.out
            have hw1 : IntKind.i64.wrap ((p : Int) + (q : Int)) = (p : Int) + (q : Int) := IntWalk.i64_in _ ⟨by omega, by omega⟩
            have hw2 : IntKind.i64.wrap (2 * (q : Int)) = 2 * (q : Int) := IntWalk.i64_in _ ⟨by omega, by omega⟩
            have hpq : (m : Int) = (p : Int) + (q : Int) := by omega
            have hpq2 : 2 * (q : Int) ≤ (p : Int) := by omega
            clear hj HB7 HM80 hlt hnn hq1 hk hlim hc
            go_wp2
            go_ret
            exact ⟨by first | rfl | simp, HB6.out.trans (HB8.out.mono HB6.out.size)⟩
          obtain ⟨y, hy⟩ : ∃ y, ol[j]? = some y := ⟨_, List.getElem?_eq_getElem (by have := HM.out; omega)⟩
          obtain ⟨b, o, hA, -⟩ := HV6.out.get hy
          subst hA
          obtain ⟨d1, d2, -, -, lb⟩ := HV6.out.at' HB8.out hy
          have x0 := ((HX6.out.belowB HB8.out HX6.out.lt).cell 0 (v := .int .i64 sk) rfl).1
          have x1 := ((HX6.out.belowB HB8.out HX6.out.lt).cell 1 (v := .int .i64 sn) rfl).1
          have lx := (HX6.out.belowB HB8.out HX6.out.lt).lt
          have HSN := hide (spares_snoc ⟨sk, sn⟩ hy)
          have hsl := spares_le ⟨sk, sn⟩ ol j
          have e1 := lc_cases y.t ⟨sk, sn⟩
          obtain ⟨s0, hs0⟩ := letl (sparesN ⟨sk, sn⟩ (ol.take j))
          rw [hs0] at HSN hsl ⊢
          have hm80 := HM80.out
          have hws : IntKind.i64.wrap ((s0 : Int) + 1) = (s0 : Int) + 1 := IntWalk.i64_in _ ⟨by omega, by omega⟩
          have hj0 : (0 : Int) ≤ (j : Int) := by omega
          have hj1 : (j : Int) < (m : Int) := by omega
          have HJL := hide hjl
          obtain ⟨⟨yk, yn⟩, ⟨zk, zn⟩⟩ := y
          simp only at d1 d2 e1 HSN
          clear hy hs0
          rcases e1 with e1 | e1
          · rw [if_pos e1] at HSN
            injection e1 with e1 e2
            subst e1
            subst e2
            go_wp2
            go_quiet (fail)
            go_wp2
            go_roundw
            case rel => exact ⟨j + 1, by have := HJL.out; omega, by go_num, by rw [HSN.out]; go_num, below_drewN HB8.out _⟩
            case measure => have := HJL.out; simp [intOf]; omega
          · rw [if_neg (fun e => by injection e with e2 e3; rcases e1 with h | h <;> simp_all), Nat.add_zero] at HSN
            rcases e1 with e1 | ⟨e0, e1⟩
            all_goals
              try subst e0
              go_wp2
              go_quiet (fail)
              go_wp2
              go_roundw
              case rel => exact ⟨j + 1, by have := HJL.out; omega, by go_num, by simp [HSN.out], below_drewN HB8.out _⟩
              case measure => have := HJL.out; simp [intOf]; omega
      obtain ⟨y, hy⟩ : ∃ y, l[k]? = some y := ⟨_, List.getElem?_eq_getElem (by have := HN.out; omega)⟩
      have HW7 := hide (HB6.out.trans (HB7.out.mono HB6.out.size))
      obtain ⟨b, o, hA, -⟩ := (HLV.out w (Below.refl _ _)).get hy
      subst hA
      obtain ⟨d1, d2, d3, d4, lb⟩ := (HLV.out w (Below.refl _ _)).at' HW7.out hy
      have HSN := hide (left_snocS hy)
      have hsl := left_le l k
      have e1 := lc_cases y.t y.f
      obtain ⟨s0, hs0⟩ := letl (leftO (l.take k)).length
      rw [hs0] at HSN hsl ⊢
      have hws : IntKind.i64.wrap ((s0 : Int) + 1) = (s0 : Int) + 1 := IntWalk.i64_in _ ⟨by omega, by omega⟩
      have hj0 : (0 : Int) ≤ (k : Int) := by omega
      have hj1 : (k : Int) < (n : Int) := by omega
      have HJL := hide hlt
      obtain ⟨⟨yk, yn⟩, ⟨zk, zn⟩⟩ := y
      simp only at d1 d2 d3 d4 e1 HSN
      clear hy hs0
      rcases e1 with e1 | e1
      · rw [if_pos e1, Nat.add_zero] at HSN
        injection e1 with e1 e2
        subst e1
        subst e2
        go_wp2
        go_quiet (fail)
        go_wp2
        go_roundw
        case rel => exact ⟨k + 1, by have := HJL.out; omega, by go_num, by simp [HSN.out], below_drewN HB7.out _⟩
        case measure => have := HJL.out; simp [intOf]; omega
      · rw [if_neg (fun e => by injection e with e2 e3; rcases e1 with h | h <;> simp_all)] at HSN
        rcases e1 with e1 | ⟨e0, e1⟩
        all_goals
          try subst e0
          go_wp2
          go_quiet (fail)
          go_wp2
          go_roundw
          case rel => exact ⟨k + 1, by have := HJL.out; omega, by go_num, by rw [HSN.out]; go_num, below_drewN HB7.out _⟩
          case measure => have := HJL.out; simp [intOf]; omega
end Go.Proofs.Ytkilfejcohnceaa
