/- The statement ParNone, walked: it answers true. No condition. -/
import Derived.Test.YtkilfejcohnceaaPaIT
set_option linter.unusedSimpArgs false
set_option linter.unusedVariables false
namespace Go.Proofs.Ytkilfejcohnceaa
open Go.RowKit

theorem out_ok {l : List MvV} {sp : LcV} : outE l sp = 0 ↔ okO l sp = true := by
  unfold outE
  split <;> simp_all
set_option maxHeartbeats 2000000 in
set_option maxRecDepth 100000 in
theorem ihas_any (v : Value) (ls : List LcV) (sp : LcV) (w : World) (hl : LcsV w (· < w.heap.size) v ls) (hm : ls.length ≤ 1000) :
    Calls Try.prog 18 #[v, lcA sp] w fun e w' => e = .returned (.bool (ls.any (fun x => decide (x = sp)))) ∧ Below w.heap.size w w' := by
  obtain ⟨A, c, rfl, hc, hcm⟩ := hl.open'
  obtain ⟨n, hn⟩ := letl ls.length
  rw [hn] at hl hc hm ⊢
  have HL := hide hl
  have HN := hide hn
  obtain ⟨sk, sn⟩ := sp
  unfold lcA
  clear hl hn
  go_enter Try.func18, Try.ntmps18
  go_upto_region 1 with (fail)
  obtain ⟨w1, hw1⟩ := letr (w.alloc (.cells #[.int .i64 sk, .int .i64 sn] 24))
  obtain ⟨hs, hhs⟩ := letl w.heap.size
  have HXS := lBox hw1 hhs
  have HB1 := lBel hw1
  rw [← hw1, hhs]
  clear hw1 hhs
  go_upto_region 2 with (fail)
  go_loopw [5] (fun z wr => ∃ k : Nat, k ≤ n ∧ z = .int .i64 (k : Int) ∧ Below w1.heap.size w1 wr ∧ Hid (∀ x ∈ ls.take k, x ≠ ⟨sk, sn⟩)) (fun z _ => n - (intOf z).toNat)
  case atStart => exact ⟨0, Nat.zero_le _, rfl, Below.refl _ _, hide (fun x hx => by cases hx)⟩
  case round =>
    obtain ⟨k, hk, rfl, hb, HNO⟩ := hrel
    obtain ⟨wo, rfl⟩ : ∃ wo, wo = wr := ⟨_, rfl⟩
    have HB := hide hb
    clear hb
    have HBW := hide (HB1.out.trans (HB.out.mono HB1.out.size))
    by_cases hlt : k < n
    case neg =>
      obtain rfl : n = k := by omega
      have hnn : ¬ ((n : Int) < (n : Int)) := by omega
      rw [List.take_of_length_le (Nat.le_of_eq HN.out)] at HNO
      have HE := hide (show ls.any (fun x => decide (x = ⟨sk, sn⟩)) = false from List.any_eq_false.2 (fun x hx => by simpa using HNO.out x hx))
      go_wp2
      go_ret
      exact ⟨by rw [HE.out]; rfl, HBW.out⟩
    obtain ⟨y, hy⟩ : ∃ y, ls[k]? = some y := ⟨_, List.getElem?_eq_getElem (by have := HN.out; omega)⟩
    obtain ⟨b, o, hA, -⟩ := HL.out.get hy
    subst hA
    obtain ⟨d1, d2, lb⟩ := HL.out.at' HBW.out hy
    have x0 := ((HXS.out.belowB HB.out HXS.out.lt).cell 0 (v := .int .i64 sk) rfl).1
    have x1 := ((HXS.out.belowB HB.out HXS.out.lt).cell 1 (v := .int .i64 sn) rfl).1
    have lx := (HXS.out.belowB HB.out HXS.out.lt).lt
    have HY := hide hy
    have HLT := hide hlt
    have e1 := lc_cases y ⟨sk, sn⟩
    have hj0 : (0 : Int) ≤ (k : Int) := by omega
    have hj1 : (k : Int) < (n : Int) := by omega
    have HNX := hide (fun (h : y ≠ ⟨sk, sn⟩) => (show ∀ x ∈ ls.take (k + 1), x ≠ ⟨sk, sn⟩ from fun x hx => by
      rw [List.take_add_one, HY.out, Option.toList_some, List.mem_append, List.mem_singleton] at hx
      rcases hx with hx | rfl
      · exact HNO.out x hx
      · exact h))
    have HYS := hide (fun (h : y = ⟨sk, sn⟩) => (show ls.any (fun x => decide (x = ⟨sk, sn⟩)) = true from List.any_eq_true.2 ⟨y, List.mem_of_getElem? HY.out, by simpa using h⟩))
    obtain ⟨yk, yn⟩ := y
    simp only at d1 d2 e1
    clear hy
    rcases e1 with e1 | e1
    · have HE := hide (HYS.out e1)
      injection e1 with e1 e2
      subst e1
      subst e2
      go_wp2
      go_quiet (fail)
      go_wp2
      go_ret
      exact ⟨by rw [HE.out]; rfl, below_drewN HBW.out _⟩
    · have HE := hide (HNX.out (fun e => by injection e with e2 e3; rcases e1 with h | h <;> simp_all))
      rcases e1 with e1 | ⟨e0, e1⟩
      all_goals
        try subst e0
        go_wp2
        go_quiet (fail)
        go_wp2
        go_roundw
        case rel => exact ⟨k + 1, by have := HLT.out; omega, by go_num, below_drewN HB.out _, HE⟩
        case measure => have := HLT.out; simp [intOf]; omega
def selfL (ls : List LcV) : List MvV := ls.map (fun x => ⟨x, x⟩)
theorem self_snoc {ls : List LcV} {k : Nat} {y : LcV} (h : ls[k]? = some y) : selfL (ls.take (k + 1)) = selfL (ls.take k) ++ [⟨y, y⟩] := by
  unfold selfL
  rw [List.take_add_one, h, Option.toList_some, List.map_append]
  rfl
theorem self_left (ls : List LcV) : leftO (selfL ls) = [] := by
  unfold leftO selfL
  rw [List.filter_eq_nil_iff]
  intro m hm
  obtain ⟨x, -, rfl⟩ := List.mem_map.1 hm
  simp [selfB]
theorem self_out (ls : List LcV) (sp : LcV) : outL (selfL ls) sp = [] := by
  unfold outL
  split
  · unfold orderL
    rw [self_left, ord_nil]
  · rfl
theorem self_ok (ls : List LcV) (sp : LcV) : okO (selfL ls) sp = (right17 (selfL ls) && (mayB17 sp && !(ls.any (fun x => decide (x = sp))))) := by
  unfold okO
  congr 2
  unfold selfL
  rw [List.any_map]
  congr 2
  funext x
  simp
theorem one_ok {ls : List LcV} {sp x other : LcV} (h : okO (selfL ls) sp = true) (hx : ls[0]? = some x) (ho : mayB17 other = true) (h1 : other ≠ sp) (h2 : other ≠ x) : outE [⟨sp, x⟩] other = 0 ∧ outL [⟨sp, x⟩] other = [⟨sp, x⟩] := by
  rw [self_ok] at h
  simp only [Bool.and_eq_true, Bool.not_eq_true'] at h
  obtain ⟨hr, hs, hn⟩ := h
  have hxs : sp ≠ x := fun e => by
    have := List.any_eq_false.1 hn x (List.mem_of_getElem? hx)
    rw [e] at this
    simp at this
  have hmx : mayB17 x = true := by
    cases ls with
    | nil => cases hx
    | cons a t =>
      simp at hx
      subst hx
      simp only [selfL, List.map_cons, right17, Bool.and_eq_true] at hr
      exact hr.1
  have hok : okO [⟨sp, x⟩] other = true := by
    unfold okO
    simp [right17, hs, hmx, ho, metO, Ne.symm h1, Ne.symm h2]
  refine ⟨out_ok.2 hok, ?_⟩
  unfold outL
  rw [if_pos hok]
  have hl : leftO [(⟨sp, x⟩ : MvV)] = [⟨sp, x⟩] := by simp [leftO, selfB, hxs]
  unfold orderL
  rw [hl]
  have hf : freeN [(⟨sp, x⟩ : MvV)] = 0 := by simp [freeN, askB, Ne.symm hxs, List.findIdx_cons]
  have hd : dueN [(⟨sp, x⟩ : MvV)] = 2 := by unfold dueN; rw [hf]; rfl
  rw [hd, ord_step 1 (by simp)]
  have hs1 : stepO other [(⟨sp, x⟩ : MvV)] = (⟨sp, x⟩, []) := by unfold stepO; rw [hf]; rfl
  rw [hs1]
  simp [ord_nil]
theorem mvs_one {w : World} {g : Nat} {a : MvV} (ha : lcR a.t ∧ lcR a.f) (h : Box w g #[.int .i64 a.t.k, .int .i64 a.t.n, .int .i64 a.f.k, .int .i64 a.f.n] 38) : MvsV w (· < w.heap.size) (.slice (some ⟨g, 0, none⟩) 1 1) [a] := by
  refine ⟨_, _, rfl, Nat.le_refl _, by omega, fun _ => ⟨g, 0, rfl, h.lt, fun j x hj => ?_⟩⟩
  match j, hj with
  | 0, hj =>
    simp at hj
    subst hj
    exact ⟨⟨(h.cell 0 rfl).1, (h.cell 1 rfl).1, (h.cell 2 rfl).1, (h.cell 3 rfl).1⟩, ha⟩
  | j + 1, hj => simp at hj
set_option maxHeartbeats 8000000 in
set_option maxRecDepth 100000 in
theorem none17_law (v : Value) (ls : List LcV) (sp : LcV) (w : World) (hl : LcsV w (· < w.heap.size) v ls) (hsp : lcR sp) :
    Calls Try.prog 6 #[v, lcA sp] w fun e w' => e = .returned (.bool true) ∧ Below w.heap.size w w' := by
  have HAL := hide (fun (W : World) => alive17_any W)
  have HSP := hide hsp
  obtain ⟨A, c, rfl, hc, hcm⟩ := hl.open'
  obtain ⟨n, hn⟩ := letl ls.length
  rw [hn] at hl hc ⊢
  obtain ⟨sk, sn⟩ := sp
  unfold lcA
  by_cases hlim : n ≤ 40
  rotate_left
  · clear hl hn
    have hgt : 40 < n := by omega
    go_enter Try.func6, Try.ntmps6
    go_wp2_with (go_at_call 8; refine (HAL.out _).mono ?_; rintro e w1 ⟨rfl, hb1⟩)
    go_ret
    exact ⟨rfl, (alloc1 w _).trans (hb1.mono (by simp))⟩
  have HL := hide hl
  have HN := hide hn
  have HLR := hide (lcs_range17 hl)
  obtain ⟨i0, hi0, iz0, iz1, iz2⟩ := info_parts info_mv
  have HI := hide hi0
  clear hl hn hi0 hsp
  go_enter Try.func6, Try.ntmps6
  go_upto_region 1 with (fail)
  obtain ⟨w0, hw0⟩ := letr (w.alloc (.cells #[.int .i64 sk, .int .i64 sn] 24))
  obtain ⟨hs, hhs⟩ := letl w.heap.size
  have HXS := lBox hw0 hhs
  have HB0 := lBel hw0
  rw [← hw0, hhs]
  clear hw0 hhs
  go_upto_region 5 with (go_at_call 8; refine (HAL.out w0).mono ?_; rintro e w1 ⟨rfl, hb1⟩; have HX1 := hide (HXS.out.below hb1); have HB1 := hide (HB0.out.trans (hb1.mono HB0.out.size)); clear hb1 HXS)
  go_upto_region 7 with (fail)
  go_loopw [5, 6] (fun u i wr => ∃ k : Nat, k ≤ n ∧ i = .int .i64 (k : Int) ∧ Hid (OwC mvC 38 4 wr w1.heap.size u (selfL (ls.take k))) ∧ Below w1.heap.size w1 wr) (fun _ i _ => n - (intOf i).toNat)
  case atStart => exact ⟨0, Nat.zero_le _, rfl, hide (OwC.nil _ _), Below.refl _ _⟩
  case round =>
    obtain ⟨k, hk, rfl, HOU, hb⟩ := hrel
    obtain ⟨wo, rfl⟩ : ∃ wo, wo = wr := ⟨_, rfl⟩
    have HB := hide hb
    clear hb
    have HBW := hide (HB1.out.trans (HB.out.mono HB1.out.size))
    obtain ⟨Au, cu, hvu, hcu, hcu2⟩ := HOU.out.sl
    have hlk : (selfL (ls.take k)).length = k := by
      have := HN.out
      simp [selfL, List.length_take]
      omega
    rw [hlk] at hvu hcu
    subst hvu
    have HLK := hide hlk
    have HCU := hide hcu2
    clear hlk hcu2
    by_cases hlt : k < n
    case neg =>
      obtain rfl : n = k := by omega
      have hnn : ¬ ((n : Int) < (n : Int)) := by omega
      rw [List.take_of_length_le (Nat.le_of_eq HN.out)] at HOU HLK
      have HMR := hide (show mvR (selfL ls) from fun m hm => by
        obtain ⟨x, hx, rfl⟩ := List.mem_map.1 hm
        exact ⟨HLR.out x hx, HLR.out x hx⟩)
      have HV := hide (mvs_own HOU.out HMR.out)
      have HOR := hide ((iorder_any (.slice Au n cu) (selfL ls) ⟨sk, sn⟩ wo HV.out (by have := HLK.out; omega) HSP.out).mono (R' := OutP wo (selfL ls) ⟨sk, sn⟩) (fun e w' h => h.out))
      unfold lcA at HOR
      unfold OutP at HOR
      rw [self_out] at HOR
      simp only [List.length_nil] at HOR
      have HSO := hide (self_ok ls ⟨sk, sn⟩)
      have HXO := hide (HX1.out.belowB HB.out HX1.out.lt)
      have x0 := (HXO.out.cell 0 (v := .int .i64 sk) rfl).1
      have x1 := (HXO.out.cell 1 (v := .int .i64 sn) rfl).1
      have lx := HXO.out.lt
      cases hok : okO (selfL ls) ⟨sk, sn⟩ with
      | false =>
        have e1 : outE (selfL ls) ⟨sk, sn⟩ = 1 := by unfold outE; rw [hok]; rfl
        rw [e1] at HOR
        rw [hok] at HSO
        clear e1 hok
        go_upto_region 11 with (go_at_call 9; (with_reducible refine HOR.out.mono ?_); rintro e w6 ⟨A6, c6, rfl, hc6, hm6, ho6, hv6, hb6⟩; have HB6 := hide hb6; have HX6 := hide (HXO.out.below hb6); clear ho6 hv6 hb6)
        clear x0 x1 lx
        have HW6 := hide (HBW.out.trans (HB6.out.mono HBW.out.size))
        have HRP := hide (iright_any (.slice Au n cu) (selfL ls) w6 (HV.out.up HB6.out) (by have := HLK.out; omega))
        have HMY := hide (fun (W : World) => imay_any ⟨sk, sn⟩ W)
        have HHS := hide (fun (W : World) (hW : Below w.heap.size w W) => ihas_any (.slice A n c) ls ⟨sk, sn⟩ W (HL.out.up hW) (by have := HN.out; omega))
        unfold lcA at HMY HHS
        obtain ⟨b1, hb1⟩ := letl (right17 (selfL ls))
        obtain ⟨b2, hb2⟩ := letl (mayB17 ⟨sk, sn⟩)
        obtain ⟨b3, hb3⟩ := letl (ls.any (fun x => decide (x = ⟨sk, sn⟩)))
        rw [hb1, hb2, hb3] at HSO
        rw [hb1] at HRP
        rw [hb2] at HMY
        rw [hb3] at HHS
        clear hb1 hb2 hb3
        have x0 := (HX6.out.cell 0 (v := .int .i64 sk) rfl).1
        have x1 := (HX6.out.cell 1 (v := .int .i64 sn) rfl).1
        have lx := HX6.out.lt
        cases b1 with
        | false =>
          go_wp2_with (go_at_call 12; (with_reducible refine HRP.out.mono ?_); rintro e w7 ⟨rfl, hb7⟩)
          go_ret
          exact ⟨by simp, HW6.out.trans (hb7.mono HW6.out.size)⟩
        | true =>
        cases b2 with
        | false =>
          go_wp2_with (first
            | (go_at_call 17; (with_reducible refine (HMY.out w7).mono ?_); rintro e w8 ⟨rfl, hb8⟩; have c8 := hide (c7.out.trans (hb8.mono c7.out.size)); clear hb8)
            | (go_at_call 12; (with_reducible refine HRP.out.mono ?_); rintro e w7 ⟨rfl, hb7⟩; have c7 := hide (HW6.out.trans (hb7.mono HW6.out.size)); have x0 := (hb7.cell (p := ⟨hs, 0, none⟩) lx).trans x0; have x1 := (hb7.cell (p := ⟨hs, 1, none⟩) lx).trans x1; have lx : hs < w7.heap.size := Nat.lt_of_lt_of_le lx hb7.size; clear hb7))
          go_ret
          exact ⟨by simp, c8.out⟩
        | true =>
        cases b3 with
        | false => exact absurd HSO.out (by simp)
        | true =>
          go_wp2_with (first
            | (go_at_call 18; (with_reducible refine (HHS.out w8 c8.out).mono ?_); rintro e w9 ⟨rfl, hb9⟩; have c9 := hide (c8.out.trans (hb9.mono c8.out.size)); clear hb9)
            | (go_at_call 17; (with_reducible refine (HMY.out w7).mono ?_); rintro e w8 ⟨rfl, hb8⟩; have c8 := hide (c7.out.trans (hb8.mono c7.out.size)); have x0 := (hb8.cell (p := ⟨hs, 0, none⟩) lx).trans x0; have x1 := (hb8.cell (p := ⟨hs, 1, none⟩) lx).trans x1; have lx : hs < w8.heap.size := Nat.lt_of_lt_of_le lx hb8.size; clear hb8)
            | (go_at_call 12; (with_reducible refine HRP.out.mono ?_); rintro e w7 ⟨rfl, hb7⟩; have c7 := hide (HW6.out.trans (hb7.mono HW6.out.size)); have x0 := (hb7.cell (p := ⟨hs, 0, none⟩) lx).trans x0; have x1 := (hb7.cell (p := ⟨hs, 1, none⟩) lx).trans x1; have lx : hs < w7.heap.size := Nat.lt_of_lt_of_le lx hb7.size; clear hb7))
          go_ret
          exact ⟨by simp, c9.out⟩
      | true =>
        have e1 : outE (selfL ls) ⟨sk, sn⟩ = 0 := by unfold outE; rw [hok]; rfl
        rw [e1] at HOR
        have HOK := hide hok
        clear e1 hok
        go_upto_region 11 with (go_at_call 9; (with_reducible refine HOR.out.mono ?_); rintro e w6 ⟨A6, c6, rfl, hc6, hm6, ho6, hv6, hb6⟩; have HB6 := hide hb6; have HX6 := hide (HXO.out.below hb6); clear ho6 hv6 hb6)
        clear x0 x1 lx
        have HW6 := hide (HBW.out.trans (HB6.out.mono HBW.out.size))
        rcases Nat.eq_zero_or_pos n with h0 | h0
        · subst h0
          go_wp2
          go_ret
          exact ⟨by simp, HW6.out⟩
        have h0' : ¬ (n : Int) = 0 := by omega
        go_upto_region 15 with (fail)
        obtain ⟨y, hy⟩ : ∃ y, ls[0]? = some y := ⟨_, List.getElem?_eq_getElem (by have := HN.out; omega)⟩
        obtain ⟨b, o, hA, hbw, -⟩ := HL.out.get hy
        subst hA
        obtain ⟨d1, d2, -⟩ := HL.out.at' HW6.out hy
        rw [Nat.zero_mul, Nat.add_zero] at d1 d2
        have HYR := hide (HLR.out y (List.mem_of_getElem? hy))
        have HONE := hide (fun (h1 : (⟨2, 158⟩ : LcV) ≠ ⟨sk, sn⟩) (h2 : (⟨2, 158⟩ : LcV) ≠ y) => one_ok HOK.out hy (by rfl) h1 h2)
        have HBL := hide (show b < w6.heap.size from Nat.lt_of_lt_of_le hbw HW6.out.size)
        obtain ⟨yk, yn⟩ := y
        simp only at d1 d2
        have HD := hide (And.intro d1 d2)
        clear hy d1 d2 hbw HOU HV HOR HSO HXO HOK h0'
        have HKS := hide (fun (W : World) (hW : Below w6.heap.size w6 W) => (show W.cell? ⟨hs, 0, none⟩ = some (.int .i64 sk) ∧ W.cell? ⟨hs, 1, none⟩ = some (.int .i64 sn) ∧ W.cell? ⟨b, o, none⟩ = some (.int .i64 yk) ∧ W.cell? ⟨b, o + 1, none⟩ = some (.int .i64 yn) ∧ hs < W.heap.size ∧ b < W.heap.size from ⟨((HX6.out.below hW).cell 0 (v := .int .i64 sk) rfl).1, ((HX6.out.below hW).cell 1 (v := .int .i64 sn) rfl).1, (hW.cell (p := ⟨b, o, none⟩) HBL.out).trans HD.out.1, (hW.cell (p := ⟨b, o + 1, none⟩) HBL.out).trans HD.out.2, (HX6.out.below hW).lt, Nat.lt_of_lt_of_le HBL.out hW.size⟩))
        have BE0 := hide (show Below w6.heap.size w6 w6.drew from below_drewN (Below.refl _ _) 1)
        refine wp_region_til (fun w' => w'.cell? ⟨hs, 0, none⟩ = some (.int .i64 sk) ∧ w'.cell? ⟨hs, 1, none⟩ = some (.int .i64 sn) ∧ w'.cell? ⟨b, o, none⟩ = some (.int .i64 yk) ∧ w'.cell? ⟨b, o + 1, none⟩ = some (.int .i64 yn) ∧ hs < w'.heap.size ∧ b < w'.heap.size) 5 (by kernel_rfl) (HKS.out _ BE0.out) ?_
        obtain ⟨w100, hw100⟩ : ∃ w100, w100 = w6.drew := ⟨_, rfl⟩
        have BE100 := hide (show Below w6.heap.size w6 w100 by rw [hw100]; exact BE0.out)
        rw [← hw100]
        have hSd := HKS.out w100 BE100.out
        clear hw100
        refine tilM 1 (Or.inr hSd) ?_
        refine tilM 2 (Or.inr hSd) ?_
        refine tilD 0 [5, 4] hSd ?_
        refine tilD 3 [5, 4] hSd ?_
        refine tilM 4 (Or.inr hSd) ?_
        refine wpTil_ready (rs := [5]) (by kernel_rfl) (by simp) ?_
        refine AllTil.last rfl (by rfl) (fun K hK => ?_)
        rw [if_pos (by rfl)]
        go_simp
        obtain ⟨Hb, hHb⟩ := letl w100.heap.size
        obtain ⟨w101, hw101⟩ := letr (w100.alloc (.cells #[.int .i64 sk, .int .i64 sn, .int .i64 yk, .int .i64 yn] 38))
        have BXb := lBox hw101 hHb
        have BE101 := hide (show Below w6.heap.size w6 w101 from BE100.out.trans ((lBel hw101).out.mono BE100.out.size))
        rw [← hw101, hHb]
        clear hw101 hHb
        refine hK.out _ _ ?_
        clear hK K hSd
        try simp only [tilS, Act.put]
        refine tilM 6 (Or.inl (by rfl)) ?_
        refine wpTil_done (by kernel_rfl) ?_ _
        go_upto_region 17 with (fail)
        obtain ⟨w16, hw16⟩ := letr (w101.alloc (.cells #[.int .i64 2, .int .i64 158] 24))
        obtain ⟨h10, hh10⟩ := letl w101.heap.size
        have HX10 := lBox hw16 hh10
        have HB16 := hide (show Below w6.heap.size w6 w16 from BE101.out.trans ((lBel hw16).out.mono BE101.out.size))
        have HXb := hide (BXb.out.below (lBel hw16).out)
        rw [← hw16, hh10]
        clear hw16 hh10
        have HW16 := hide (HW6.out.trans (HB16.out.mono HW6.out.size))
        have HXS16 := hide (HX6.out.belowB HB16.out HX6.out.lt)
        have HONEV := hide (mvs_one (a := ⟨⟨sk, sn⟩, ⟨yk, yn⟩⟩) ⟨HSP.out, HYR.out⟩ HXb.out)
        have HO2 := hide ((iorder_any (.slice (some ⟨Hb, 0, none⟩) 1 1) [⟨⟨sk, sn⟩, ⟨yk, yn⟩⟩] ⟨2, 158⟩ w16 HONEV.out (by simp) (lcR_small (by omega))).mono (R' := OutP w16 [⟨⟨sk, sn⟩, ⟨yk, yn⟩⟩] ⟨2, 158⟩) (fun e w' h => h.out))
        unfold lcA at HO2
        unfold OutP at HO2
        have hSd : b < w16.heap.size := Nat.lt_of_lt_of_le HBL.out HB16.out.size
        obtain ⟨z0, -⟩ := HX10.out.cell 0 (v := .int .i64 2) rfl
        obtain ⟨z1, -⟩ := HX10.out.cell 1 (v := .int .i64 158) rfl
        have lz := HX10.out.lt
        have HCELL := hide (fun (W : World) (hW : Below w16.heap.size w16 W) => (show W.cell? ⟨h10, 0, none⟩ = some (.int .i64 2) ∧ W.cell? ⟨h10, 1, none⟩ = some (.int .i64 158) ∧ W.cell? ⟨hs, 0, none⟩ = some (.int .i64 sk) ∧ W.cell? ⟨hs, 1, none⟩ = some (.int .i64 sn) ∧ W.cell? ⟨b, o, none⟩ = some (.int .i64 yk) ∧ W.cell? ⟨b, o + 1, none⟩ = some (.int .i64 yn) ∧ h10 < W.heap.size ∧ hs < W.heap.size ∧ b < W.heap.size from ⟨((HX10.out.below hW).cell 0 (v := .int .i64 2) rfl).1, ((HX10.out.below hW).cell 1 (v := .int .i64 158) rfl).1, ((HXS16.out.below hW).cell 0 (v := .int .i64 sk) rfl).1, ((HXS16.out.below hW).cell 1 (v := .int .i64 sn) rfl).1, ((hW.cell (p := ⟨b, o, none⟩) hSd).trans ((HB16.out.cell (p := ⟨b, o, none⟩) HBL.out).trans HD.out.1)), ((hW.cell (p := ⟨b, o + 1, none⟩) hSd).trans ((HB16.out.cell (p := ⟨b, o + 1, none⟩) HBL.out).trans HD.out.2)), (HX10.out.below hW).lt, (HXS16.out.below hW).lt, Nat.lt_of_lt_of_le hSd hW.size⟩))
        have e1 := lc_cases ⟨2, 158⟩ ⟨sk, sn⟩
        have e2 := lc_cases ⟨2, 158⟩ ⟨yk, yn⟩
        obtain ⟨oe, hoe⟩ := letl (outE [⟨⟨sk, sn⟩, ⟨yk, yn⟩⟩] ⟨2, 158⟩)
        obtain ⟨ol, hol⟩ := letl (outL [⟨⟨sk, sn⟩, ⟨yk, yn⟩⟩] ⟨2, 158⟩)
        rw [hoe, hol] at HO2 HONE
        clear hoe hol
        go_upto_region 18 with (go_at_call 9; (with_reducible refine HO2.out.mono ?_); rintro e w17 ⟨A7, c7, rfl, hc7, hm7, ho7, hv7, hb7⟩; have HB7 := hide hb7; have HV7 := hide hv7; clear ho7 hv7 hb7)
        clear z0 z1 lz
        have HW17 := hide (HW16.out.trans (HB7.out.mono HW16.out.size))
        (try simp only at e1 e2)
        rcases e1 with e1 | e1
        · injection e1 with e1 e1'
          subst e1
          subst e1'
          clear HONE HO2 e2
          have BE0 := hide (show Below w17.heap.size w17 w17.drew from below_drewN (Below.refl _ _) 1)
          have HKS := hide (fun (W : World) (hW : Below w17.heap.size w17 W) => HCELL.out W (HB7.out.trans (hW.mono HB7.out.size)))
          refine wp_region_til (fun w' => w'.cell? ⟨h10, 0, none⟩ = some (.int .i64 2) ∧ w'.cell? ⟨h10, 1, none⟩ = some (.int .i64 158) ∧ w'.cell? ⟨hs, 0, none⟩ = some (.int .i64 2) ∧ w'.cell? ⟨hs, 1, none⟩ = some (.int .i64 158) ∧ w'.cell? ⟨b, o, none⟩ = some (.int .i64 yk) ∧ w'.cell? ⟨b, o + 1, none⟩ = some (.int .i64 yn) ∧ h10 < w'.heap.size ∧ hs < w'.heap.size ∧ b < w'.heap.size) 19 (by kernel_rfl) (HKS.out _ BE0.out) ?_
          obtain ⟨w100, hw100⟩ : ∃ w100, w100 = w17.drew := ⟨_, rfl⟩
          have BE100 := hide (show Below w17.heap.size w17 w100 by rw [hw100]; exact BE0.out)
          rw [← hw100]
          have hSd := HKS.out w100 BE100.out
          clear hw100
          refine tilT 0 hSd ?_
          refine tilT 1 hSd ?_
          refine tilM 2 (Or.inr hSd) ?_
          refine tilM 3 (Or.inr hSd) ?_
          refine wpTil_move (i := 4) (v := undef) rfl (by kernel_rfl) (by kernel_rfl) (by kernel_rfl) (fun _ _ _ h => h) (by rfl) (Or.inr ⟨by rfl, rfl⟩) (Or.inr hSd) ?_
          try simp only [tilS, Act.put]
          refine wpTil_move (i := 5) (v := undef) rfl (by kernel_rfl) (by kernel_rfl) (by kernel_rfl) (fun _ _ _ h => h) (by rfl) (Or.inr ⟨by rfl, rfl⟩) (Or.inr hSd) ?_
          try simp only [tilS, Act.put]
          refine wpTil_move (i := 6) (v := undef) rfl (by kernel_rfl) (by kernel_rfl) (by kernel_rfl) (fun _ _ _ h => h) (by rfl) (Or.inr ⟨by rfl, rfl⟩) (Or.inr hSd) ?_
          try simp only [tilS, Act.put]
          refine wpTil_move (i := 7) (v := undef) rfl (by kernel_rfl) (by kernel_rfl) (by kernel_rfl) (fun _ _ _ h => h) (by rfl) (Or.inr ⟨by rfl, rfl⟩) (Or.inr hSd) ?_
          try simp only [tilS, Act.put]
          refine wpTil_move (i := 8) (v := undef) rfl (by kernel_rfl) (by kernel_rfl) (by kernel_rfl) (fun _ _ _ h => h) (by rfl) (Or.inr ⟨by rfl, rfl⟩) (Or.inr hSd) ?_
          try simp only [tilS, Act.put]
          refine tilM 9 (Or.inr hSd) ?_
          refine tilM 10 (Or.inr hSd) ?_
          refine wpTil_move (i := 11) (v := undef) rfl (by kernel_rfl) (by kernel_rfl) (by kernel_rfl) (fun _ _ _ h => h) (by rfl) (Or.inr ⟨by rfl, rfl⟩) (Or.inr hSd) ?_
          try simp only [tilS, Act.put]
          refine wpTil_move (i := 12) (v := undef) rfl (by kernel_rfl) (by kernel_rfl) (by kernel_rfl) (fun _ _ _ h => h) (by rfl) (Or.inr ⟨by rfl, rfl⟩) (Or.inr hSd) ?_
          try simp only [tilS, Act.put]
          refine wpTil_move (i := 13) (v := undef) rfl (by kernel_rfl) (by kernel_rfl) (by kernel_rfl) (fun _ _ _ h => h) (by rfl) (Or.inr ⟨by rfl, rfl⟩) (Or.inr hSd) ?_
          try simp only [tilS, Act.put]
          refine wpTil_move (i := 14) (v := undef) rfl (by kernel_rfl) (by kernel_rfl) (by kernel_rfl) (fun _ _ _ h => h) (by rfl) (Or.inr ⟨by rfl, rfl⟩) (Or.inr hSd) ?_
          try simp only [tilS, Act.put]
          refine wpTil_move (i := 15) (v := undef) rfl (by kernel_rfl) (by kernel_rfl) (by kernel_rfl) (fun _ _ _ h => h) (by rfl) (Or.inr ⟨by rfl, rfl⟩) (Or.inr hSd) ?_
          try simp only [tilS, Act.put]
          refine wpTil_move (i := 16) (v := undef) rfl (by kernel_rfl) (by kernel_rfl) (by kernel_rfl) (fun _ _ _ h => h) (by rfl) (Or.inr ⟨by rfl, rfl⟩) (Or.inr hSd) ?_
          try simp only [tilS, Act.put]
          refine wpTil_move (i := 17) (v := undef) rfl (by kernel_rfl) (by kernel_rfl) (by kernel_rfl) (fun _ _ _ h => h) (by rfl) (Or.inr ⟨by rfl, rfl⟩) (Or.inr hSd) ?_
          try simp only [tilS, Act.put]
          refine tilM 18 (Or.inr hSd) ?_
          refine wpTil_ready (rs := [19]) (by kernel_rfl) (by simp) ?_
          refine AllTil.last rfl (by rfl) (fun K hK => ?_)
          rw [if_pos (by rfl)]
          go_simp
          refine hK.out _ _ ?_
          clear hK K hSd
          try simp only [tilS, Act.put]
          refine wpTil_done (by kernel_rfl) ?_ _
          go_wp2_with fail
          go_ret
          exact ⟨by simp, HW17.out.trans (BE100.out.mono HW17.out.size)⟩
        rcases e1 with e1 | ⟨e0, e1⟩
        · skip
          rcases e2 with e2 | e2
          · injection e2 with e2 e2'
            subst e2
            subst e2'
            clear HONE HO2
            have BE0 := hide (show Below w17.heap.size w17 w17.drew from below_drewN (Below.refl _ _) 1)
            have HKS := hide (fun (W : World) (hW : Below w17.heap.size w17 W) => HCELL.out W (HB7.out.trans (hW.mono HB7.out.size)))
            refine wp_region_til (fun w' => w'.cell? ⟨h10, 0, none⟩ = some (.int .i64 2) ∧ w'.cell? ⟨h10, 1, none⟩ = some (.int .i64 158) ∧ w'.cell? ⟨hs, 0, none⟩ = some (.int .i64 sk) ∧ w'.cell? ⟨hs, 1, none⟩ = some (.int .i64 sn) ∧ w'.cell? ⟨b, o, none⟩ = some (.int .i64 2) ∧ w'.cell? ⟨b, o + 1, none⟩ = some (.int .i64 158) ∧ h10 < w'.heap.size ∧ hs < w'.heap.size ∧ b < w'.heap.size) 19 (by kernel_rfl) (HKS.out _ BE0.out) ?_
            obtain ⟨w100, hw100⟩ : ∃ w100, w100 = w17.drew := ⟨_, rfl⟩
            have BE100 := hide (show Below w17.heap.size w17 w100 by rw [hw100]; exact BE0.out)
            rw [← hw100]
            have hSd := HKS.out w100 BE100.out
            clear hw100
            refine tilT 0 hSd ?_
            refine tilT 1 hSd ?_
            refine tilM 2 (Or.inr hSd) ?_
            refine tilM 3 (Or.inr hSd) ?_
            refine tilT 4 hSd ?_
            refine tilM 5 (Or.inr hSd) ?_
            refine tilM 6 (Or.inr hSd) ?_
            refine tilT 7 hSd ?_
            refine tilM 8 (Or.inr hSd) ?_
            refine tilM 9 (Or.inr hSd) ?_
            refine tilM 10 (Or.inr hSd) ?_
            refine wpTil_move (i := 11) (v := undef) rfl (by kernel_rfl) (by kernel_rfl) (by kernel_rfl) (fun _ _ _ h => h) (by rfl) (Or.inr ⟨by rfl, rfl⟩) (Or.inr hSd) ?_
            try simp only [tilS, Act.put]
            refine wpTil_move (i := 12) (v := undef) rfl (by kernel_rfl) (by kernel_rfl) (by kernel_rfl) (fun _ _ _ h => h) (by rfl) (Or.inr ⟨by rfl, rfl⟩) (Or.inr hSd) ?_
            try simp only [tilS, Act.put]
            refine wpTil_move (i := 13) (v := undef) rfl (by kernel_rfl) (by kernel_rfl) (by kernel_rfl) (fun _ _ _ h => h) (by rfl) (Or.inr ⟨by rfl, rfl⟩) (Or.inr hSd) ?_
            try simp only [tilS, Act.put]
            refine wpTil_move (i := 14) (v := undef) rfl (by kernel_rfl) (by kernel_rfl) (by kernel_rfl) (fun _ _ _ h => h) (by rfl) (Or.inr ⟨by rfl, rfl⟩) (Or.inr hSd) ?_
            try simp only [tilS, Act.put]
            refine wpTil_move (i := 15) (v := undef) rfl (by kernel_rfl) (by kernel_rfl) (by kernel_rfl) (fun _ _ _ h => h) (by rfl) (Or.inr ⟨by rfl, rfl⟩) (Or.inr hSd) ?_
            try simp only [tilS, Act.put]
            refine wpTil_move (i := 16) (v := undef) rfl (by kernel_rfl) (by kernel_rfl) (by kernel_rfl) (fun _ _ _ h => h) (by rfl) (Or.inr ⟨by rfl, rfl⟩) (Or.inr hSd) ?_
            try simp only [tilS, Act.put]
            refine wpTil_move (i := 17) (v := undef) rfl (by kernel_rfl) (by kernel_rfl) (by kernel_rfl) (fun _ _ _ h => h) (by rfl) (Or.inr ⟨by rfl, rfl⟩) (Or.inr hSd) ?_
            try simp only [tilS, Act.put]
            refine tilM 18 (Or.inr hSd) ?_
            refine wpTil_ready (rs := [19]) (by kernel_rfl) (by simp) ?_
            refine AllTil.last rfl (by rfl) (fun K hK => ?_)
            rw [if_pos (by rfl)]
            go_simp
            refine hK.out _ _ ?_
            clear hK K hSd
            try simp only [tilS, Act.put]
            refine wpTil_done (by kernel_rfl) ?_ _
            go_wp2_with fail
            go_ret
            exact ⟨by simp, HW17.out.trans (BE100.out.mono HW17.out.size)⟩
          obtain ⟨ho1, ho2⟩ := HONE.out (fun e => by injection e with e3 e4; first | exact e1 e3 | exact e1 e4) (fun e => by injection e with e3 e4; rcases e2 with h | h <;> simp_all)
          subst ho1
          subst ho2
          have HSM := hide (fun (W : World) (hW : Below w17.heap.size w17 W) => (show Calls Try.prog 11 #[.slice A7 1 c7, .slice (some ⟨Hb, 0, none⟩) 1 1] W fun e w' => e = .returned (.bool true) ∧ Below W.heap.size W w' from by
            have t := irsame_any (.slice A7 1 c7) (.slice (some ⟨Hb, 0, none⟩) 1 1) _ _ W (HV7.out.up hW) ((HONEV.out.up HB7.out).up hW) (by simp) (by simp)
            rwa [decide_eq_true rfl] at t))
          clear HONE HO2
          rcases e2 with e2 | ⟨e0, e2⟩
          · skip
            have BE0 := hide (show Below w17.heap.size w17 w17.drew from below_drewN (Below.refl _ _) 1)
            have HKS := hide (fun (W : World) (hW : Below w17.heap.size w17 W) => HCELL.out W (HB7.out.trans (hW.mono HB7.out.size)))
            refine wp_region_til (fun w' => w'.cell? ⟨h10, 0, none⟩ = some (.int .i64 2) ∧ w'.cell? ⟨h10, 1, none⟩ = some (.int .i64 158) ∧ w'.cell? ⟨hs, 0, none⟩ = some (.int .i64 sk) ∧ w'.cell? ⟨hs, 1, none⟩ = some (.int .i64 sn) ∧ w'.cell? ⟨b, o, none⟩ = some (.int .i64 yk) ∧ w'.cell? ⟨b, o + 1, none⟩ = some (.int .i64 yn) ∧ h10 < w'.heap.size ∧ hs < w'.heap.size ∧ b < w'.heap.size) 16 (by kernel_rfl) (HKS.out _ BE0.out) ?_
            obtain ⟨w100, hw100⟩ : ∃ w100, w100 = w17.drew := ⟨_, rfl⟩
            have BE100 := hide (show Below w17.heap.size w17 w100 by rw [hw100]; exact BE0.out)
            rw [← hw100]
            have hSd := HKS.out w100 BE100.out
            clear hw100
            refine tilD 0 [16, 13, 10, 3, 2] hSd ?_
            refine tilD 1 [16, 13, 10, 3, 2] hSd ?_
            refine tilM 2 (Or.inr hSd) ?_
            refine tilM 3 (Or.inr hSd) ?_
            refine tilM 5 (Or.inr hSd) ?_
            refine tilM 6 (Or.inr hSd) ?_
            refine tilD 4 [16, 13, 10, 9, 8] hSd ?_
            refine tilD 7 [16, 13, 10, 9, 8] hSd ?_
            refine tilM 8 (Or.inr hSd) ?_
            refine tilM 9 (Or.inr hSd) ?_
            refine tilM 10 (Or.inr hSd) ?_
            refine tilM 11 (Or.inr hSd) ?_
            refine tilM 12 (Or.inr hSd) ?_
            refine tilM 13 (Or.inr hSd) ?_
            refine tilM 14 (Or.inr hSd) ?_
            refine tilM 15 (Or.inr hSd) ?_
            refine wpTil_ready (rs := [16]) (by kernel_rfl) (by simp) ?_
            refine AllTil.last rfl (by rfl) (fun K hK => ?_)
            rw [if_pos (by rfl)]
            go_simp
            go_at_call 11
            (with_reducible refine (HSM.out w100 BE100.out).mono ?_)
            rintro e w101 ⟨rfl, hb⟩
            have BE101 := hide (BE100.out.trans (hb.mono BE100.out.size))
            clear hb
            refine hK.out _ _ ?_
            clear hK K hSd
            try simp only [tilS, Act.put]
            refine tilM 17 (Or.inl (by rfl)) ?_
            refine tilM 18 (Or.inl (by rfl)) ?_
            refine tilM 19 (Or.inl (by rfl)) ?_
            refine wpTil_done (by kernel_rfl) ?_ _
            go_wp2_with fail
            go_ret
            exact ⟨by simp, HW17.out.trans (BE101.out.mono HW17.out.size)⟩
          · subst e0
            have BE0 := hide (show Below w17.heap.size w17 w17.drew from below_drewN (Below.refl _ _) 1)
            have HKS := hide (fun (W : World) (hW : Below w17.heap.size w17 W) => HCELL.out W (HB7.out.trans (hW.mono HB7.out.size)))
            refine wp_region_til (fun w' => w'.cell? ⟨h10, 0, none⟩ = some (.int .i64 2) ∧ w'.cell? ⟨h10, 1, none⟩ = some (.int .i64 158) ∧ w'.cell? ⟨hs, 0, none⟩ = some (.int .i64 sk) ∧ w'.cell? ⟨hs, 1, none⟩ = some (.int .i64 sn) ∧ w'.cell? ⟨b, o, none⟩ = some (.int .i64 2) ∧ w'.cell? ⟨b, o + 1, none⟩ = some (.int .i64 yn) ∧ h10 < w'.heap.size ∧ hs < w'.heap.size ∧ b < w'.heap.size) 16 (by kernel_rfl) (HKS.out _ BE0.out) ?_
            obtain ⟨w100, hw100⟩ : ∃ w100, w100 = w17.drew := ⟨_, rfl⟩
            have BE100 := hide (show Below w17.heap.size w17 w100 by rw [hw100]; exact BE0.out)
            rw [← hw100]
            have hSd := HKS.out w100 BE100.out
            clear hw100
            refine tilD 0 [16, 13, 10, 3, 2] hSd ?_
            refine tilD 1 [16, 13, 10, 3, 2] hSd ?_
            refine tilM 2 (Or.inr hSd) ?_
            refine tilM 3 (Or.inr hSd) ?_
            refine tilM 5 (Or.inr hSd) ?_
            refine tilM 6 (Or.inr hSd) ?_
            refine tilD 4 [16, 13, 10, 9, 8] hSd ?_
            refine tilD 7 [16, 13, 10, 9, 8] hSd ?_
            refine tilM 8 (Or.inr hSd) ?_
            refine tilM 9 (Or.inr hSd) ?_
            refine tilM 10 (Or.inr hSd) ?_
            refine tilM 11 (Or.inr hSd) ?_
            refine tilM 12 (Or.inr hSd) ?_
            refine tilM 13 (Or.inr hSd) ?_
            refine tilM 14 (Or.inr hSd) ?_
            refine tilM 15 (Or.inr hSd) ?_
            refine wpTil_ready (rs := [16]) (by kernel_rfl) (by simp) ?_
            refine AllTil.last rfl (by rfl) (fun K hK => ?_)
            rw [if_pos (by rfl)]
            go_simp
            go_at_call 11
            (with_reducible refine (HSM.out w100 BE100.out).mono ?_)
            rintro e w101 ⟨rfl, hb⟩
            have BE101 := hide (BE100.out.trans (hb.mono BE100.out.size))
            clear hb
            refine hK.out _ _ ?_
            clear hK K hSd
            try simp only [tilS, Act.put]
            refine tilM 17 (Or.inl (by rfl)) ?_
            refine tilM 18 (Or.inl (by rfl)) ?_
            refine tilM 19 (Or.inl (by rfl)) ?_
            refine wpTil_done (by kernel_rfl) ?_ _
            go_wp2_with fail
            go_ret
            exact ⟨by simp, HW17.out.trans (BE101.out.mono HW17.out.size)⟩
        · subst e0
          rcases e2 with e2 | e2
          · injection e2 with e2 e2'
            subst e2
            subst e2'
            clear HONE HO2
            have BE0 := hide (show Below w17.heap.size w17 w17.drew from below_drewN (Below.refl _ _) 1)
            have HKS := hide (fun (W : World) (hW : Below w17.heap.size w17 W) => HCELL.out W (HB7.out.trans (hW.mono HB7.out.size)))
            refine wp_region_til (fun w' => w'.cell? ⟨h10, 0, none⟩ = some (.int .i64 2) ∧ w'.cell? ⟨h10, 1, none⟩ = some (.int .i64 158) ∧ w'.cell? ⟨hs, 0, none⟩ = some (.int .i64 2) ∧ w'.cell? ⟨hs, 1, none⟩ = some (.int .i64 sn) ∧ w'.cell? ⟨b, o, none⟩ = some (.int .i64 2) ∧ w'.cell? ⟨b, o + 1, none⟩ = some (.int .i64 158) ∧ h10 < w'.heap.size ∧ hs < w'.heap.size ∧ b < w'.heap.size) 19 (by kernel_rfl) (HKS.out _ BE0.out) ?_
            obtain ⟨w100, hw100⟩ : ∃ w100, w100 = w17.drew := ⟨_, rfl⟩
            have BE100 := hide (show Below w17.heap.size w17 w100 by rw [hw100]; exact BE0.out)
            rw [← hw100]
            have hSd := HKS.out w100 BE100.out
            clear hw100
            refine tilT 0 hSd ?_
            refine tilT 1 hSd ?_
            refine tilM 2 (Or.inr hSd) ?_
            refine tilM 3 (Or.inr hSd) ?_
            refine tilT 4 hSd ?_
            refine tilM 5 (Or.inr hSd) ?_
            refine tilM 6 (Or.inr hSd) ?_
            refine tilT 7 hSd ?_
            refine tilM 8 (Or.inr hSd) ?_
            refine tilM 9 (Or.inr hSd) ?_
            refine tilM 10 (Or.inr hSd) ?_
            refine wpTil_move (i := 11) (v := undef) rfl (by kernel_rfl) (by kernel_rfl) (by kernel_rfl) (fun _ _ _ h => h) (by rfl) (Or.inr ⟨by rfl, rfl⟩) (Or.inr hSd) ?_
            try simp only [tilS, Act.put]
            refine wpTil_move (i := 12) (v := undef) rfl (by kernel_rfl) (by kernel_rfl) (by kernel_rfl) (fun _ _ _ h => h) (by rfl) (Or.inr ⟨by rfl, rfl⟩) (Or.inr hSd) ?_
            try simp only [tilS, Act.put]
            refine wpTil_move (i := 13) (v := undef) rfl (by kernel_rfl) (by kernel_rfl) (by kernel_rfl) (fun _ _ _ h => h) (by rfl) (Or.inr ⟨by rfl, rfl⟩) (Or.inr hSd) ?_
            try simp only [tilS, Act.put]
            refine wpTil_move (i := 14) (v := undef) rfl (by kernel_rfl) (by kernel_rfl) (by kernel_rfl) (fun _ _ _ h => h) (by rfl) (Or.inr ⟨by rfl, rfl⟩) (Or.inr hSd) ?_
            try simp only [tilS, Act.put]
            refine wpTil_move (i := 15) (v := undef) rfl (by kernel_rfl) (by kernel_rfl) (by kernel_rfl) (fun _ _ _ h => h) (by rfl) (Or.inr ⟨by rfl, rfl⟩) (Or.inr hSd) ?_
            try simp only [tilS, Act.put]
            refine wpTil_move (i := 16) (v := undef) rfl (by kernel_rfl) (by kernel_rfl) (by kernel_rfl) (fun _ _ _ h => h) (by rfl) (Or.inr ⟨by rfl, rfl⟩) (Or.inr hSd) ?_
            try simp only [tilS, Act.put]
            refine wpTil_move (i := 17) (v := undef) rfl (by kernel_rfl) (by kernel_rfl) (by kernel_rfl) (fun _ _ _ h => h) (by rfl) (Or.inr ⟨by rfl, rfl⟩) (Or.inr hSd) ?_
            try simp only [tilS, Act.put]
            refine tilM 18 (Or.inr hSd) ?_
            refine wpTil_ready (rs := [19]) (by kernel_rfl) (by simp) ?_
            refine AllTil.last rfl (by rfl) (fun K hK => ?_)
            rw [if_pos (by rfl)]
            go_simp
            refine hK.out _ _ ?_
            clear hK K hSd
            try simp only [tilS, Act.put]
            refine wpTil_done (by kernel_rfl) ?_ _
            go_wp2_with fail
            go_ret
            exact ⟨by simp, HW17.out.trans (BE100.out.mono HW17.out.size)⟩
          obtain ⟨ho1, ho2⟩ := HONE.out (fun e => by injection e with e3 e4; first | exact e1 e3 | exact e1 e4) (fun e => by injection e with e3 e4; rcases e2 with h | h <;> simp_all)
          subst ho1
          subst ho2
          have HSM := hide (fun (W : World) (hW : Below w17.heap.size w17 W) => (show Calls Try.prog 11 #[.slice A7 1 c7, .slice (some ⟨Hb, 0, none⟩) 1 1] W fun e w' => e = .returned (.bool true) ∧ Below W.heap.size W w' from by
            have t := irsame_any (.slice A7 1 c7) (.slice (some ⟨Hb, 0, none⟩) 1 1) _ _ W (HV7.out.up hW) ((HONEV.out.up HB7.out).up hW) (by simp) (by simp)
            rwa [decide_eq_true rfl] at t))
          clear HONE HO2
          rcases e2 with e2 | ⟨e0, e2⟩
          · skip
            have BE0 := hide (show Below w17.heap.size w17 w17.drew from below_drewN (Below.refl _ _) 1)
            have HKS := hide (fun (W : World) (hW : Below w17.heap.size w17 W) => HCELL.out W (HB7.out.trans (hW.mono HB7.out.size)))
            refine wp_region_til (fun w' => w'.cell? ⟨h10, 0, none⟩ = some (.int .i64 2) ∧ w'.cell? ⟨h10, 1, none⟩ = some (.int .i64 158) ∧ w'.cell? ⟨hs, 0, none⟩ = some (.int .i64 2) ∧ w'.cell? ⟨hs, 1, none⟩ = some (.int .i64 sn) ∧ w'.cell? ⟨b, o, none⟩ = some (.int .i64 yk) ∧ w'.cell? ⟨b, o + 1, none⟩ = some (.int .i64 yn) ∧ h10 < w'.heap.size ∧ hs < w'.heap.size ∧ b < w'.heap.size) 16 (by kernel_rfl) (HKS.out _ BE0.out) ?_
            obtain ⟨w100, hw100⟩ : ∃ w100, w100 = w17.drew := ⟨_, rfl⟩
            have BE100 := hide (show Below w17.heap.size w17 w100 by rw [hw100]; exact BE0.out)
            rw [← hw100]
            have hSd := HKS.out w100 BE100.out
            clear hw100
            refine tilD 0 [16, 13, 10, 3, 2] hSd ?_
            refine tilD 1 [16, 13, 10, 3, 2] hSd ?_
            refine tilM 2 (Or.inr hSd) ?_
            refine tilM 3 (Or.inr hSd) ?_
            refine tilM 5 (Or.inr hSd) ?_
            refine tilM 6 (Or.inr hSd) ?_
            refine tilD 4 [16, 13, 10, 9, 8] hSd ?_
            refine tilD 7 [16, 13, 10, 9, 8] hSd ?_
            refine tilM 8 (Or.inr hSd) ?_
            refine tilM 9 (Or.inr hSd) ?_
            refine tilM 10 (Or.inr hSd) ?_
            refine tilM 11 (Or.inr hSd) ?_
            refine tilM 12 (Or.inr hSd) ?_
            refine tilM 13 (Or.inr hSd) ?_
            refine tilM 14 (Or.inr hSd) ?_
            refine tilM 15 (Or.inr hSd) ?_
            refine wpTil_ready (rs := [16]) (by kernel_rfl) (by simp) ?_
            refine AllTil.last rfl (by rfl) (fun K hK => ?_)
            rw [if_pos (by rfl)]
            go_simp
            go_at_call 11
            (with_reducible refine (HSM.out w100 BE100.out).mono ?_)
            rintro e w101 ⟨rfl, hb⟩
            have BE101 := hide (BE100.out.trans (hb.mono BE100.out.size))
            clear hb
            refine hK.out _ _ ?_
            clear hK K hSd
            try simp only [tilS, Act.put]
            refine tilM 17 (Or.inl (by rfl)) ?_
            refine tilM 18 (Or.inl (by rfl)) ?_
            refine tilM 19 (Or.inl (by rfl)) ?_
            refine wpTil_done (by kernel_rfl) ?_ _
            go_wp2_with fail
            go_ret
            exact ⟨by simp, HW17.out.trans (BE101.out.mono HW17.out.size)⟩
          · subst e0
            have BE0 := hide (show Below w17.heap.size w17 w17.drew from below_drewN (Below.refl _ _) 1)
            have HKS := hide (fun (W : World) (hW : Below w17.heap.size w17 W) => HCELL.out W (HB7.out.trans (hW.mono HB7.out.size)))
            refine wp_region_til (fun w' => w'.cell? ⟨h10, 0, none⟩ = some (.int .i64 2) ∧ w'.cell? ⟨h10, 1, none⟩ = some (.int .i64 158) ∧ w'.cell? ⟨hs, 0, none⟩ = some (.int .i64 2) ∧ w'.cell? ⟨hs, 1, none⟩ = some (.int .i64 sn) ∧ w'.cell? ⟨b, o, none⟩ = some (.int .i64 2) ∧ w'.cell? ⟨b, o + 1, none⟩ = some (.int .i64 yn) ∧ h10 < w'.heap.size ∧ hs < w'.heap.size ∧ b < w'.heap.size) 16 (by kernel_rfl) (HKS.out _ BE0.out) ?_
            obtain ⟨w100, hw100⟩ : ∃ w100, w100 = w17.drew := ⟨_, rfl⟩
            have BE100 := hide (show Below w17.heap.size w17 w100 by rw [hw100]; exact BE0.out)
            rw [← hw100]
            have hSd := HKS.out w100 BE100.out
            clear hw100
            refine tilD 0 [16, 13, 10, 3, 2] hSd ?_
            refine tilD 1 [16, 13, 10, 3, 2] hSd ?_
            refine tilM 2 (Or.inr hSd) ?_
            refine tilM 3 (Or.inr hSd) ?_
            refine tilM 5 (Or.inr hSd) ?_
            refine tilM 6 (Or.inr hSd) ?_
            refine tilD 4 [16, 13, 10, 9, 8] hSd ?_
            refine tilD 7 [16, 13, 10, 9, 8] hSd ?_
            refine tilM 8 (Or.inr hSd) ?_
            refine tilM 9 (Or.inr hSd) ?_
            refine tilM 10 (Or.inr hSd) ?_
            refine tilM 11 (Or.inr hSd) ?_
            refine tilM 12 (Or.inr hSd) ?_
            refine tilM 13 (Or.inr hSd) ?_
            refine tilM 14 (Or.inr hSd) ?_
            refine tilM 15 (Or.inr hSd) ?_
            refine wpTil_ready (rs := [16]) (by kernel_rfl) (by simp) ?_
            refine AllTil.last rfl (by rfl) (fun K hK => ?_)
            rw [if_pos (by rfl)]
            go_simp
            go_at_call 11
            (with_reducible refine (HSM.out w100 BE100.out).mono ?_)
            rintro e w101 ⟨rfl, hb⟩
            have BE101 := hide (BE100.out.trans (hb.mono BE100.out.size))
            clear hb
            refine hK.out _ _ ?_
            clear hK K hSd
            try simp only [tilS, Act.put]
            refine tilM 17 (Or.inl (by rfl)) ?_
            refine tilM 18 (Or.inl (by rfl)) ?_
            refine tilM 19 (Or.inl (by rfl)) ?_
            refine wpTil_done (by kernel_rfl) ?_ _
            go_wp2_with fail
            go_ret
            exact ⟨by simp, HW17.out.trans (BE101.out.mono HW17.out.size)⟩
    obtain ⟨y, hy⟩ : ∃ y, ls[k]? = some y := ⟨_, List.getElem?_eq_getElem (by have := HN.out; omega)⟩
    obtain ⟨b, o, hA, hbw, -⟩ := HL.out.get hy
    subst hA
    obtain ⟨d1, d2, -⟩ := HL.out.at' HB1.out hy
    have HSS := hide (self_snoc hy)
    have HLT := hide hlt
    have HBL := hide (show b < w1.heap.size from Nat.lt_of_lt_of_le hbw HB1.out.size)
    have hj0 : (0 : Int) ≤ (k : Int) := by omega
    have hj1 : (k : Int) < (n : Int) := by omega
    obtain ⟨yk, yn⟩ := y
    simp only at d1 d2
    have HD := hide (And.intro d1 d2)
    clear hy d1 d2 hbw
    go_upto_region 9 with (fail)
    have HKS := hide (fun (W : World) (hW : Below w1.heap.size w1 W) => (show W.cell? ⟨b, o + k * 2, none⟩ = some (.int .i64 yk) ∧ W.cell? ⟨b, o + k * 2 + 1, none⟩ = some (.int .i64 yn) ∧ b < W.heap.size from ⟨(hW.cell (p := ⟨b, o + k * 2, none⟩) HBL.out).trans HD.out.1, (hW.cell (p := ⟨b, o + k * 2 + 1, none⟩) HBL.out).trans HD.out.2, Nat.lt_of_lt_of_le HBL.out hW.size⟩))
    have BE0 := hide (show Below w1.heap.size w1 wo.drew from below_drewN HB.out 1)
    refine wp_region_til (fun w' => w'.cell? ⟨b, o + k * 2, none⟩ = some (.int .i64 yk) ∧ w'.cell? ⟨b, o + k * 2 + 1, none⟩ = some (.int .i64 yn) ∧ b < w'.heap.size) 11 (by kernel_rfl) (HKS.out _ BE0.out) ?_
    obtain ⟨w100, hw100⟩ : ∃ w100, w100 = wo.drew := ⟨_, rfl⟩
    have BE100 := hide (show Below w1.heap.size w1 w100 by rw [hw100]; exact BE0.out)
    have HOW := hide (show OwC mvC 38 4 w100 w1.heap.size (.slice Au k cu) (selfL (ls.take k)) by rw [hw100]; exact HOU.out.kept fun _ _ => rfl)
    rw [← hw100]
    have hSd := HKS.out w100 BE100.out
    clear hw100
    refine tilM 0 (Or.inr hSd) ?_
    refine tilM 1 (Or.inr hSd) ?_
    refine tilM 2 (Or.inr hSd) ?_
    refine tilM 3 (Or.inr hSd) ?_
    refine tilM 5 (Or.inr hSd) ?_
    refine tilM 6 (Or.inr hSd) ?_
    refine tilM 7 (Or.inr hSd) ?_
    refine tilD 4 [11, 10, 9] hSd ?_
    refine tilD 8 [11, 10, 9] hSd ?_
    refine tilM 9 (Or.inr hSd) ?_
    refine wpTil_ready (rs := [10]) (by kernel_rfl) (by simp) ?_
    refine AllTil.cons rfl (fun K hK => ?_) ?_
    · skip
      rw [if_pos (by rfl)]
      go_simp
      obtain ⟨Hb, hHb⟩ := letl w100.heap.size
      obtain ⟨w101, hw101⟩ := letr (w100.alloc (.cells #[.int .i64 yk, .int .i64 yn, .int .i64 yk, .int .i64 yn] 38))
      have BXb := lBox hw101 hHb
      have HOW2 := hide (HOW.out.below (lBel hw101).out)
      have BE101 := hide (show Below w1.heap.size w1 w101 from BE100.out.trans ((lBel hw101).out.mono BE100.out.size))
      rw [← hw101, hHb]
      clear hw101 hHb
      refine hK.out _ _ (HKS.out w101 BE101.out) ?_
      clear hK K
      try clear hSd
      have hSd := HKS.out w101 BE101.out
      try simp only [tilS, Act.put]
      refine wpTil_ready (rs := [11]) (by kernel_rfl) (by simp) ?_
      refine AllTil.last rfl (by rfl) (fun K hK => ?_)
      refine step_append_cn (c := mvC) (sz := 4) (T := 38) w101 (by rfl) _ _ _ (by rfl) w1.heap.size i0 _ 32 Try.underlying22 HI.out iz0 iz1 iz2 rfl (by omega) (by omega) (.slice Au k cu) (selfL (ls.take k)) k HLK.out (by rfl) HOW2.out ⟨⟨yk, yn⟩, ⟨yk, yn⟩⟩ rfl (fun u hu => by simp only [mvC, List.mem_cons, List.mem_nil_iff, or_false] at hu; rcases hu with rfl | rfl | rfl | rfl <;> rfl) Hb _ BXb.out rfl (by rfl) (by have := HLT.out; omega) BE101.out.size ?_
      intro g5 k5 w102 ho5 hg5 hv5 hl5
      have BE102 := hide (show Below w1.heap.size w1 w102 from BE101.out.grown hg5 BE101.out.size (fun k hk => (HOW2.out.lt k hk).1))
      have HO5 := hide ho5
      clear ho5 hg5 hv5
      refine hK.out _ _ ?_
      clear hK K hSd
      try simp only [tilS, Act.put]
      refine tilM 12 (Or.inl (by rfl)) ?_
      refine wpTil_done (by kernel_rfl) ?_ _
      go_wp2_with fail
      go_roundw
      case rel => exact ⟨k + 1, by have := HLT.out; omega, by go_num, hide (by rw [HSS.out]; exact HO5.out), BE102.out⟩
      case measure => have := HLT.out; simp [intOf]; omega
    exact AllTil.nil
end Go.Proofs.Ytkilfejcohnceaa
