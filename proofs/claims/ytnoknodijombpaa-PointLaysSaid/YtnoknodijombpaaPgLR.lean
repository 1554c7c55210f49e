/- Layer 7: place, Turns, Back, Plain, Heads of the reference. Condition: the function is one of a program that may be. -/
import Derived.Test.YtnoknodijombpaaPgLB
import Derived.BigQuiet
set_option linter.unusedSimpArgs false
set_option linter.unusedVariables false
namespace Go.Proofs.Ytnoknodijombpaa
open Go.RowKit

theorem placeN_at : ∀ {l : List Int} {k : Nat} {z : Int}, l[k]? = some z → z ∉ l.take k → placeN l z = ((k + 1 : Nat) : Int) := by
  intro l k z h hn
  unfold placeN
  rw [if_pos (List.mem_of_getElem? h)]
  congr 2
  induction l generalizing k with
  | nil => simp at h
  | cons a l ih =>
    cases k with
    | zero =>
      simp at h
      subst h
      simp
    | succ k =>
      have ha : a ≠ z := fun e => hn (by subst e; simp)
      have := ih (k := k) (by simpa using h) (fun hm => hn (by simp [hm]))
      have hb : (a == z) = false := by simpa using ha
      rw [List.idxOf_cons, hb]
      simp [this]
theorem turn_ref {f : FunV} {o : List Int} (hro : ReachOk f o) {a b : Int} (he : (a, b) ∈ edgesN f) : turnB o (a, b) = (decide (0 ≤ placeN o a - 1) && decide (placeN o b - 1 ≤ placeN o a - 1)) := by
  obtain ⟨x, rfl, hx, hv⟩ := edges_nat' he
  unfold turnB
  rw [Bool.eq_iff_iff]
  simp only [Bool.and_eq_true, decide_eq_true_eq]
  constructor
  · rintro ⟨h1, h2⟩; omega
  · rintro ⟨h1, h2⟩
    have ho : (x : Int) ∈ o := placeN_in (by omega)
    have hb : b ∈ o := hro.fwd _ ho b (by simpa using hv)
    exact ⟨placeN_pos hb, by omega⟩
set_option maxHeartbeats 2000000 in
set_option maxRecDepth 100000 in
theorem rplace_any (A : Option Addr) (c B : Nat) (l : List Int) (z : Int) (w : World) (hs : Sl w B .i64 A l) (hB : B ≤ w.heap.size) (hc : l.length ≤ c) (hm : c ≤ 9223372036854775807) (hl : l.length ≤ 1000) :
    Calls Try.prog 63 #[.slice A l.length c, .int .i64 z] w fun e w' => e = .returned (.int .i64 (placeN l z - 1)) ∧ w' = w := by
  obtain ⟨n, hn⟩ : ∃ n, l.length = n := ⟨_, rfl⟩
  rw [hn] at hc hl ⊢
  have HN := hide hn
  have HS := hide hs
  obtain ⟨R, hR⟩ : ∃ R, placeN l z - 1 = R := ⟨_, rfl⟩
  have HR := hide hR
  rw [hR]
  clear hn hs hR
  go_enter Try.func63, Try.ntmps63
  go_wp2
  go_loop [5] (fun i => ∃ k : Nat, k ≤ n ∧ i = .int .i64 k ∧ Hid (z ∉ l.take k)) (fun i => n - (intOf i).toNat)
  case atStart => exact ⟨0, Nat.zero_le _, rfl, hide (by simp)⟩
  case round =>
    obtain ⟨k, hk, rfl, hno⟩ := hrel
    by_cases hlt : k < n
    · obtain ⟨y, hy⟩ : ∃ y, l[k]? = some y := ⟨_, List.getElem?_eq_getElem (by have := HN.out; omega)⟩
      obtain ⟨b, o, rfl, hb, hcc⟩ := HS.out (by have := HN.out; omega)
      have cj := hcc k (by have := HN.out; omega)
      rw [List.getD_eq_getElem?_getD, hy] at cj
      simp only [Option.getD_some] at cj
      have hbs : b < w.heap.size := by omega
      have HY := hide hy
      clear hcc hy
      by_cases he : y = z
      · have hv := hide (show (k : Int) = R by rw [← HR.out, placeN_at (by rw [← he]; exact HY.out) hno.out]; omega)
        have hq : (y == z) = true := by simpa using he
        clear he
        go_wp2
        go_ret
        exact ⟨ret_int hv.out, rfl⟩
      · have hn := hide (mem_take_step hno.out HY.out he)
        have hq : (y == z) = false := by simpa using he
        clear he
        go_wp2
        go_round
        case rel => exact ⟨k + 1, by omega, by go_num, hn⟩
        case measure => simp [intOf]; omega
    · have hv := hide (show (-1 : Int) = R by rw [← HR.out, placeN_out (fun h => hno.out (by rw [List.take_of_length_le (by have := HN.out; omega)]; exact h))]; rfl)
      go_wp2
      go_ret
      exact ⟨ret_int hv.out, rfl⟩
set_option maxHeartbeats 4000000 in
set_option maxRecDepth 100000 in
theorem rturns_any (vk vb vs : Value) (f : FunV) (o : List Int) (ho : OrderOf f o) (w : World) (B : Nat) (hB : B ≤ w.heap.size) (hi : FunI w (· < B) vk vb vs f) (hok : FlowOk f) (h1 : 1 ≤ f.blocks.length) :
    Calls Try.prog 47 #[.agg #[vk, vb, .int .i64 f.params, .int .i64 f.result, vs]] w fun e w' => ∃ v, e = .returned v ∧ OwE w' w.heap.size v (turnsN f o) ∧ Below w.heap.size w w' := by
  have HOX := hide (fun (W : World) (hW : Below w.heap.size w W) => rorder_any vk vb vs f o ho W B (by have := hW.size; omega) (hi.keep (up hW hB) (fun _ h => h)) hok h1)
  have HEX := hide (fun (W : World) (hW : Below w.heap.size w W) => redges_any vk vb vs f W B (by have := hW.size; omega) (hi.keep (up hW hB) (fun _ h => h)) hok)
  have HTR := hide (fun a b he => @turn_ref f o (order_reach hok h1 ho) a b he)
  have hol := order_len hok h1 ho
  have hel := edgesN_len hok
  have HTN := hide (show (edgesN f).filter (turnB o) = turnsN f o from rfl)
  obtain ⟨i0, hi0, iz0, iz1, iz2⟩ := info_parts info_edge
  have HI := hide hi0
  obtain ⟨Ak, ck, rfl, hck, hmk⟩ := hi.1.open'
  obtain ⟨Ab, cb, rfl, hcb, hmb⟩ := hi.2.1.open'
  obtain ⟨As, cs, rfl, hcs, hms⟩ := hi.2.2.1.open'
  obtain ⟨es, hes⟩ : ∃ es, edgesN f = es := ⟨_, rfl⟩
  rw [hes] at HEX HTR HTN hel
  obtain ⟨n, hne⟩ : ∃ n, es.length = n := ⟨_, rfl⟩
  have HN := hide hne
  rw [hne] at hel
  obtain ⟨nL, hnL⟩ : ∃ n, o.length = n := ⟨_, rfl⟩
  have HNL := hide hnL
  rw [hnL] at hol
  have HFA := hide (fun k (h : n ≤ k) => @fltTo_all (turnB o) es k (by omega))
  have HFY := hide (fun k (e : Int × Int) (h : es[k]? = some e) (h2 : turnB o e = true) => fltTo_yes h h2)
  have HFN := hide (fun k (e : Int × Int) (h : es[k]? = some e) (h2 : turnB o e = false) => fltTo_no h h2)
  have HFL := hide (fun k => fltTo_len (turnB o) es k)
  have HF0 := hide (fltTo_zero (turnB o) es)
  generalize f.kinds.length = lk, f.base.length = lb, f.blocks.length = ls, f.params = fp, f.result = fr at *
  clear hi hok hes hne hnL ho h1 hi0
  go_enter Try.func47, Try.ntmps47
  go_upto_region 1 with (fail)
  obtain ⟨w1, hw1⟩ : ∃ w1, w1 = w.alloc (.cells #[.slice Ak lk ck, .slice Ab lb cb, .int .i64 fp, .int .i64 fr, .slice As ls cs] 30) := ⟨_, rfl⟩
  obtain ⟨h5, hh5⟩ : ∃ h5, w.heap.size = h5 := ⟨_, rfl⟩
  have HX1 := hide (show Box w1 h5 #[.slice Ak lk ck, .slice Ab lb cb, .int .i64 fp, .int .i64 fr, .slice As ls cs] 30 by rw [hw1, ← hh5]; exact Box.new w _ _)
  have HB1 := hide (show Below w.heap.size w w1 by rw [hw1]; exact alloc1 w _)
  have HK1 := hide (fun (W : World) (hW : Below w1.heap.size w1 W) => And.intro ((HX1.out.below hW).cell 0 (v := .slice Ak lk ck) rfl).1 (And.intro ((HX1.out.below hW).cell 1 (v := .slice Ab lb cb) rfl).1 (And.intro ((HX1.out.below hW).cell 2 (v := .int .i64 fp) rfl).1 (And.intro ((HX1.out.below hW).cell 3 (v := .int .i64 fr) rfl).1 ((HX1.out.below hW).cell 4 (v := .slice As ls cs) rfl).1))))
  have HUP := hide (fun (W : World) (hW : Below w1.heap.size w1 W) => HB1.out.trans (hW.mono HB1.out.size))
  have l1 := HX1.out.lt
  have hw1s := HB1.out.size
  rw [← hw1, hh5]
  clear hw1 hh5
  obtain ⟨c0, c1, c2, c3, c4⟩ := HK1.out w1 (Below.refl _ _)
  go_upto_region 2 with (go_at_call 62; refine (HOX.out w1 HB1.out).mono ?_; rintro e w2 ⟨v2, rfl, ho2, hb2⟩; obtain ⟨A2, k2, hv2, hle2, hme2, hs2⟩ := ho2.sl; rw [HNL.out] at hv2 hle2; have HS2 := hide hs2; have HB2 := hide hb2; subst hv2; clear hb2 ho2 hs2)
  clear c0 c1 c2 c3 c4
  obtain ⟨c0, c1, c2, c3, c4⟩ := HK1.out w2 HB2.out
  have hz2 := HB2.out.size
  have l2 : h5 < w2.heap.size := by omega
  go_wp2_with (go_at_call 38; refine (HEX.out w2 (HUP.out w2 HB2.out)).mono ?_; rintro e w3 ⟨v3, rfl, ho3, hb3⟩; obtain ⟨A3, k3, hv3, hle3, hme3, hs3⟩ := ho3.sl; rw [HN.out] at hv3 hle3; have HS3 := hide hs3; have HB3 := hide (HB2.out.trans (hb3.mono hz2)); have HO3 := hide ((HS2.out.below hb3).more hb3.size); subst hv3; clear hb3 ho3 hs3)
  clear c0 c1 c2 c3 c4 l2
  have hz3 := HB3.out.size
  have hk2 : k2 ≤ 9223372036854775807 := by simp only [maxLen] at hme2; omega
  clear hme2
  go_loopw [5, 6] (fun l i wr => ∃ (v : Value) (k : Nat), v = l ∧ k ≤ n ∧ i = .int .i64 k ∧ Below w3.heap.size w3 wr ∧ Hid (OwE wr w3.heap.size v (fltTo (turnB o) es k))) (fun _ i _ => n - (intOf i).toNat)
  case atStart => exact ⟨_, 0, rfl, Nat.zero_le _, rfl, Below.refl _ _, hide (by rw [HF0.out]; exact OwE.nil _ _)⟩
  case round =>
    obtain ⟨v, k, rfl, hk, rfl, hb', how⟩ := hrel
    obtain ⟨wo, rfl⟩ : ∃ wo, wo = wr := ⟨_, rfl⟩
    have hsz := hb'.size
    have HBW := hide hb'
    clear hb'
    by_cases hlt : k < n
    case neg =>
      have HF := hide (HUP.out w3 HB3.out)
      have HO := hide (show OwE wo w.heap.size v (turnsN f o) by rw [← HTN.out, ← HFA.out k (by omega)]; exact how.out.lower HF.out.size)
      go_wp2
      go_ret
      exact ⟨_, rfl, HO.out, HF.out.trans (HBW.out.mono HF.out.size)⟩
    obtain ⟨y, hy⟩ : ∃ y, es[k]? = some y := ⟨_, List.getElem?_eq_getElem (by have := HN.out; omega)⟩
    obtain ⟨be, oe, rfl, hbe, hce'⟩ := HS3.out (by have := HN.out; omega)
    obtain ⟨y1, y2⟩ := hce' k y hy
    have HD1 := hide ((HBW.out.cell (p := ⟨be, oe + k * 2, none⟩) hbe).trans y1)
    have HD2 := hide ((HBW.out.cell (p := ⟨be, oe + k * 2 + 1, none⟩) hbe).trans y2)
    have hbs : be < wo.heap.size := by omega
    have hym := List.mem_of_getElem? hy
    have hfl := HFL.out k
    have hro : (fltTo (turnB o) es k).length < 1000000 := by omega
    have HRO := hide hro
    have HY := hide hy
    obtain ⟨ya, yb⟩ := y
    simp only at HD1 HD2
    have hT := HTR.out ya yb hym
    obtain ⟨pa, hpa⟩ : ∃ x, placeN o ya - 1 = x := ⟨_, rfl⟩
    obtain ⟨pb, hpb⟩ : ∃ x, placeN o yb - 1 = x := ⟨_, rfl⟩
    have HSO := hide (HO3.out.below HBW.out)
    have HP1 := hide (fun q : Nat => (show Calls Try.prog 63 #[.slice A2 nL k2, .int .i64 ya] (wo.drewN q) fun e w' => e = .returned (.int .i64 pa) ∧ w' = wo.drewN q by have h := rplace_any A2 k2 w3.heap.size o ya (wo.drewN q) (HSO.out.drewN q) hsz (by rw [HNL.out]; exact hle2) hk2 (by rw [HNL.out]; omega); rw [hpa, HNL.out] at h; exact h))
    have HP2 := hide (fun q : Nat => (show Calls Try.prog 63 #[.slice A2 nL k2, .int .i64 yb] (wo.drewN q) fun e w' => e = .returned (.int .i64 pb) ∧ w' = wo.drewN q by have h := rplace_any A2 k2 w3.heap.size o yb (wo.drewN q) (HSO.out.drewN q) hsz (by rw [HNL.out]; exact hle2) hk2 (by rw [HNL.out]; omega); rw [hpb, HNL.out] at h; exact h))
    rw [hpa, hpb] at hT
    have d1 := HD1.out
    have d2 := HD2.out
    have kk1 : (0 : Int) ≤ (k : Int) := by omega
    have kk2 : (k : Int) < (n : Int) := by omega
    have HTT := hide hT
    clear hce' y1 y2 hy hro hfl hym hpa hpb hT
    go_upto_region 7 with (fail)
    go_quiet ((first | (go_at_call_of 63 ya; exact Calls.quiet_of_same (HP1.out _)) | (go_at_call_of 63 yb; exact Calls.quiet_of_same (HP2.out _))))
    obtain ⟨wp, hwp⟩ : ∃ wp, wp = wo.drewN nq := ⟨_, rfl⟩
    have HBP := hide (show Below w3.heap.size w3 wp by rw [hwp]; exact below_drewN HBW.out nq)
    have HOP := hide (show OwE wp w3.heap.size v (fltTo (turnB o) es k) by rw [hwp]; exact how.out)
    have e1 : wp.cell? ⟨be, oe + k * 2, none⟩ = some (.int .i64 ya) := by rw [hwp]; exact HD1.out
    have e2 : wp.cell? ⟨be, oe + k * 2 + 1, none⟩ = some (.int .i64 yb) := by rw [hwp]; exact HD2.out
    have hbp : be < wp.heap.size := by rw [hwp]; exact hbs
    rw [← hwp]
    have hszp : w3.heap.size ≤ wp.heap.size := HBP.out.size
    clear hwp d1 d2 hbs
    have hcase : (decide (0 ≤ pa) = true ∧ decide (pb ≤ pa) = true) ∨ (decide (0 ≤ pa) = true ∧ decide (pb ≤ pa) = false) ∨ decide (0 ≤ pa) = false := by
      cases h1 : decide (0 ≤ pa) <;> cases h2 : decide (pb ≤ pa) <;> simp
    rcases hcase with ⟨q1, q2⟩ | ⟨q1, q2⟩ | q1
    · have HST := hide (HFY.out k _ HY.out (by rw [HTT.out, q1, q2]; rfl))
      have r1 : 0 ≤ pa := by simpa using q1
      have r2 : pb ≤ pa := by simpa using q2
      go_wp2_with (at_builtin; refine wpList_append_edge wp rfl (.tmp 40) (.tmp 45) _ rfl w3.heap.size i0 _ Try.underlying35 HI.out iz0 iz1 iz2 rfl v (fltTo (turnB o) es k) (by rfl) HOP.out ya yb (by rfl) HRO.out hszp ?_; intro v6 w6 ho6 hb6 hf6 hv6)
      go_roundw
      case rel => exact ⟨v6, k + 1, rfl, by omega, by go_num, HBP.out.trans hb6, hide (by rw [← HST.out]; exact ho6)⟩
      case measure => simp [intOf]; omega
    · have HST := hide (HFN.out k _ HY.out (by rw [HTT.out, q1, q2]; rfl))
      have r1 : 0 ≤ pa := by simpa using q1
      have r2 : ¬ pb ≤ pa := by simpa using q2
      go_wp2
      go_roundw
      case rel => exact ⟨v, k + 1, rfl, by omega, by go_num, HBP.out, hide (by rw [← HST.out]; exact HOP.out)⟩
      case measure => simp [intOf]; omega
    · have HST := hide (HFN.out k _ HY.out (by rw [HTT.out, q1]; rfl))
      have r1 : ¬ 0 ≤ pa := by simpa using q1
      go_wp2
      go_roundw
      case rel => exact ⟨v, k + 1, rfl, by omega, by go_num, HBP.out, hide (by rw [← HST.out]; exact HOP.out)⟩
      case measure => simp [intOf]; omega
end Go.Proofs.Ytnoknodijombpaa
