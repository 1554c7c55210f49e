/- The contract of the reference's Encode: it answers what the other one answers. No condition. -/
import Derived.Test.YtpgljbjgbjjcnaaDoorREncW
set_option linter.unusedSimpArgs false
set_option linter.unusedVariables false
namespace Go.Proofs.YtpgljbjgbjjcnaaDoor
open Go.RowKit

def REncA (W : World) (p : List FunV) (e : Ending) (w' : World) : Prop :=
  ∃ A c, e = .returned (.tuple #[.slice A (encR p).1.length c, .int .i64 ((encR p).2 : Int)]) ∧ Sl w' w'.heap.size .u8 A (encR p).1 ∧ Below W.heap.size W w'
theorem REncA.no {W w' : World} {p : List FunV} {k : Nat} (h : encR p = ([], k)) (hb : Below W.heap.size W w') : REncA W p (.returned (.tuple #[.slice none 0 0, .int .i64 (k : Int)])) w' :=
  ⟨none, 0, by rw [h]; rfl, by rw [h]; exact Sl.nil _ _ _ _, hb⟩
theorem RW.fin {w : World} {g : Nat} {s : List Int × Bool} (h : RW w g s) : ∃ A c, w.cell? ⟨g, 0, none⟩ = some (.slice A s.1.length c) ∧ w.cell? ⟨g, 1, none⟩ = some (.bool s.2) ∧ Sl w w.heap.size .u8 A s.1 := by
  obtain ⟨A, c, h1, -, h2, -, -, h3⟩ := h.cells
  exact ⟨A, c, h1, h3, h2⟩

theorem fin_state (q : List Int × Bool) (y : FunV) :
    (((((q.1 ++ encL [(y.kinds.length : Int)]) ++ (y.kinds.zip y.base).flatMap encVar) ++ encL [y.params]) ++ encL [y.result] ++ encL [(y.blocks.length : Int)]) ++ y.blocks.flatMap rBlk,
      (((((q.2 && decide (0 ≤ (y.kinds.length : Int))) && (y.kinds.zip y.base).all okV) && decide (0 ≤ y.params)) && decide (0 ≤ y.result)) && decide (0 ≤ (y.blocks.length : Int))) && y.blocks.all (fun b => b.all insMayB)) = (q.1 ++ rF y, q.2 && rFok y) := by
  have e1 : decide (0 ≤ (y.kinds.length : Int)) = true := by simp
  have e2 : decide (0 ≤ (y.blocks.length : Int)) = true := by simp
  have e3 : encL [y.params, y.result, (y.blocks.length : Int)] = encL [y.params] ++ (encL [y.result] ++ encL [(y.blocks.length : Int)]) := by simp [encL]
  rw [e1, e2]
  unfold rF rFok
  rw [e3]
  simp only [List.append_assoc, Bool.and_true, Bool.and_assoc]
theorem hIO_keep {w wo : World} {B g : Nat} {vk vb vs : Value} {f : FunV} (h : Read g wo w) (hi : FunI wo (· < B) vk vb vs f) (h1 : B ≤ g) (h2 : g < wo.heap.size) : FunI w (· < B) vk vb vs f :=
  hi.keep (h.same (fun b hb => by omega)) (fun _ h => h)
theorem one_len {z : Int} (h : i64R z) : (encL [z]).length ≤ 9 := by
  have := encL_len' [z] (by simpa using h)
  simpa using this

set_option maxHeartbeats 2000000 in
set_option maxRecDepth 100000 in
theorem rencode_any (vp : Value) (p : List FunV) (w : World) (hp : FunsV w (· < w.heap.size) vp p) :
    Calls Tryd.prog 16 #[.agg #[vp]] w (REncA w p) := by
  have hR := hp.range
  have hC := fun (W : World) (hW : Below w.heap.size w W) => rcounts_any vp p W w.heap.size hW.size (hp.keep (up hW (Nat.le_refl _)) (fun _ h => h))
  obtain ⟨A, c, rfl, hpc, hpm⟩ := hp.open'
  obtain ⟨n, hn⟩ : ∃ n, p.length = n := ⟨_, rfl⟩
  rw [hn] at hp hpc hC ⊢
  have HN := hide hn
  have HP := hide hp
  have HR := hide hR
  clear hn hp hR
  by_cases hc : cntB p = true
  case neg =>
    have hv := hide (show encR p = ([], 9) by unfold encR; rw [if_neg hc])
    rw [Bool.eq_false_iff.2 hc] at hC
    have HC := hide hC
    clear hC hc
    go_enter Tryd.func16, Tryd.ntmps16
    go_wp2_with (go_at_call 44; refine (HC.out _ (alloc1 w _)).mono ?_; rintro e w1 ⟨rfl, hb1⟩)
    go_ret2
    exact REncA.no hv.out ((alloc1 w _).trans (hb1.mono (by simp)))
  rw [hc] at hC
  have HC := hide hC
  have HCN := hide hc
  have hn8 : n ≤ 8 := by
    have := hc
    simp only [cntB, Bool.and_eq_true, decide_eq_true_eq] at this
    have := HN.out; omega
  clear hC hc
  obtain ⟨s0, hs0⟩ : ∃ s0 : List Int × Bool, s0 = ([] ++ encL [(n : Int)], true && decide (0 ≤ (n : Int))) := ⟨_, rfl⟩
  have hl0 : s0.1.length ≤ 9 := by
    have := encL_len' [(n : Int)] (by simpa using i64R_nat (by omega))
    simp only [List.length_singleton] at this
    rw [hs0, List.nil_append]; omega
  have hs0' : s0 = (encL [(p.length : Int)], true) := by rw [hs0, HN.out]; simp
  have HS0 := hide hs0
  have HS0' := hide hs0'
  clear hs0 hs0'
  go_enter Tryd.func16, Tryd.ntmps16
  go_upto_region 4 with (go_at_call 44; refine (HC.out _ (alloc1 w _)).mono ?_; rintro e w1 ⟨rfl, hb1⟩; have x1 := (hb1.cell (p := ⟨w.heap.size, 0, none⟩) (by simp)).trans (show _ = some (Value.slice A n c) by simp); have hz1 := hb1.size; simp only [World.size_alloc] at hz1; have HB1 := hide ((alloc1 w _).trans (hb1.mono (by simp))); clear hb1)
  obtain ⟨w3, hw3⟩ : ∃ w3, w3 = w1.alloc (.cells #[.slice none 0 0, .bool true] 65) := ⟨_, rfl⟩
  obtain ⟨g, hg⟩ : ∃ g, w1.heap.size = g := ⟨_, rfl⟩
  have HB3 := hide (show Below w.heap.size w w3 by rw [hw3]; exact HB1.out.alloc (by omega) _)
  have HW3 := hide (show RW w3 g ([], true) by rw [hw3, ← hg]; exact ⟨none, 0, Box.new w1 _ _, Sl.nil _ _ _ _, (fun a h => by cases h), Nat.le_refl _⟩)
  have hg3 : g < w3.heap.size := HW3.out.lt
  have hwg : w.heap.size < g := by omega
  have y1 : w3.cell? ⟨w.heap.size, 0, none⟩ = some (.slice A n c) := by rw [hw3]; exact (World.cell?_alloc_lt _ _ _ (by show w.heap.size < _; omega)).trans x1
  rw [← hw3, hg]
  clear hw3 x1 hg hz1
  have HNN := hide (rnum_any (n : Int) g ([], true) w3 HW3.out (i64R_nat (by omega)) (by simp))
  rw [← HS0.out] at HNN
  go_wp2_with (go_at_call 45; refine HNN.out.mono ?_; rintro e w4 ⟨rfl, hw4, hr4⟩; have HW4 := hide hw4; have HR4 := hide hr4; clear hw4 hr4)
  have HX := hide y1
  clear HNN HW3 y1
  go_loopw [5] (fun i wr => ∃ k : Nat, k ≤ n ∧ i = .int .i64 k ∧ RW wr g (stG rF rFok s0 p k) ∧ Read g w3 wr ∧ Hid ((p.take k).all shapeF = true)) (fun i _ => n - (intOf i).toNat)
  case atStart => exact ⟨0, Nat.zero_le _, rfl, by rw [stG_zero]; exact HW4.out, HR4.out, hide (by simp)⟩
  case round =>
    obtain ⟨k, hk, rfl, hw, hr, hall⟩ := hrel
    have hsz := hr.size
    have hxc := (hr.same (S := fun b => b = w.heap.size) (fun b hb => by omega) _ 0 rfl).trans HX.out
    by_cases hlt : k < n
    · obtain ⟨y, hy⟩ : ∃ y, p[k]? = some y := ⟨_, List.getElem?_eq_getElem (by have := HN.out; omega)⟩
      obtain ⟨b, o, Ak, ck, Ab, cb, As, cs, rfl, hbb, ⟨e0, e1, e2, e3, e4⟩, hi⟩ := ((HP.out.keep (up HB3.out (Nat.le_refl _)) (fun _ h => h)).keep (S' := (· < w.heap.size)) (hr.same (fun b hb => by omega)) (fun _ h => h)).get hy
      have hbs : b < wr.heap.size := by omega
      have hfc := cntB_each HCN.out hy
      have hFR := HR.out y (List.mem_of_getElem? hy)
      have HY := hide hy
      have hql := stG_len (ok := rFok) (s := s0) (en := rF) (xs := p.take k) (m := 231660)
      have hq1 : (stG rF rFok s0 p k).1.length ≤ 1853300 := by
        unfold stG
        rw [List.length_append]
        have h1 := flatMap_len (p.take k) rF 231660 (fun f hf => by
          have hm := List.mem_of_mem_take hf
          obtain ⟨j, hj⟩ := List.getElem?_of_mem hm
          refine rF_len (HR.out f hm) (cntB_each HCN.out hj) ?_
          have hs := List.all_eq_true.1 hall.out f hf
          simp only [shapeF, Bool.and_eq_true, decide_eq_true_eq] at hs
          exact hs.1)
        have h2 : (p.take k).length * 231660 ≤ 8 * 231660 := Nat.mul_le_mul_right _ (by rw [List.length_take]; omega)
        omega
      have hstep := stG_step (en := rF) (ok := rFok) (s := s0) hy
      obtain ⟨q, hq⟩ : ∃ q, stG rF rFok s0 p k = q := ⟨_, rfl⟩
      rw [hq] at hw hq1 hstep
      rw [← fin_state] at hstep
      have HSTEP := hide hstep
      clear hstep hql hq hy
      have hfc2 := hfc
      simp only [funCnt, Bool.and_eq_true, decide_eq_true_eq, List.all_eq_true] at hfc2
      obtain ⟨f1, f3, f4⟩ := hfc2
      have HF4 := hide f4
      have HFR := hide hFR
      obtain ⟨lk, hlk⟩ : ∃ lk, y.kinds.length = lk := ⟨_, rfl⟩
      obtain ⟨lb, hlb⟩ : ∃ lb, y.base.length = lb := ⟨_, rfl⟩
      obtain ⟨l, hl⟩ : ∃ l, y.blocks.length = l := ⟨_, rfl⟩
      rw [hlk] at e0 f1
      rw [hlb] at e1
      rw [hl] at e4 f3
      rw [hlk, hlb, hl] at hi
      rw [hlk, hl] at HSTEP
      have HLK := hide hlk; have HLB := hide hlb; have HL := hide hl
      clear hfc f4 hFR hlk hlb hl
      go_upto_region 9 with (fail)
      obtain ⟨wo, hwo⟩ : ∃ wo, wo = wr.alloc (.cells #[.slice Ak lk ck, .slice Ab lb cb, .int .i64 y.params, .int .i64 y.result, .slice As l cs] 44) := ⟨_, rfl⟩
      obtain ⟨hf, hhf⟩ : ∃ hf, wr.heap.size = hf := ⟨_, rfl⟩
      have HBF := hide (show Box wo hf #[.slice Ak lk ck, .slice Ab lb cb, .int .i64 y.params, .int .i64 y.result, .slice As l cs] 44 by rw [hwo, ← hhf]; exact Box.new wr _ _)
      have HWO := hide (show RW wo g q by rw [hwo]; exact hw.below (alloc1 wr _))
      have HRO := hide (show Read g w3 wo by rw [hwo]; exact hr.alloc _)
      have HIO := hide (show FunI wo (· < w.heap.size) (.slice Ak lk ck) (.slice Ab lb cb) (.slice As l cs) y by rw [hwo]; exact hi.keep (Same'.of_below ((alloc1 wr _).mono (by omega))) (fun _ h => h))
      have hgf : g < hf := by have := hw.lt; omega
      have hfo : hf < wo.heap.size := HBF.out.lt
      rw [← hwo, hhf]
      clear hwo hhf hw hr hi e0 e1 e2 e3 e4 hxc hsz
      have c0 := (HBF.out.cell 0 (v := .slice Ak lk ck) rfl).1
      have c1 := (HBF.out.cell 1 (v := .slice Ab lb cb) rfl).1
      by_cases hlen : lb = lk
      case neg =>
        have hv := hide (encR_bad HCN.out HY.out (shape_no (by unfold shapeF; rw [HLB.out, HLK.out, decide_eq_false hlen]; rfl)))
        have hnb : ((lb : Int) != (lk : Int)) = true := by simp; omega
        clear hlen
        go_wp2
        go_ret2
        exact REncA.no hv.out (HB3.out.trans ((HRO.out.below (by omega)).mono (by omega)))
      subst hlen
      have HNK := hide (rnum_any (lb : Int) g q wo HWO.out (i64R_nat (by omega)) (by omega))
      obtain ⟨s1, hs1⟩ : ∃ s1 : List Int × Bool, s1 = (q.1 ++ encL [(lb : Int)], q.2 && decide (0 ≤ (lb : Int))) := ⟨_, rfl⟩
      have hs1l : s1.1.length ≤ 1853320 := by have := one_len (i64R_nat (n := lb) (by omega)); rw [hs1, List.length_append]; omega
      rw [← hs1] at HNK
      have HS1 := hide hs1
      clear hs1
      go_upto_region 12 with (go_at_call 45; refine HNK.out.mono ?_; rintro e w5 ⟨rfl, hw5, hr5⟩; have HW5 := hide hw5; have HR5 := hide hr5; clear hw5 hr5)
      clear HNK c0 c1
      go_wp2
      go_loopw [7] (fun i wr => ∃ j : Nat, j ≤ lb ∧ i = .int .i64 j ∧ RW wr g (stG encVar okV s1 (y.kinds.zip y.base) j) ∧ Read g wo wr ∧ Hid (((y.kinds.zip y.base).take j).all shapeB = true)) (fun i _ => lb - (intOf i).toNat)
      case atStart => exact ⟨0, Nat.zero_le _, rfl, by rw [stG_zero]; exact HW5.out, HR5.out, hide (by simp)⟩
      case round =>
        obtain ⟨j, hj, rfl, hw, hr, hallv⟩ := hrel
        have hbx := hr.box HBF.out (by omega)
        have hgh := hbx.lt
        have c0 := (hbx.cell 0 (v := .slice Ak lb ck) rfl).1
        have c1 := (hbx.cell 1 (v := .slice Ab lb cb) rfl).1
        by_cases hjl : j < lb
        · have hz : (y.kinds.zip y.base).length = lb := by rw [List.length_zip, HLB.out, HLK.out]; omega
          obtain ⟨kb, hkb⟩ : ∃ kb, (y.kinds.zip y.base)[j]? = some kb := ⟨_, List.getElem?_eq_getElem (by omega)⟩
          obtain ⟨kd, bs⟩ := kb
          have hzz := List.getElem?_zip_eq_some.1 hkb
          have hki := hIO_keep hr HIO.out (by omega) (by omega)
          obtain ⟨b3, o3, rfl, hb3, d0, dR⟩ := hki.1.get hzz.1
          obtain ⟨b4, o4, rfl, hb4, d1, dR1⟩ := hki.2.1.get hzz.2
          have hstv := stG_step (en := encVar) (ok := okV) (s := s1) hkb
          have hvl : (stG encVar okV s1 (y.kinds.zip y.base) j).1.length ≤ 1853320 + 48 * 18 := by
            have h1 := stG_len (ok := okV) (s := s1) (en := encVar) (xs := y.kinds.zip y.base) (m := 18) (fun kb hkb => by
              obtain ⟨a, b⟩ := kb
              have := List.of_mem_zip hkb
              exact encVar_len (HFR.out.2.2.1 _ this.1) (HFR.out.2.2.2.1 _ this.2)) j
            have h2 : (y.kinds.zip y.base).length * 18 ≤ 48 * 18 := Nat.mul_le_mul_right _ (by omega)
            omega
          have HKB := hide hkb
          obtain ⟨q1, hq1⟩ : ∃ q1, stG encVar okV s1 (y.kinds.zip y.base) j = q1 := ⟨_, rfl⟩
          rw [hq1] at hw hvl hstv
          have HN1 := hide (rnum_any kd g q1 wr hw dR (by omega))
          have HSTV := hide hstv
          have HWR := hide hw
          have HRR := hide hr
          have hb3s : b3 < wr.heap.size := by have := hr.size; omega
          have hb4s : b4 < wr.heap.size := by have := hr.size; omega
          clear hz hkb hzz hki hstv hq1 hw hr
          simp only at d0 d1 dR dR1
          by_cases hsh : shapeB (kd, bs) = true
          case neg =>
            have hv := hide (encR_bad HCN.out HY.out (shape_no (by unfold shapeF; rw [allB_not HKB.out (Bool.eq_false_iff.2 hsh), Bool.and_false])))
            have HBB := hide (HB3.out.trans (((HRO.out.trans HRR.out).below (by omega)).mono (by omega)))
            have hcase : kd < 0 ∨ (¬ kd < 0 ∧ 2 < kd) ∨ (¬ kd < 0 ∧ ¬ 2 < kd ∧ ¬ kd = 2 ∧ ¬ bs = -1) := by
              simp only [shapeB, Bool.and_eq_true, Bool.or_eq_true, decide_eq_true_eq] at hsh
              omega
            clear hsh
            rcases hcase with h | ⟨h, h'⟩ | ⟨h, h', h2, h1⟩
            · go_wp2
              go_ret2
              exact REncA.no hv.out HBB.out
            · go_wp2
              go_ret2
              exact REncA.no hv.out HBB.out
            · have hb1 : (kd != 2) = true := by simpa using h2
              have hb2 : (bs != -1) = true := by simpa using h1
              clear h1 h2
              go_wp2
              go_ret2
              exact REncA.no hv.out HBB.out
          have hnx := hide (allB_take hallv.out HKB.out hsh)
          simp only [shapeB, Bool.and_eq_true, Bool.or_eq_true, decide_eq_true_eq] at hsh
          obtain ⟨⟨h0, h2⟩, h1⟩ := hsh
          by_cases hk2 : kd = 2
          · subst hk2
            have hN2 := fun W hW => rnum_any bs g (q1.1 ++ encL [2], q1.2 && decide ((0 : Int) ≤ 2)) W hW dR1 (by have := one_len (z := 2) (by unfold i64R; omega); simp only [List.length_append]; omega)
            have hst : stG encVar okV s1 (y.kinds.zip y.base) (j + 1) = ((q1.1 ++ encL [2]) ++ encL [bs], (q1.2 && decide ((0 : Int) ≤ 2)) && decide (0 ≤ bs)) := by rw [HSTV.out]; simp [encVar, okV]
            have HN2 := hide hN2
            have HST := hide hst
            clear hN2 hst h0 h2 h1
            go_wp2_with (first
              | (go_at_call 45; refine (HN2.out w6 HW6.out).mono ?_; rintro e w7 ⟨rfl, hw7, hr7⟩; have HW7 := hide hw7; have HR7 := hide hr7; clear hw7 hr7)
              | (go_at_call 45; refine HN1.out.mono ?_; rintro e w6 ⟨rfl, hw6, hr6⟩; have hbx6 := hr6.box hbx (by omega); have hgh6 := hbx6.lt; have z0 := (hbx6.cell 0 (v := .slice (some ⟨b3, o3, none⟩) lb ck) rfl).1; have z1 := (hbx6.cell 1 (v := .slice (some ⟨b4, o4, none⟩) lb cb) rfl).1; have hs6 := hr6.same (S := fun b => b = b3 ∨ b = b4) (fun b hb => by omega); have z2 := (hs6 b3 (o3 + j) (.inl rfl)).trans d0; have z3 := (hs6 b4 (o4 + j) (.inr rfl)).trans d1; have hsz6 := hr6.size; have hb3s6 : b3 < w6.heap.size := (by omega); have hb4s6 : b4 < w6.heap.size := (by omega); have HW6 := hide hw6; have HR6 := hide hr6; clear hw6 hr6 hbx6 hs6 c0 c1 d0 d1))
            go_roundw
            case rel => exact ⟨j + 1, by omega, by go_num, by rw [HST.out]; exact HW7.out, (HRR.out.trans HR6.out).trans HR7.out, hnx⟩
            case measure => simp [intOf]; omega
          · have hb1 : bs = -1 := by rcases h1 with h1 | h1; exact absurd h1 hk2; exact h1
            subst hb1
            have hst : stG encVar okV s1 (y.kinds.zip y.base) (j + 1) = (q1.1 ++ encL [kd], q1.2 && decide (0 ≤ kd)) := by rw [HSTV.out]; simp [encVar, okV, hk2, h0]
            have HST := hide hst
            have hbk : (kd == 2) = false := by simpa using hk2
            have hbk2 : (kd != 2) = true := by simpa using hk2
            clear hst h1 hk2
            go_wp2_with (go_at_call 45; refine HN1.out.mono ?_; rintro e w6 ⟨rfl, hw6, hr6⟩; have hbx6 := hr6.box hbx (by omega); have hgh6 := hbx6.lt; have z0 := (hbx6.cell 0 (v := .slice (some ⟨b3, o3, none⟩) lb ck) rfl).1; have z1 := (hbx6.cell 1 (v := .slice (some ⟨b4, o4, none⟩) lb cb) rfl).1; have hs6 := hr6.same (S := fun b => b = b3 ∨ b = b4) (fun b hb => by omega); have z2 := (hs6 b3 (o3 + j) (.inl rfl)).trans d0; have z3 := (hs6 b4 (o4 + j) (.inr rfl)).trans d1; have hsz6 := hr6.size; have hb3s6 : b3 < w6.heap.size := (by omega); have hb4s6 : b4 < w6.heap.size := (by omega); have HW6 := hide hw6; have HR6 := hide hr6; clear hw6 hr6 hbx6 hs6 c0 c1 d0 d1)
            go_roundw
            case rel => exact ⟨j + 1, by omega, by go_num, by rw [HST.out]; exact HW6.out, HRR.out.trans HR6.out, hnx⟩
            case measure => simp [intOf]; omega
        · have hz : (y.kinds.zip y.base).length = lb := by rw [List.length_zip, HLB.out, HLK.out]; omega
          have hvl : (stG encVar okV s1 (y.kinds.zip y.base) j).1.length ≤ 1853320 + 48 * 18 := by
            have h1 := stG_len (ok := okV) (s := s1) (en := encVar) (xs := y.kinds.zip y.base) (m := 18) (fun kb hkb => by
              obtain ⟨a, b⟩ := kb
              have := List.of_mem_zip hkb
              exact encVar_len (HFR.out.2.2.1 _ this.1) (HFR.out.2.2.2.1 _ this.2)) j
            have h2 : (y.kinds.zip y.base).length * 18 ≤ 48 * 18 := Nat.mul_le_mul_right _ (by omega)
            omega
          have hsf := hide (show shapeF y = true by
            unfold shapeF; rw [HLB.out, HLK.out]
            have h := hallv.out
            rw [List.take_of_length_le (by omega)] at h
            rw [h]; simp)
          rw [stG_end (by omega)] at hw hvl
          obtain ⟨s2, hs2⟩ : ∃ s2 : List Int × Bool, s2 = (s1.1 ++ (y.kinds.zip y.base).flatMap encVar, s1.2 && (y.kinds.zip y.base).all okV) := ⟨_, rfl⟩
          rw [← hs2] at hw hvl
          have HS2 := hide hs2
          obtain ⟨s3, hs3⟩ : ∃ s3 : List Int × Bool, s3 = (s2.1 ++ encL [y.params], s2.2 && decide (0 ≤ y.params)) := ⟨_, rfl⟩
          obtain ⟨s4, hs4⟩ : ∃ s4 : List Int × Bool, s4 = (s3.1 ++ encL [y.result], s3.2 && decide (0 ≤ y.result)) := ⟨_, rfl⟩
          obtain ⟨s5, hs5⟩ : ∃ s5 : List Int × Bool, s5 = (s4.1 ++ encL [(l : Int)], s4.2 && decide (0 ≤ (l : Int))) := ⟨_, rfl⟩
          have hRl : i64R (l : Int) := i64R_nat (by omega)
          have l3 : s3.1.length ≤ 1854300 := by have := one_len HFR.out.1; rw [hs3, List.length_append]; omega
          have l4 : s4.1.length ≤ 1854400 := by have := one_len HFR.out.2.1; rw [hs4, List.length_append]; omega
          have l5 : s5.1.length ≤ 1854500 := by have := one_len hRl; rw [hs5, List.length_append]; omega
          have hN3 := rnum_any y.params g s2 wr hw HFR.out.1 (by omega)
          have hN4 := fun W hW => rnum_any y.result g s3 W hW HFR.out.2.1 (by omega)
          have hN5 := fun W hW => rnum_any (l : Int) g s4 W hW hRl (by omega)
          rw [← hs3] at hN3
          simp only [← hs4] at hN4
          simp only [← hs5] at hN5
          have HN3 := hide hN3; have HN4 := hide hN4; have HN5 := hide hN5
          have HS3 := hide hs3; have HS4 := hide hs4; have HS5 := hide hs5
          have c2 := (hbx.cell 2 (v := .int .i64 y.params) rfl).1
          have HRR := hide hr
          clear hs2 hs3 hs4 hs5 hN3 hN4 hN5 hw hr hz hRl c1
          go_upto_region 23 with (first
            | (go_at_call 45; refine (HN5.out w7 HW7.out).mono ?_; rintro e w8 ⟨rfl, hw8, hr8⟩; have HW8 := hide hw8; have HR8 := hide hr8; clear hw8 hr8)
            | (go_at_call 45; refine (HN4.out w6 HW6.out).mono ?_; rintro e w7 ⟨rfl, hw7, hr7⟩; have hbx7 := hr7.box HBX6.out (by omega); have hgh7 := hbx7.lt; have z4 := (hbx7.cell 4 (v := .slice As l cs) rfl).1; have HW7 := hide hw7; have HR7 := hide hr7; clear hw7 hr7 hbx7)
            | (go_at_call 45; refine HN3.out.mono ?_; rintro e w6 ⟨rfl, hw6, hr6⟩; have hbx6 := hr6.box hbx (by omega); have hgh6 := hbx6.lt; have z3 := (hbx6.cell 3 (v := .int .i64 y.result) rfl).1; have HBX6 := hide hbx6; have HW6 := hide hw6; have HR6 := hide hr6; clear hw6 hr6 hbx6))
          have hb8 := ((((HRR.out.trans HR6.out).trans HR7.out).trans HR8.out))
          have HR9 := hide hb8
          have hbF := hb8.box HBF.out (by omega)
          have hgh8 := hbF.lt
          have hsz8 := hb8.size
          clear z3 z4 c0 c2 hgh6 hgh7 hbF hb8 hbx hgh
          go_wp2
          go_loopw [8] (fun i wr => ∃ j : Nat, j ≤ l ∧ i = .int .i64 j ∧ RW wr g (stG rBlk (fun b => b.all insMayB) s5 y.blocks j) ∧ Read g wo wr) (fun i _ => l - (intOf i).toNat)
          case atStart => exact ⟨0, Nat.zero_le _, rfl, by rw [stG_zero]; exact HW8.out, HR9.out⟩
          case round =>
            obtain ⟨qb, hqb, rfl, hw, hr⟩ := hrel
            have hbx := hr.box HBF.out (by omega)
            have hgh := hbx.lt
            have c4 := (hbx.cell 4 (v := .slice As l cs) rfl).1
            have hbl : (stG rBlk (fun b => b.all insMayB) s5 y.blocks qb).1.length ≤ 1854500 + 40 * 5769 := by
              have h1 := stG_len (ok := fun b => b.all insMayB) (s := s5) (en := rBlk) (xs := y.blocks) (m := 5769) (fun b hb => rBlk_len (HFR.out.2.2.2.2 b hb) (HF4.out b hb)) qb
              have h2 : y.blocks.length * 5769 ≤ 40 * 5769 := Nat.mul_le_mul_right _ (by have := HL.out; omega)
              omega
            by_cases hql : qb < l
            · obtain ⟨x, hxx⟩ : ∃ x, y.blocks[qb]? = some x := ⟨_, List.getElem?_eq_getElem (by have := HL.out; omega)⟩
              have hki := hIO_keep hr HIO.out (by omega) (by omega)
              obtain ⟨b5, o5, A5, c5, rfl, hb5, f0, hx5⟩ := hki.2.2.1.get hxx
              have hxm := List.mem_of_getElem? hxx
              have hbc := HF4.out x hxm
              have hxR := HFR.out.2.2.2.2 x hxm
              have hst := stG_step (en := rBlk) (ok := fun b => b.all insMayB) (s := s5) hxx
              obtain ⟨q6, hq6⟩ : ∃ q6, stG rBlk (fun b => b.all insMayB) s5 y.blocks qb = q6 := ⟨_, rfl⟩
              rw [hq6] at hw hbl hst
              simp only [blkCnt, Bool.and_eq_true, decide_eq_true_eq, List.all_eq_true] at hbc
              obtain ⟨hm40, hic⟩ := hbc
              obtain ⟨m, hm⟩ : ∃ m, x.length = m := ⟨_, rfl⟩
              rw [hm] at f0 hm40 hx5
              have hNM := rnum_any (m : Int) g q6 wr hw (i64R_nat (by omega)) (by omega)
              obtain ⟨s6, hs6⟩ : ∃ s6 : List Int × Bool, s6 = (q6.1 ++ encL [(m : Int)], q6.2 && decide (0 ≤ (m : Int))) := ⟨_, rfl⟩
              have l6 : s6.1.length ≤ 2090000 := by have := one_len (i64R_nat (n := m) (by omega)); rw [hs6, List.length_append]; omega
              rw [← hs6] at hNM
              have hst2 : stG rBlk (fun b => b.all insMayB) s5 y.blocks (qb + 1) = (s6.1 ++ x.flatMap insB, s6.2 && x.all insMayB) := by
                rw [hst, hs6, ← hm]; simp [rBlk]
              have HST := hide hst2
              have HNM := hide hNM
              have HIC := hide hic
              have HXR := hide hxR
              have HM := hide hm
              have HX5 := hide hx5
              have HRR2 := hide hr
              have hb5s : b5 < wr.heap.size := by have := hr.size; omega
              obtain ⟨wi, hwi⟩ : ∃ wi, wi = wr := ⟨_, rfl⟩
              subst hwi
              clear hst hst2 hs6 hq6 hNM hic hxR hm hx5 hxm hxx hki hw hr
              go_upto_region 27 with (go_at_call 45; refine HNM.out.mono ?_; rintro e w10 ⟨rfl, hw10, hr10⟩; have HW10 := hide hw10; have HR10 := hide hr10; clear hw10 hr10)
              have HF0 := hide f0
              have HBX := hide hbx
              clear c4 f0 hbx
              go_wp2
              go_loopw [9] (fun i wr => ∃ j : Nat, j ≤ m ∧ i = .int .i64 j ∧ RW wr g (stG insB insMayB s6 x j) ∧ Read g wi wr) (fun i _ => m - (intOf i).toNat)
              case atStart => exact ⟨0, Nat.zero_le _, rfl, by rw [stG_zero]; exact HW10.out, HR10.out⟩
              case round =>
                obtain ⟨jj, hjj, rfl, hw, hr⟩ := hrel
                have hbx := hr.box HBX.out (by omega)
                have hgh2 := hbx.lt
                have c4 := (hbx.cell 4 (v := .slice (some ⟨b5, o5, none⟩) l cs) rfl).1
                have hszi := hr.size
                have f0 := (hr.same (S := fun b => b = b5) (fun b hb => by omega) b5 (o5 + qb) rfl).trans HF0.out
                have hb5r : b5 < wr.heap.size := by omega
                by_cases hjl : jj < m
                · obtain ⟨u, hu⟩ : ∃ u, x[jj]? = some u := ⟨_, List.getElem?_eq_getElem (by have := HM.out; omega)⟩
                  have hxk := HX5.out.keep (S' := (· < w.heap.size)) (hr.same (fun b hb => by omega)) (fun _ h => h)
                  obtain ⟨b6, o6, A6, c6, rfl, hb6, ⟨g0, g1, g2, g3, g4, g5, g6⟩, hui⟩ := hxk.get hu
                  have hb6s : b6 < wr.heap.size := by omega
                  have hil : (stG insB insMayB s6 x jj).1.length ≤ 2090000 + 40 * 144 := by
                    have h1 := stG_len (ok := insMayB) (s := s6) (en := insB) (xs := x) (m := 144) (fun u hu => insB_len (HXR.out u hu) (HIC.out u hu)) jj
                    have h2 : x.length * 144 ≤ 40 * 144 := Nat.mul_le_mul_right _ (by have := HM.out; omega)
                    omega
                  have hI := rwins_any u _ g w.heap.size _ wr hw (by omega) hui (HIC.out u (List.mem_of_getElem? hu)) (by omega)
                  rw [← stG_step hu] at hI
                  have HI := hide hI
                  have HRI := hide hr
                  generalize u.args.length = lu at *
                  clear hu hxk hui hil hI hw hr hbx
                  go_wp2_with (go_at_call 46; refine HI.out.mono ?_; rintro e w11 ⟨rfl, hw11, hr11⟩; have HW11 := hide hw11; have HR11 := hide hr11; clear hw11 hr11)
                  go_roundw
                  case rel => exact ⟨jj + 1, by omega, by go_num, HW11.out, HRI.out.trans HR11.out⟩
                  case measure => simp [intOf]; omega
                · have hlast := hide (show RW wr g (stG rBlk (fun b => b.all insMayB) s5 y.blocks (qb + 1)) by rw [HST.out, ← stG_end (en := insB) (ok := insMayB) (s := s6) (xs := x) (j := jj) (by have := HM.out; omega)]; exact hw)
                  have HRI := hide (HRR2.out.trans hr)
                  clear hw hr hbx
                  go_wp2
                  go_roundw
                  case rel => exact ⟨qb + 1, by omega, by go_num, hlast.out, HRI.out⟩
                  case measure => simp [intOf]; omega
            · have hend : stG rF rFok s0 p (k + 1) = stG rBlk (fun b => b.all insMayB) s5 y.blocks qb := by
                rw [stG_end (en := rBlk) (xs := y.blocks) (j := qb) (by have := HL.out; omega), HS5.out, HS4.out, HS3.out, HS2.out, HS1.out]
                exact HSTEP.out
              have hlast := hide (show RW wr g (stG rF rFok s0 p (k + 1)) by rw [hend]; exact hw)
              have HRI := hide (HRO.out.trans hr)
              have hall2 := hide (allB_take hall.out HY.out hsf.out)
              clear hw hr hbx hend
              go_wp2
              go_roundw
              case rel => exact ⟨k + 1, by omega, by go_num, hlast.out, HRI.out, hall2⟩
              case measure => simp [intOf]; omega
    · have hgl := hw.lt
      rw [stG_end (by have := HN.out; omega)] at hw
      obtain ⟨A5, c5, e0, e1, hs5⟩ := hw.fin
      have HS5 := hide hs5
      have hend := encR_end HCN.out (by have h := hall.out; rwa [List.take_of_length_le (by have := HN.out; omega)] at h)
      have HB := hide (show Below w.heap.size w wr from HB3.out.trans ((hr.below (by omega)).mono (by omega)))
      simp only [HS0'.out, Bool.true_and] at e0 e1 HS5
      by_cases hok : p.all rFok = true
      · rw [if_pos hok] at hend
        rw [hok] at e1
        have HE := hide hend
        clear hw hr hall hok hend hs5
        generalize (encL [(p.length : Int)] ++ p.flatMap rF) = bs at *
        go_wp2
        go_ret2
        exact ⟨A5, c5, by rw [HE.out]; rfl, by rw [HE.out]; exact HS5.out, HB.out⟩
      · rw [if_neg hok] at hend
        rw [Bool.eq_false_iff.2 hok] at e1
        have HE := hide hend
        clear hw hr hall hok hend hs5 HS5
        go_wp2
        go_ret2
        exact REncA.no HE.out HB.out
end Go.Proofs.YtpgljbjgbjjcnaaDoor
