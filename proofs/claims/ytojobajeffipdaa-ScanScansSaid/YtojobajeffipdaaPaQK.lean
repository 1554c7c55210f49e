/- The statement ScanScans, walked: it answers true. Condition: no slice is longer than any machine can hold. -/
import Derived.Test.YtojobajeffipdaaPaQL
import Derived.Test.YtojobajeffipdaaPaQJ
set_option linter.unusedSimpArgs false
set_option linter.unusedVariables false
namespace Go.Proofs.Ytojobajeffipdaa
open Go.RowKit

set_option maxHeartbeats 4000000 in
set_option maxRecDepth 100000 in
theorem scans_law (v : Value) (ss : List SpV) (regs : Int) (w : World) (hs : SpsV w (· < w.heap.size) v ss) :
    Calls Try.prog 3 #[v, .int .i64 regs] w fun e w' => e = .returned (.bool true) ∧ Below w.heap.size w w' := by
  have HAL := hide (fun (W : World) => alive16_any W)
  obtain ⟨A, c, rfl, hc, hcm⟩ := hs.open'
  obtain ⟨n, hn⟩ := letl ss.length
  rw [hn] at hs hc ⊢
  by_cases h100 : n ≤ 100
  rotate_left
  · clear hs hn
    have hgt : 100 < n := by omega
    go_enter Try.func3, Try.ntmps3
    go_wp2_with (go_at_call 8; refine (HAL.out w).mono ?_; rintro e w1 ⟨rfl, hb1⟩)
    go_ret
    exact ⟨rfl, hb1⟩
  have HSM := hide hs.small
  have HCE := hide (fun (W : World) (hW : Below w.heap.size w W) (h0 : 0 < n) => (show ∃ b o, A = some ⟨b, o, none⟩ ∧ ∀ (j : Nat) (u : Value), (ss.flatMap spC)[j]? = some u → W.cell? ⟨b, o + j, none⟩ = some u from by
    obtain ⟨b, o, e, hb, hc⟩ := hs.cells (by omega)
    exact ⟨b, o, e, fun j u hu => (hW.cell (p := ⟨b, o + j, none⟩) hb).trans (hc j u hu)⟩))
  have HSV := hide (fun (W : World) (hW : Below w.heap.size w W) => hs.up hW)
  have HN := hide hn
  obtain ⟨i0, hi0, iz0, iz1, iz2⟩ := info_parts info_sp
  have HI := hide hi0
  clear hs hn hi0
  go_enter Try.func3, Try.ntmps3
  go_upto_region 5 with (go_at_call 8; refine (HAL.out w).mono ?_; rintro e w1 ⟨rfl, hb1⟩; have HB1 := hide hb1; clear hb1)
  have HO := hide (OwC.lit0 (c := spC) (T := 35) (sz := 4) w1)
  have HBA := hide (HB1.out.trans ((alloc1 w1 (.cells #[] 35)).mono HB1.out.size))
  go_upto_region 6 with (at_builtin; refine wpList_append_cs (c := spC) (sz := 4) (fun _ => rfl) _ rfl (.tmp 15) (.tmp 16) rfl w1.heap.size i0 _ 32 Try.underlying22 HI.out iz0 iz1 iz2 rfl (by omega) (by omega) (.slice (some ⟨w1.heap.size, 0, none⟩) 0 0) [] (by rfl) HO.out A n c ss (by rfl) HN.out (spC_one ss) (HCE.out _ HBA.out) (by simp; omega) (by simp) ?_; intro v5 w5 ho5 hb5; have HO5 := hide (show OwC spC 35 4 w5 w1.heap.size v5 ss from ho5); have HB5 := hide (HB1.out.trans (((alloc1 w1 (.cells #[] 35)).trans hb5).mono HB1.out.size)); clear ho5 hb5)
  have HS5 := hide (sps_own HO5.out HSM.out)
  obtain ⟨A5, c5, hv5, hc5, hm5⟩ := HO5.out.sl
  rw [HN.out] at hv5 hc5
  subst hv5
  simp only [maxLen] at hm5
  have HSC := hide (qscan_any _ ss regs w5 HS5.out (by have := HN.out; omega))
  rw [HN.out] at HSC
  have HRQ := hide (fun (W : World) (hW : Below w5.heap.size w5 W) => qright_any (.slice A5 n c5) ss W (HS5.out.up hW) (by have := HN.out; omega))
  have HRR := hide (fun (W : World) (hW : Below w5.heap.size w5 W) => rrightS_any (.slice A n c) ss W (HSV.out W (HB5.out.trans (hW.mono HB5.out.size))) (by have := HN.out; omega))
  have HSR := hide (fun (W : World) (hW : Below w5.heap.size w5 W) => rscan_any (.slice A n c) ss regs W (HSV.out W (HB5.out.trans (hW.mono HB5.out.size))) (by have := HN.out; omega))
  rw [HN.out] at HSR
  have HSS := hide (fun (W : World) (hW : Below w5.heap.size w5 W) => (show Calls Try.prog 14 #[.slice A5 n c5, .slice A n c] W fun e w' => e = .returned (.bool true) ∧ Below W.heap.size W w' from by
    have t := rsameS_any (.slice A5 n c5) (.slice A n c) ss ss W (HS5.out.up hW) (HSV.out W (HB5.out.trans (hW.mono HB5.out.size))) (by have := HN.out; omega) (by have := HN.out; omega)
    rwa [decide_eq_true rfl] at t))
  by_cases hin : rightB16 ss = true ∧ 0 ≤ regs ∧ regs ≤ 32
  · have HOKL := hide (show LcOk (scanL ss regs n) ∧ (scanL ss regs n).length = n from by
      have h := inv_all (regs := regs) (okS_of hin.1) n (by have := HN.out; omega)
      exact ⟨lcOk_of h hin.2.2, by rw [h.len, HN.out]⟩)
    have HIN := hide hin
    have HLB := hide (fun (g g' : Nat) (W : World) (h : Box W g (lcsA (scanL ss regs n)) 37) (h' : Box W g' (lcsA (scanL ss regs n)) 37) => (show Calls Try.prog 11 #[.slice (some ⟨g, 0, none⟩) n n, .slice (some ⟨g', 0, none⟩) n n] W fun e w' => e = .returned (.bool true) ∧ Below W.heap.size W w' from by
      have t := rsameL_any (.slice (some ⟨g, 0, none⟩) n n) (.slice (some ⟨g', 0, none⟩) n n) _ _ W (lcs_of_box h HOKL.out.1 HOKL.out.2 (Nat.le_refl _) (by omega)) (lcs_of_box h' HOKL.out.1 HOKL.out.2 (Nat.le_refl _) (by omega)) (by have := HOKL.out.2; omega) (by have := HOKL.out.2; omega)
      rwa [decide_eq_true rfl] at t))
    obtain ⟨r, hr⟩ := letl (rightB16 ss)
    rw [hr] at HRQ HRR
    clear hin hr
    go_upto_region 7 with (go_at_call 9; (with_reducible refine HSC.out.mono ?_); intro e w6 h6; obtain ⟨g, rfl, hx6, hb6⟩ := h6.yes HIN.out; have HX6 := hide hx6; have HB6 := hide hb6; clear hx6 hb6 h6)
    go_upto_region 8 with (go_at_call 10; (with_reducible refine (HSR.out w6 HB6.out).mono ?_); intro e w7 h7; obtain ⟨g', rfl, hx7, hb7⟩ := h7.yes HIN.out; have HX7 := hide hx7; have HB7 := hide (HB6.out.trans (hb7.mono HB6.out.size)); have HY7 := hide (HX6.out.below hb7); clear hx7 hb7 h7)
    go_wp2_with (first
      | (go_at_call 14; (with_reducible refine (HSS.out w10 c10.out).mono ?_); rintro e w11 ⟨rfl, hb11⟩; have c11 := hide (c10.out.trans (hb11.mono c10.out.size)); clear hb11)
      | (go_at_call 13; (with_reducible refine (HRR.out w9 c9.out).mono ?_); rintro e w10 ⟨rfl, hb10⟩; have c10 := hide (c9.out.trans (hb10.mono c9.out.size)); clear hb10)
      | (go_at_call 12; (with_reducible refine (HRQ.out w8 c8.out).mono ?_); rintro e w9 ⟨rfl, hb9⟩; have c9 := hide (c8.out.trans (hb9.mono c8.out.size)); clear hb9)
      | (go_at_call 11; (with_reducible refine (HLB.out g g' w7 HY7.out HX7.out).mono ?_); rintro e w8 ⟨rfl, hb8⟩; have c8 := hide (HB7.out.trans (hb8.mono HB7.out.size)); clear hb8))
    go_ret
    exact ⟨by simp, HB5.out.trans (c11.out.mono HB5.out.size)⟩
  · have HIN := hide hin
    have HLB := hide (fun (W : World) => (show Calls Try.prog 11 #[.slice none 0 0, .slice none 0 0] W fun e w' => e = .returned (.bool true) ∧ Below W.heap.size W w' from by
      have t := rsameL_any (.slice none 0 0) (.slice none 0 0) [] [] W (lcs_nil W) (lcs_nil W) (by simp) (by simp)
      rwa [decide_eq_true rfl] at t))
    obtain ⟨r, hr⟩ := letl (rightB16 ss)
    rw [hr] at HRQ HRR
    clear hin hr
    go_upto_region 7 with (go_at_call 9; (with_reducible refine HSC.out.mono ?_); intro e w6 h6; obtain ⟨rfl, hb6⟩ := h6.no HIN.out; have HB6 := hide hb6; clear hb6 h6)
    go_upto_region 8 with (go_at_call 10; (with_reducible refine (HSR.out w6 HB6.out).mono ?_); intro e w7 h7; obtain ⟨rfl, hb7⟩ := h7.no HIN.out; have HB7 := hide (HB6.out.trans (hb7.mono HB6.out.size)); clear hb7 h7)
    go_wp2_with (first
      | (go_at_call 14; (with_reducible refine (HSS.out w10 c10.out).mono ?_); rintro e w11 ⟨rfl, hb11⟩; have c11 := hide (c10.out.trans (hb11.mono c10.out.size)); clear hb11)
      | (go_at_call 13; (with_reducible refine (HRR.out w9 c9.out).mono ?_); rintro e w10 ⟨rfl, hb10⟩; have c10 := hide (c9.out.trans (hb10.mono c9.out.size)); clear hb10)
      | (go_at_call 12; (with_reducible refine (HRQ.out w8 c8.out).mono ?_); rintro e w9 ⟨rfl, hb9⟩; have c9 := hide (c8.out.trans (hb9.mono c8.out.size)); clear hb9)
      | (go_at_call 11; (with_reducible refine (HLB.out w7).mono ?_); rintro e w8 ⟨rfl, hb8⟩; have c8 := hide (HB7.out.trans (hb8.mono HB7.out.size)); clear hb8))
    go_ret
    exact ⟨by simp, HB5.out.trans (c11.out.mono HB5.out.size)⟩
end Go.Proofs.Ytojobajeffipdaa
