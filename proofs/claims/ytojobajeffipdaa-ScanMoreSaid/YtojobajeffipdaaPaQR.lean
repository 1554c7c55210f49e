/- The statement ScanMore, walked: it answers true. Condition: no slice is longer than any machine can hold. -/
import Derived.Test.YtojobajeffipdaaPaQL
set_option linter.unusedSimpArgs false
set_option linter.unusedVariables false
namespace Go.Proofs.Ytojobajeffipdaa
open Go.RowKit

set_option maxHeartbeats 4000000 in
set_option maxRecDepth 100000 in
theorem more_law (v : Value) (ss : List SpV) (w : World) (hs : SpsV w (· < w.heap.size) v ss) :
    Calls Try.prog 6 #[v] w fun e w' => e = .returned (.bool true) ∧ Below w.heap.size w w' := by
  have HAL := hide (fun (W : World) => alive16_any W)
  obtain ⟨A, c, rfl, hc, hcm⟩ := hs.open'
  obtain ⟨n, hn⟩ := letl ss.length
  rw [hn] at hs hc ⊢
  have HSC := hide (fun (regs : Int) (W : World) (hW : Below w.heap.size w W) => (show Calls Try.prog 9 #[.slice A n c, .int .i64 regs] W (ScanA W ss regs n) from by have t := qscan_any (.slice A n c) ss regs W (hs.up hW) (by omega); rwa [hn] at t))
  have HSP := hide (fun (W : World) (hW : Below w.heap.size w W) (b o : Nat) (hA : A = some ⟨b, o, none⟩) (j : Nat) (y : SpV) (hy : ss[j]? = some y) => (hA ▸ hs).at' hW hy)
  have HAD := hide (fun (j : Nat) (y : SpV) (hy : ss[j]? = some y) => (show (∃ b o, A = some ⟨b, o, none⟩) from by
    obtain ⟨b, o, e, -⟩ := hs.get hy
    exact ⟨b, o, e⟩))
  have HN := hide hn
  by_cases hr : rightB16 ss = true
  rotate_left
  · have HI0 := hide (fun (e : Ending) (W W' : World) (regs : Int) (h : ScanA W ss regs n e W') => h.no (fun h => hr h.1))
    clear hs hn hr
    go_enter Try.func6, Try.ntmps6
    go_upto_region 3 with (go_at_call 8; refine (HAL.out w).mono ?_; rintro e w1 ⟨rfl, hb1⟩; have HB1 := hide hb1; clear hb1)
    go_upto_region 4 with (go_at_call 9; (with_reducible refine (HSC.out _ w1 HB1.out).mono ?_); intro e w2 h2; obtain ⟨rfl, hb2⟩ := HI0.out _ _ _ _ h2; have HB2 := hide (HB1.out.trans (hb2.mono HB1.out.size)); clear h2 hb2)
    go_wp2_with (go_at_call 9; (with_reducible refine (HSC.out _ w2 HB2.out).mono ?_); intro e w3 h3; obtain ⟨rfl, hb3⟩ := HI0.out _ _ _ _ h3; have HB3 := hide (HB2.out.trans (hb3.mono HB2.out.size)); clear h3 hb3)
    go_ret
    exact ⟨by simp, HB3.out⟩
  have h0 := scan_list (regs := 0) ⟨hr, by omega, by omega⟩ hn
  have h2 := scan_list (regs := 32) ⟨hr, by omega, by omega⟩ hn
  have HY := hide (fun (regs : Int) (h : 0 ≤ regs ∧ regs ≤ 32) (e : Ending) (W W' : World) (h' : ScanA W ss regs n e W') => h'.yes ⟨hr, h⟩)
  have hn48 := h0.1
  have HK2 := hide (fun (j : Nat) (hj : j < n) => (show (lcAt (scanL ss 0 n) j).k = 2 from by
    rcases h0.2.2.2.1.kind j hj with ⟨_, a, b⟩ | ⟨a, _⟩
    · omega
    · exact a))
  have HSA := hide (show slotsN (scanL ss 0 n) ≤ n by have := slots_cnt h0.2.2.2.2; have := cnt2_le (scanL ss 0 n); have := h0.2.2.1; omega)
  have HSB := hide (fun (h32 : n ≤ 32) => (show slotsN (scanL ss 32 n) ≤ ss.countP (fun x => x.c) from by
    have a := slots_cnt h2.2.2.2.2
    have hok := okS_of hr
    have b := cnt2_calls (ss := ss) (regs := 32) (ls := scanL ss 32 n) (hn ▸ h2.2.2.2.1) (hn ▸ roomy_all hok (fun i hi hc => by have := live_le ss (spAt ss i); omega) n (by omega))
    omega))
  have HLA := hide (And.intro h0.2.1 h0.2.2.1)
  have HLB := hide (And.intro h2.2.1 h2.2.2.1)
  have HSL := hide (fun (L : List LcV) (g : Nat) (W : World) (h : Box W g (lcsA L) 37) (hok : LcOk L ∧ L.length = n) => qslots_any (.slice (some ⟨g, 0, none⟩) n n) L W (lcs_of_box h hok.1 hok.2 (Nat.le_refl _) (by omega)) (by have := hok.2; omega))
  obtain ⟨La, hLa⟩ := letl (scanL ss 0 n)
  obtain ⟨Lb, hLb⟩ := letl (scanL ss 32 n)
  have HYA := hide (fun (e : Ending) (W W' : World) (h' : ScanA W ss 0 n e W') => (show ∃ g, e = .returned (.tuple #[.slice (some ⟨g, 0, none⟩) n n, .int .i64 0]) ∧ Box W' g (lcsA La) 37 ∧ Below W.heap.size W W' from hLa ▸ HY.out 0 ⟨by omega, by omega⟩ e W W' h'))
  have HYB := hide (fun (e : Ending) (W W' : World) (h' : ScanA W ss 32 n e W') => (show ∃ g, e = .returned (.tuple #[.slice (some ⟨g, 0, none⟩) n n, .int .i64 0]) ∧ Box W' g (lcsA Lb) 37 ∧ Below W.heap.size W W' from hLb ▸ HY.out 32 ⟨by omega, by omega⟩ e W W' h'))
  rw [hLa] at HK2 HSA HLA
  rw [hLb] at HSB HLB
  clear hs hn hr h0 h2 hLa hLb HY
  go_enter Try.func6, Try.ntmps6
  go_upto_region 3 with (go_at_call 8; refine (HAL.out w).mono ?_; rintro e w1 ⟨rfl, hb1⟩; have HB1 := hide hb1; clear hb1)
  go_upto_region 4 with (go_at_call 9; (with_reducible refine (HSC.out _ w1 HB1.out).mono ?_); intro e w2 h2; obtain ⟨ga, rfl, hx2, hb2⟩ := HYA.out _ _ _ h2; have HXA := hide hx2; have HB2 := hide (HB1.out.trans (hb2.mono HB1.out.size)); clear h2 hx2 hb2)
  go_upto_region 5 with (go_at_call 9; (with_reducible refine (HSC.out _ w2 HB2.out).mono ?_); intro e w3 h3; obtain ⟨gb, rfl, hx3, hb3⟩ := HYB.out _ _ _ h3; have HXB := hide hx3; have HXC := hide (HXA.out.below hb3); have HB3 := hide (HB2.out.trans (hb3.mono HB2.out.size)); clear h3 hx3 hb3)
  go_wp2
  go_loopw [7, 8] (fun a z wr => ∃ k : Nat, k ≤ n ∧ z = .int .i64 k ∧ a = .int .i64 (((ss.take k).countP (fun x => x.c) : Nat) : Int) ∧ Below w3.heap.size w3 wr) (fun _ z _ => n - (intOf z).toNat)
  case atStart => exact ⟨0, Nat.zero_le _, rfl, rfl, Below.refl _ _⟩
  case round =>
    obtain ⟨k, hk, rfl, rfl, hb⟩ := hrel
    obtain ⟨wo, rfl⟩ : ∃ wo, wo = wr := ⟨_, rfl⟩
    have HB := hide hb
    clear hb
    have HBW := hide (HB3.out.trans (HB.out.mono HB3.out.size))
    by_cases hlt : k < n
    case neg =>
      have HCT := hide (show (ss.take k).countP (fun x => x.c) = ss.countP (fun x => x.c) by rw [List.take_of_length_le (by have := HN.out; omega)])
      rw [HCT.out]
      have HS1 := hide (HSL.out La ga wo (HXC.out.below HB.out) HLA.out)
      have HS2 := hide (fun (W : World) (hW : Below wo.heap.size wo W) => HSL.out Lb gb W (HXB.out.below (HB.out.trans (hW.mono HB.out.size))) HLB.out)
      obtain ⟨ct, hct⟩ := letl (ss.countP (fun x => x.c))
      rw [hct] at HSB
      have hcl : ct ≤ n := by rw [← hct]; have := List.countP_le_length (p := fun x : SpV => x.c) (l := ss); have := HN.out; omega
      rw [hct]
      obtain ⟨sa, hsa⟩ := letl (slotsN La)
      obtain ⟨sb, hsb⟩ := letl (slotsN Lb)
      rw [hsa] at HS1 HSA
      rw [hsb] at HS2 HSB
      have hsan := HSA.out
      clear hct hsa hsb HCT
      by_cases h32 : 32 < n
      · have h32i : (32 : Int) < (n : Int) := by omega
        go_wp2_with (go_at_call 15; (with_reducible refine HS1.out.mono ?_); rintro e w8 ⟨rfl, hb8⟩; have HB8 := hide (HBW.out.trans (hb8.mono HBW.out.size)); clear hb8)
        go_ret
        exact ⟨by simp, HB8.out⟩
      · have h32i : ¬ (32 : Int) < (n : Int) := by omega
        have hsbn := HSB.out (by omega)
        go_wp2_with (first
          | (go_at_call 15; (with_reducible refine (HS2.out w8 HC8.out).mono ?_); rintro e w9 ⟨rfl, hb9⟩; have HB9 := hide (HB8.out.trans (hb9.mono HB8.out.size)); clear hb9)
          | (go_at_call 15; (with_reducible refine HS1.out.mono ?_); rintro e w8 ⟨rfl, hb8⟩; have HC8 := hide hb8; have HB8 := hide (HBW.out.trans (hb8.mono HBW.out.size)); clear hb8))
        go_ret
        exact ⟨by simp, HB9.out⟩
    obtain ⟨y, hy⟩ : ∃ y, ss[k]? = some y := ⟨_, List.getElem?_eq_getElem (by have := HN.out; omega)⟩
    obtain ⟨bs, os, hA⟩ := HAD.out k y hy
    subst hA
    obtain ⟨s0, s1, s2, s3, s4⟩ := HSP.out wo HBW.out bs os rfl k y hy
    obtain ⟨x, hx⟩ : ∃ x, La[k]? = some x := ⟨_, List.getElem?_eq_getElem (by have := HLA.out.2; omega)⟩
    obtain ⟨⟨c0, -⟩, -⟩ := (HXC.out.below HB.out).lc hx
    have lg := (HXC.out.below HB.out).lt
    have hxk := HK2.out k hlt
    rw [lcAt_of hx] at hxk
    rw [hxk] at c0
    have HTK := hide (show (ss.take (k + 1)).countP (fun x => x.c) = (ss.take k).countP (fun x => x.c) + (if y.c = true then 1 else 0) by rw [List.take_add_one, hy, Option.toList_some, List.countP_append, List.countP_singleton])
    obtain ⟨ct, hct⟩ := letl ((ss.take k).countP (fun x => x.c))
    have hcl : ct ≤ k := by rw [← hct]; have := List.countP_le_length (p := fun x : SpV => x.c) (l := ss.take k); have := List.length_take_le k ss; omega
    rw [hct] at HTK ⊢
    obtain ⟨yv, yf, yt, yc⟩ := y
    have hki : (k : Int) < n := by omega
    clear hy hx hxk hct
    cases yc
    all_goals
      go_wp2
      go_roundw
      case rel => exact ⟨k + 1, by omega, by go_num, by rw [HTK.out]; simp, HB.out⟩
      case measure => simp [intOf]; omega
end Go.Proofs.Ytojobajeffipdaa
