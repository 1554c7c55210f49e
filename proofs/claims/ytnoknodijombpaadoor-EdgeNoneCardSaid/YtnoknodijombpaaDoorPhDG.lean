/- Layer 13, the program: slices.DeleteFunc of edges, the closure of Critical. Condition: the function is one of a program that may be. -/
import Derived.Test.YtnoknodijombpaaDoorPhDF
import Derived.Deep.CutRange
set_option linter.unusedSimpArgs false
set_option linter.unusedVariables false
namespace Go.Proofs.YtnoknodijombpaaDoor
open Go.RowKit

set_option maxHeartbeats 2000000 in
set_option maxRecDepth 100000 in
theorem pl1_any (g1 g2 gn gp n a b : Nat) (F G : Nat → Nat) (w : World) (hx1 : Box w g1 #[.slice (some ⟨gn, 0, none⟩) n n] 31) (hx2 : Box w g2 #[.slice (some ⟨gp, 0, none⟩) n n] 31) (hF : CntM w gn n F) (hG : CntM w gp n G) (ha : a < n) (hb : b < n) :
    Calls Tryd.prog 15 #[.agg #[.int .i64 (a : Int), .int .i64 (b : Int)], .pointer (some ⟨g1, 0, none⟩), .pointer (some ⟨g2, 0, none⟩)] w fun e w' => e = .returned (.bool (decide (F a < 2) || decide (G b < 2))) ∧ Below w.heap.size w w' := by
  have c1 := (hx1.cell 0 (v := .slice (some ⟨gn, 0, none⟩) n n) rfl).1
  have c2 := (hx2.cell 0 (v := .slice (some ⟨gp, 0, none⟩) n n) rfl).1
  have l1 := hx1.lt
  have l2 := hx2.lt
  have d1 := (hF.cell ha).1
  have d2 := (hG.cell hb).1
  have l3 := Box.lt hF
  have l4 := Box.lt hG
  have k1 : (0 : Int) ≤ (a : Int) := by omega
  have k2 : (a : Int) < (n : Int) := by omega
  have k3 : (0 : Int) ≤ (b : Int) := by omega
  have k4 : (b : Int) < (n : Int) := by omega
  obtain ⟨fa, hfa⟩ : ∃ x, F a = x := ⟨_, rfl⟩
  obtain ⟨gb, hgb⟩ : ∃ x, G b = x := ⟨_, rfl⟩
  rw [hfa] at d1
  rw [hgb] at d2
  rw [hfa, hgb]
  clear hx1 hx2 hF hG hfa hgb
  by_cases h : fa < 2
  · have h1 : (fa : Int) < 2 := by omega
    have hd : decide (fa < 2) = true := by simpa using h
    go_enter Tryd.func15, Tryd.ntmps15
    go_wp2
    go_ret
    exact ⟨ret_bool (by first | rfl | (simp [hd]; done)), alloc1 w _⟩
  · have h1 : ¬ (fa : Int) < 2 := by omega
    have hd : decide (fa < 2) = false := by simpa using h
    by_cases h2 : gb < 2
    · have h3 : (gb : Int) < 2 := by omega
      have hd2 : decide (gb < 2) = true := by simpa using h2
      go_enter Tryd.func15, Tryd.ntmps15
      go_wp2
      go_ret
      exact ⟨ret_bool (by first | rfl | (simp [hd, hd2]; done)), alloc1 w _⟩
    · have h3 : ¬ (gb : Int) < 2 := by omega
      have hd2 : decide (gb < 2) = false := by simpa using h2
      go_enter Tryd.func15, Tryd.ntmps15
      go_wp2
      go_ret
      exact ⟨ret_bool (by first | rfl | (simp [hd, hd2]; done)), alloc1 w _⟩
theorem OwE.putE2 {w : World} {base g n c a : Nat} {ys : List (Int × Int)} (h : OwE w base (.slice (some ⟨g, 0, none⟩) n c) ys) (hn : ys.length = n) (ha : a < n) (e : Int × Int) : OwE ((w.setCell ⟨g, a * 2, none⟩ (.int .i64 e.1)).setCell ⟨g, a * 2 + 1, none⟩ (.int .i64 e.2)) base (.slice (some ⟨g, 0, none⟩) n c) (ys.set a e) := by
  obtain ⟨⟨u1, u2⟩, hu⟩ : ∃ u, ys[a]? = some u := ⟨_, List.getElem?_eq_getElem (by omega)⟩
  have h1 := h.c.putE hn (fun _ => rfl) (i := 0) (y' := (e.1, u2)) (u := .int .i64 e.1) hu (by omega) rfl
  have h2 := h1.putE (by rw [List.length_set]; exact hn) (fun _ => rfl) (j := a) (i := 1) (y := (e.1, u2)) (y' := e) (u := .int .i64 e.2) (by rw [List.getElem?_set, if_pos rfl, if_pos (by omega)]) (by omega) rfl
  rw [List.set_set] at h2
  rw [Nat.add_zero] at h2
  exact h2.e
theorem OwE.cells {w : World} {base g n c a : Nat} {ys : List (Int × Int)} {e : Int × Int} (h : OwE w base (.slice (some ⟨g, 0, none⟩) n c) ys) (hn : ys.length = n) (he : ys[a]? = some e) : (w.cell? ⟨g, a * 2, none⟩ = some (.int .i64 e.1) ∧ w.frozen? ⟨g, a * 2, none⟩ = false) ∧ (w.cell? ⟨g, a * 2 + 1, none⟩ = some (.int .i64 e.2) ∧ w.frozen? ⟨g, a * 2 + 1, none⟩ = false) :=
  ⟨h.c.at' hn (fun _ => rfl) (i := 0) he (by omega), h.c.at' hn (fun _ => rfl) (i := 1) he (by omega)⟩
/-- What slices.DeleteFunc leaves. -/
def DelA (q : Int × Int → Bool) (es : List (Int × Int)) (base : Nat) (w : World) (e : Ending) (w' : World) : Prop := ∃ A c, e = .returned (.slice A (es.filter (fun e => !q e)).length c) ∧ EdgS w' w'.heap.size A (es.filter (fun e => !q e)) ∧ (es.filter (fun e => !q e)).length ≤ c ∧ c ≤ maxLen ∧ (∀ b o, A = some ⟨b, o, none⟩ → base ≤ b) ∧ Below base w w'
set_option maxHeartbeats 4000000 in
set_option maxRecDepth 100000 in
theorem edelete_any (g1 g2 base : Nat) (q : Int × Int → Bool) (es : List (Int × Int)) (Ae : Option Addr) (ce : Nat) (w : World) (hn : es.length ≤ 1000) (how : OwE w base (.slice Ae es.length ce) es) (hbase : base ≤ w.heap.size)
    (hq : ∀ (W : World), FrG (Value.slice Ae es.length ce).ownBlock w W → ∀ e ∈ es, Calls Tryd.prog 15 #[.agg #[.int .i64 e.1, .int .i64 e.2], .pointer (some ⟨g1, 0, none⟩), .pointer (some ⟨g2, 0, none⟩)] W fun x w' => x = .returned (.bool (q e)) ∧ Below W.heap.size W w') :
    Calls Tryd.prog 16 #[.slice Ae es.length ce, .func (.func 15) #[] #[.pointer (some ⟨g1, 0, none⟩), .pointer (some ⟨g2, 0, none⟩)]] w (DelA q es base w) := by
  obtain ⟨A', c', hv', hc1, hc2, hsl⟩ := how.sl
  injection hv' with e1 _ e3
  subst e1
  subst e3
  have HIX := hide (eindex_any g1 g2 q es Ae ce w hn hsl (fun W hW e he => hq W (FrG.of_below hW) e he))
  have HQ := hide hq
  have HOW := hide how
  have HSL := hide hsl
  obtain ⟨n, hn'⟩ : ∃ n, es.length = n := ⟨_, rfl⟩
  have HN := hide hn'
  rw [hn'] at hn hc1 HIX HQ HOW ⊢
  clear hq how hsl hn'
  go_enter Tryd.func16, Tryd.ntmps16
  go_upto_region 2 with (go_at_call 28; refine HIX.out.mono ?_; rintro e w1 ⟨z, rfl, hb1, hz⟩; have HB1 := hide hb1; have HZ := hide hz; clear hb1 hz)
  have w1s := HB1.out.size
  rcases HZ.out with ⟨rfl, hno⟩ | ⟨i, rfl, hi, hlo, hyes⟩
  · have HF := hide (show es.filter (fun e => !q e) = es from List.filter_eq_self.2 (fun e he => by rw [hno e he]; rfl))
    clear hno
    go_wp2
    go_ret
    exact ⟨Ae, ce, by rw [HF.out, HN.out]; rfl, by rw [HF.out]; exact (HSL.out.below HB1.out).more w1s, by rw [HF.out, HN.out]; exact hc1, hc2, fun b o hb => (World.ownsRow.lt HOW.out b (by rw [hb]; rfl)).1, HB1.out.mono hbase⟩
  have hin : i < n := by have := HN.out; omega
  obtain ⟨y0, hy0⟩ : ∃ y, es[i]? = some y := ⟨_, List.getElem?_eq_getElem hi⟩
  have HST := hide (DelI.start HN.out hlo hy0 (hyes y0 hy0))
  obtain ⟨g, cap, hv, hg1, hg2, hg3, hg4, hgT⟩ := HOW.out.c.blk (by omega)
  rw [HN.out] at hv
  injection hv with hA _ hcc
  subst hA
  subst hcc
  have HO1 := hide (show OwE w1 base (.slice (some ⟨g, 0, none⟩) n ce) es from HOW.out.below HB1.out)
  have HF1 := hide (show FrG (some g) w w1 from FrG.of_below HB1.out)
  have hi1 : ((i : Int) == -1) = false := by first | (simp; done) | (simp; omega)
  clear hi hlo hyes hy0 HZ hgT hg3
  go_wp2
  go_loopw [5, 6] (fun x y wr => ∃ (a b : Nat) (ys : List (Int × Int)), x = .int .i64 (a : Int) ∧ y = .int .i64 (b : Int) ∧ b ≤ n ∧ Hid (OwE wr base (.slice (some ⟨g, 0, none⟩) n ce) ys) ∧ Hid (DelI q es n a b ys) ∧ FrG (some g) w wr) (fun _ y _ => n - (intOf y).toNat)
  case atStart => exact ⟨i, i + 1, es, rfl, by go_num, by omega, HO1, HST, HF1.out⟩
  case round =>
    obtain ⟨a, b, ys, rfl, rfl, hb, HOY, HDI, hfr⟩ := hrel
    obtain ⟨wo, rfl⟩ : ∃ wo, wo = wr := ⟨_, rfl⟩
    have HFR := hide hfr
    have lwo := hfr.size
    clear hfr
    have hab := HDI.out.lt
    have hgo : g < wo.heap.size := by omega
    by_cases hlt : b < n
    case neg =>
      obtain rfl : n = b := by omega
      have hnl : ¬ ((n : Int) < (n : Int)) := by omega
      obtain ⟨w6, hr6, ho6, hg6⟩ := run_clear_edges wo 35 0 46 Tryd.underlying35 Tryd.zeroValue46 base g a n ce (n - a) (ce - a) (by omega) (by omega) ys HDI.out.len HOY.out
      have HO6 := hide ho6
      have HG6 := hide (show FrG (some g) w w6 from HFR.out.trans ⟨hg6.os, hg6.tape, hg6.output, hg6.size, fun k hk ho => hg6.block k hk (fun e => ho e.symm)⟩)
      have HDN := hide (HDI.out.done (by have := HN.out; omega))
      have k1 : a ≤ n := by omega
      have k2 : a < ce := by omega
      have k3 : a ≤ ce := by omega
      have k4 : (0 : Int) ≤ (a : Int) := by omega
      have k5 : (a : Int) ≤ (n : Int) := by omega
      have k6 : (a : Int) ≤ (ce : Int) := by omega
      clear ho6 hg6
      go_wp2
      go_ret
      have hl : (es.filter (fun e => !q e)).length = a := by rw [← HDN.out, List.length_take, HDI.out.len]; omega
      obtain ⟨A9, c9, hv9, -, -, hs9⟩ := HO6.out.sl
      injection hv9 with f1 f2 f3
      subst f1
      rw [HDN.out] at hs9
      exact ⟨_, ce, by rw [hl]; rfl, hs9, by rw [hl]; exact k3, hc2, fun b o hb => (by injection hb with hb; injection hb with hb; omega), HG6.out.below hbase (fun k hk => by injection hk with hk; omega)⟩
    have HLT := hide hlt
    obtain ⟨y, hy⟩ : ∃ y, es[b]? = some y := ⟨_, List.getElem?_eq_getElem (by have := HN.out; omega)⟩
    have hyb : ys[b]? = some y := by rw [HDI.out.rest b (Nat.le_refl _)]; exact hy
    obtain ⟨⟨d1, z1⟩, ⟨d2, z2⟩⟩ := HOY.out.cells HDI.out.len hyb
    obtain ⟨ua, hua⟩ : ∃ u, ys[a]? = some u := ⟨_, List.getElem?_eq_getElem (by have := HDI.out.len; omega)⟩
    have HUA := hide hua
    have HY := hide hy
    have hym := List.mem_of_getElem? hy
    have hb0 : (0 : Int) ≤ (b : Int) := by omega
    have hb1 : (b : Int) < (n : Int) := by omega
    have ha0 : (0 : Int) ≤ (a : Int) := by omega
    have ha1 : (a : Int) < (n : Int) := by omega
    have HYM := hide hym
    obtain ⟨ya, yb⟩ := y
    simp only at d1 d2
    clear hyb hy hua hym
    go_upto_region 8 with (fail)
    obtain ⟨w4, hw4⟩ : ∃ w4, w4 = wo.alloc (.cells #[.int .i64 ya, .int .i64 yb] 46) := ⟨_, rfl⟩
    obtain ⟨h4, hh4⟩ : ∃ h4, wo.heap.size = h4 := ⟨_, rfl⟩
    have HX4 := hide (show Box w4 h4 #[.int .i64 ya, .int .i64 yb] 46 by rw [hw4, ← hh4]; exact Box.new wo _ _)
    have HB4 := hide (show Below wo.heap.size wo w4 by rw [hw4]; exact alloc1 wo _)
    have HO4 := hide (show OwE w4 base (.slice (some ⟨g, 0, none⟩) n ce) ys from HOY.out.below HB4.out)
    have HF4 := hide (HFR.out.trans (FrG.of_below (own := some g) HB4.out))
    have hg4h : g < h4 := by omega
    rw [← hw4, hh4]
    clear hw4 hh4 d1 d2 z1 z2
    have l4 := HX4.out.lt
    have d1 := (HX4.out.cell 0 (v := .int .i64 ya) rfl).1
    have d2 := (HX4.out.cell 1 (v := .int .i64 yb) rfl).1
    have HQK := hide (HQ.out w4 HF4.out (ya, yb) HYM.out)
    cases hqv : q (ya, yb) with
    | true =>
      have HST2 := hide (HDI.out.skip HY.out hqv)
      rw [hqv] at HQK
      clear hqv
      go_wp2_with (go_at_call 15; refine HQK.out.mono ?_; rintro e w5 ⟨rfl, hb5⟩; have HO5 := hide (HO4.out.below hb5); have HF5 := hide (HF4.out.trans (FrG.of_below (own := some g) hb5)); clear hb5)
      go_roundw
      case rel => exact ⟨a, b + 1, ys, rfl, by go_num, by have := HLT.out; omega, HO5, HST2, HF5.out⟩
      case measure => have := HLT.out; simp [intOf]; omega
    | false =>
      have HST2 := hide (HDI.out.keep HY.out hqv (by have := HLT.out; omega))
      rw [hqv] at HQK
      clear hqv
      go_wp2_with (go_at_call 15; refine HQK.out.mono ?_; rintro e w5 ⟨rfl, hb5⟩; have HO5 := hide (HO4.out.below hb5); have HF5 := hide (HF4.out.trans (FrG.of_below (own := some g) hb5)); have f1 := (hb5.cell (p := ⟨h4, 0, none⟩) l4).trans d1; have f2 := (hb5.cell (p := ⟨h4, 1, none⟩) l4).trans d2; have l5 : h4 < w5.heap.size := (by have := hb5.size; omega); obtain ⟨⟨p1, z1⟩, ⟨p2, z2⟩⟩ := HO5.out.cells HDI.out.len HUA.out; have lg5 : g < w5.heap.size := (by omega); have HP5 := hide (HO5.out.putE2 HDI.out.len (a := a) (by omega) (ya, yb)); clear hb5 d1 d2)
      go_roundw
      case rel => exact ⟨a + 1, b + 1, ys.set a (ya, yb), by go_num, by go_num, by have := HLT.out; omega, HP5, HST2, HF5.out.set.set⟩
      case measure => have := HLT.out; simp [intOf]; omega
end Go.Proofs.YtnoknodijombpaaDoor
