/- The statement KindStates, walked: it answers true. Conditions: the tables of parts and of rows read as listed; no slice of the program is longer than any machine's memory. -/
import Derived.Test.YtajndgoichlnmaaGreatDoorKSw
import Derived.Deep.RegionHeld3
set_option linter.unusedSimpArgs false
set_option linter.unusedVariables false
namespace Go.Proofs.YtajndgoichlnmaaGreatDoor
open Go.RowKit

theorem kat_out {f : FunV} (hok : KOk f) {z : Int} (h : ¬ (0 ≤ z ∧ z < f.blocks.length)) : KAtZ f z ([], []) := by
  by_cases h0 : z < 0
  · exact .inr ⟨h0, rfl⟩
  · refine .inl ⟨z.toNat, by omega, .inr ⟨fun hp => ?_, rfl⟩⟩
    obtain ⟨n, h1, h2⟩ := Pth.nat hok.flow (a := 0) hp hok.one
    omega
/-- What the reference's Set and Fresh answer. -/
def RSt (W : World) (f : FunV) (z : Int) (c : Bool) (e : Ending) (w' : World) : Prop := ∃ (v : Value) (s : KSt), e = .returned v ∧ SetV w' v (if c = true then s.2 else s.1) ∧ KAtZ f z s ∧ Below W.heap.size W w'
theorem SetV.nil0 (w : World) : SetV w (.slice none 0 0) [] := ⟨none, 0, rfl, Nat.le_refl _, by omega, Sl.nil _ _ _ _⟩
theorem rwordsV {w : World} {v u : Value} {s : List Nat} (h : SetV w v s) (h' : SetV w u s) (hl : s.length ≤ 1000) :
    Calls Tryz.prog 17 #[v, u] w fun e w' => e = .returned (.bool true) ∧ w = w' := by
  obtain ⟨A, c, rfl, h2, h3, h4⟩ := h
  obtain ⟨A', c', rfl, h2', h3', h4'⟩ := h'
  exact words_yes A A' s.length c s.length c' s w _ _ h4 h4' rfl rfl (by omega)
set_option maxHeartbeats 2000000 in
set_option maxRecDepth 100000 in
theorem rset_any (vk vb vs : Value) (f : FunV) (z : Int) (w : World) (B : Nat) (hB : B ≤ w.heap.size) (hi : FunI w (· < B) vk vb vs f) (hok : KOk f) (hD : DerB f) :
    Calls Tryz.prog 18 #[.agg #[vk, vb, .int .i64 f.params, .int .i64 f.result, vs], .int .i64 z] w (RSt w f z false) := by
  have HST := hide (fun (W : World) (hW : Below w.heap.size w W) => rstates_any vk vb vs f W B (by have := hW.size; omega) (hi.keep (up hW hB) (fun _ h => h)) hok hD)
  have HOU := hide (fun h => @kat_out f hok z h)
  obtain ⟨Ak, ck, rfl, hck, hmk⟩ := hi.1.open'
  obtain ⟨Ab, cb, rfl, hcb, hmb⟩ := hi.2.1.open'
  obtain ⟨As, cs, rfl, hcs, hms⟩ := hi.2.2.1.open'
  generalize f.kinds.length = lk, f.base.length = lb, f.blocks.length = ls, f.params = fp, f.result = fr at *
  clear hi hok hD
  by_cases hz0 : z < 0
  case pos =>
    have d0 : decide (z < 0) = true := decide_eq_true hz0
    go_enter Tryz.func18, Tryz.ntmps18
    go_upto_region 1 with (fail)
    obtain ⟨w1, hw1⟩ : ∃ w1, w1 = w.alloc (.cells #[.slice Ak lk ck, .slice Ab lb cb, .int .i64 fp, .int .i64 fr, .slice As ls cs] 35) := ⟨_, rfl⟩
    obtain ⟨h5, hh5⟩ : ∃ h5, w.heap.size = h5 := ⟨_, rfl⟩
    have HX1 := hide (show Box w1 h5 #[.slice Ak lk ck, .slice Ab lb cb, .int .i64 fp, .int .i64 fr, .slice As ls cs] 35 by rw [hw1, ← hh5]; exact Box.new w _ _)
    have HB1 := hide (show Below w.heap.size w w1 by rw [hw1]; exact alloc1 w _)
    have HK1 := hide (fun (W : World) (hW : Below w1.heap.size w1 W) => And.intro ((HX1.out.below hW).cell 0 (v := .slice Ak lk ck) rfl).1 (And.intro ((HX1.out.below hW).cell 1 (v := .slice Ab lb cb) rfl).1 (And.intro ((HX1.out.below hW).cell 2 (v := .int .i64 fp) rfl).1 (And.intro ((HX1.out.below hW).cell 3 (v := .int .i64 fr) rfl).1 ((HX1.out.below hW).cell 4 (v := .slice As ls cs) rfl).1))))
    have HUP := hide (fun (W : World) (hW : Below w1.heap.size w1 W) => HB1.out.trans (hW.mono HB1.out.size))
    have l1 := HX1.out.lt
    have hw1s := HB1.out.size
    rw [← hw1, hh5]
    clear hw1 hh5
    obtain ⟨c0, c1, c2, c3, c4⟩ := HK1.out w1 (Below.refl _ _)
    go_wp2
    go_ret
    exact ⟨_, ([], []), rfl, SetV.nil0 _, HOU.out (by omega), HB1.out⟩
  have d0 : decide (z < 0) = false := decide_eq_false hz0
  by_cases hz1 : z ≥ (ls : Int)
  case pos =>
    have d1 : decide (z ≥ (ls : Int)) = true := decide_eq_true hz1
    go_enter Tryz.func18, Tryz.ntmps18
    go_upto_region 1 with (fail)
    obtain ⟨w1, hw1⟩ : ∃ w1, w1 = w.alloc (.cells #[.slice Ak lk ck, .slice Ab lb cb, .int .i64 fp, .int .i64 fr, .slice As ls cs] 35) := ⟨_, rfl⟩
    obtain ⟨h5, hh5⟩ : ∃ h5, w.heap.size = h5 := ⟨_, rfl⟩
    have HX1 := hide (show Box w1 h5 #[.slice Ak lk ck, .slice Ab lb cb, .int .i64 fp, .int .i64 fr, .slice As ls cs] 35 by rw [hw1, ← hh5]; exact Box.new w _ _)
    have HB1 := hide (show Below w.heap.size w w1 by rw [hw1]; exact alloc1 w _)
    have HK1 := hide (fun (W : World) (hW : Below w1.heap.size w1 W) => And.intro ((HX1.out.below hW).cell 0 (v := .slice Ak lk ck) rfl).1 (And.intro ((HX1.out.below hW).cell 1 (v := .slice Ab lb cb) rfl).1 (And.intro ((HX1.out.below hW).cell 2 (v := .int .i64 fp) rfl).1 (And.intro ((HX1.out.below hW).cell 3 (v := .int .i64 fr) rfl).1 ((HX1.out.below hW).cell 4 (v := .slice As ls cs) rfl).1))))
    have HUP := hide (fun (W : World) (hW : Below w1.heap.size w1 W) => HB1.out.trans (hW.mono HB1.out.size))
    have l1 := HX1.out.lt
    have hw1s := HB1.out.size
    rw [← hw1, hh5]
    clear hw1 hh5
    obtain ⟨c0, c1, c2, c3, c4⟩ := HK1.out w1 (Below.refl _ _)
    go_wp2
    go_ret
    exact ⟨_, ([], []), rfl, SetV.nil0 _, HOU.out (by omega), HB1.out⟩
  have d1 : decide (z ≥ (ls : Int)) = false := decide_eq_false hz1
  obtain ⟨b, rfl⟩ : ∃ b : Nat, z = (b : Int) := ⟨z.toNat, by omega⟩
  have hbl : b < ls := by omega
  have rb0 : (0 : Int) ≤ (b : Int) := by omega
  have rb1 : (b : Int) < (ls : Int) := by omega
  go_enter Tryz.func18, Tryz.ntmps18
  go_upto_region 1 with (fail)
  obtain ⟨w1, hw1⟩ : ∃ w1, w1 = w.alloc (.cells #[.slice Ak lk ck, .slice Ab lb cb, .int .i64 fp, .int .i64 fr, .slice As ls cs] 35) := ⟨_, rfl⟩
  obtain ⟨h5, hh5⟩ : ∃ h5, w.heap.size = h5 := ⟨_, rfl⟩
  have HX1 := hide (show Box w1 h5 #[.slice Ak lk ck, .slice Ab lb cb, .int .i64 fp, .int .i64 fr, .slice As ls cs] 35 by rw [hw1, ← hh5]; exact Box.new w _ _)
  have HB1 := hide (show Below w.heap.size w w1 by rw [hw1]; exact alloc1 w _)
  have HK1 := hide (fun (W : World) (hW : Below w1.heap.size w1 W) => And.intro ((HX1.out.below hW).cell 0 (v := .slice Ak lk ck) rfl).1 (And.intro ((HX1.out.below hW).cell 1 (v := .slice Ab lb cb) rfl).1 (And.intro ((HX1.out.below hW).cell 2 (v := .int .i64 fp) rfl).1 (And.intro ((HX1.out.below hW).cell 3 (v := .int .i64 fr) rfl).1 ((HX1.out.below hW).cell 4 (v := .slice As ls cs) rfl).1))))
  have HUP := hide (fun (W : World) (hW : Below w1.heap.size w1 W) => HB1.out.trans (hW.mono HB1.out.size))
  have l1 := HX1.out.lt
  have hw1s := HB1.out.size
  rw [← hw1, hh5]
  clear hw1 hh5
  obtain ⟨c0, c1, c2, c3, c4⟩ := HK1.out w1 (Below.refl _ _)
  go_upto_region 4 with (go_at_call 34; (with_reducible refine (HST.out w1 HB1.out).mono ?_); rintro e w2 ⟨g1, g2, σ, rfl, ha1, ha2, hat, hb2⟩; have HA1 := hide ha1; have HA2 := hide ha2; have HAT := hide hat; have HB2 := hide (HB1.out.trans (hb2.mono HB1.out.size)); clear ha1 ha2 hat hb2)
  obtain ⟨A, m, c, z1, -, hs⟩ := HA1.out.cell hbl
  have lg := HA1.out.lt
  have HS := hide hs
  clear hs
  go_wp2
  go_ret
  exact ⟨_, σ b, rfl, HS.out, .inl ⟨b, rfl, HAT.out b⟩, HB2.out⟩
set_option maxHeartbeats 2000000 in
set_option maxRecDepth 100000 in
theorem rfresh_any (vk vb vs : Value) (f : FunV) (z : Int) (w : World) (B : Nat) (hB : B ≤ w.heap.size) (hi : FunI w (· < B) vk vb vs f) (hok : KOk f) (hD : DerB f) :
    Calls Tryz.prog 19 #[.agg #[vk, vb, .int .i64 f.params, .int .i64 f.result, vs], .int .i64 z] w (RSt w f z true) := by
  have HST := hide (fun (W : World) (hW : Below w.heap.size w W) => rstates_any vk vb vs f W B (by have := hW.size; omega) (hi.keep (up hW hB) (fun _ h => h)) hok hD)
  have HOU := hide (fun h => @kat_out f hok z h)
  obtain ⟨Ak, ck, rfl, hck, hmk⟩ := hi.1.open'
  obtain ⟨Ab, cb, rfl, hcb, hmb⟩ := hi.2.1.open'
  obtain ⟨As, cs, rfl, hcs, hms⟩ := hi.2.2.1.open'
  generalize f.kinds.length = lk, f.base.length = lb, f.blocks.length = ls, f.params = fp, f.result = fr at *
  clear hi hok hD
  by_cases hz0 : z < 0
  case pos =>
    have d0 : decide (z < 0) = true := decide_eq_true hz0
    go_enter Tryz.func19, Tryz.ntmps19
    go_upto_region 1 with (fail)
    obtain ⟨w1, hw1⟩ : ∃ w1, w1 = w.alloc (.cells #[.slice Ak lk ck, .slice Ab lb cb, .int .i64 fp, .int .i64 fr, .slice As ls cs] 35) := ⟨_, rfl⟩
    obtain ⟨h5, hh5⟩ : ∃ h5, w.heap.size = h5 := ⟨_, rfl⟩
    have HX1 := hide (show Box w1 h5 #[.slice Ak lk ck, .slice Ab lb cb, .int .i64 fp, .int .i64 fr, .slice As ls cs] 35 by rw [hw1, ← hh5]; exact Box.new w _ _)
    have HB1 := hide (show Below w.heap.size w w1 by rw [hw1]; exact alloc1 w _)
    have HK1 := hide (fun (W : World) (hW : Below w1.heap.size w1 W) => And.intro ((HX1.out.below hW).cell 0 (v := .slice Ak lk ck) rfl).1 (And.intro ((HX1.out.below hW).cell 1 (v := .slice Ab lb cb) rfl).1 (And.intro ((HX1.out.below hW).cell 2 (v := .int .i64 fp) rfl).1 (And.intro ((HX1.out.below hW).cell 3 (v := .int .i64 fr) rfl).1 ((HX1.out.below hW).cell 4 (v := .slice As ls cs) rfl).1))))
    have HUP := hide (fun (W : World) (hW : Below w1.heap.size w1 W) => HB1.out.trans (hW.mono HB1.out.size))
    have l1 := HX1.out.lt
    have hw1s := HB1.out.size
    rw [← hw1, hh5]
    clear hw1 hh5
    obtain ⟨c0, c1, c2, c3, c4⟩ := HK1.out w1 (Below.refl _ _)
    go_wp2
    go_ret
    exact ⟨_, ([], []), rfl, SetV.nil0 _, HOU.out (by omega), HB1.out⟩
  have d0 : decide (z < 0) = false := decide_eq_false hz0
  by_cases hz1 : z ≥ (ls : Int)
  case pos =>
    have d1 : decide (z ≥ (ls : Int)) = true := decide_eq_true hz1
    go_enter Tryz.func19, Tryz.ntmps19
    go_upto_region 1 with (fail)
    obtain ⟨w1, hw1⟩ : ∃ w1, w1 = w.alloc (.cells #[.slice Ak lk ck, .slice Ab lb cb, .int .i64 fp, .int .i64 fr, .slice As ls cs] 35) := ⟨_, rfl⟩
    obtain ⟨h5, hh5⟩ : ∃ h5, w.heap.size = h5 := ⟨_, rfl⟩
    have HX1 := hide (show Box w1 h5 #[.slice Ak lk ck, .slice Ab lb cb, .int .i64 fp, .int .i64 fr, .slice As ls cs] 35 by rw [hw1, ← hh5]; exact Box.new w _ _)
    have HB1 := hide (show Below w.heap.size w w1 by rw [hw1]; exact alloc1 w _)
    have HK1 := hide (fun (W : World) (hW : Below w1.heap.size w1 W) => And.intro ((HX1.out.below hW).cell 0 (v := .slice Ak lk ck) rfl).1 (And.intro ((HX1.out.below hW).cell 1 (v := .slice Ab lb cb) rfl).1 (And.intro ((HX1.out.below hW).cell 2 (v := .int .i64 fp) rfl).1 (And.intro ((HX1.out.below hW).cell 3 (v := .int .i64 fr) rfl).1 ((HX1.out.below hW).cell 4 (v := .slice As ls cs) rfl).1))))
    have HUP := hide (fun (W : World) (hW : Below w1.heap.size w1 W) => HB1.out.trans (hW.mono HB1.out.size))
    have l1 := HX1.out.lt
    have hw1s := HB1.out.size
    rw [← hw1, hh5]
    clear hw1 hh5
    obtain ⟨c0, c1, c2, c3, c4⟩ := HK1.out w1 (Below.refl _ _)
    go_wp2
    go_ret
    exact ⟨_, ([], []), rfl, SetV.nil0 _, HOU.out (by omega), HB1.out⟩
  have d1 : decide (z ≥ (ls : Int)) = false := decide_eq_false hz1
  obtain ⟨b, rfl⟩ : ∃ b : Nat, z = (b : Int) := ⟨z.toNat, by omega⟩
  have hbl : b < ls := by omega
  have rb0 : (0 : Int) ≤ (b : Int) := by omega
  have rb1 : (b : Int) < (ls : Int) := by omega
  go_enter Tryz.func19, Tryz.ntmps19
  go_upto_region 1 with (fail)
  obtain ⟨w1, hw1⟩ : ∃ w1, w1 = w.alloc (.cells #[.slice Ak lk ck, .slice Ab lb cb, .int .i64 fp, .int .i64 fr, .slice As ls cs] 35) := ⟨_, rfl⟩
  obtain ⟨h5, hh5⟩ : ∃ h5, w.heap.size = h5 := ⟨_, rfl⟩
  have HX1 := hide (show Box w1 h5 #[.slice Ak lk ck, .slice Ab lb cb, .int .i64 fp, .int .i64 fr, .slice As ls cs] 35 by rw [hw1, ← hh5]; exact Box.new w _ _)
  have HB1 := hide (show Below w.heap.size w w1 by rw [hw1]; exact alloc1 w _)
  have HK1 := hide (fun (W : World) (hW : Below w1.heap.size w1 W) => And.intro ((HX1.out.below hW).cell 0 (v := .slice Ak lk ck) rfl).1 (And.intro ((HX1.out.below hW).cell 1 (v := .slice Ab lb cb) rfl).1 (And.intro ((HX1.out.below hW).cell 2 (v := .int .i64 fp) rfl).1 (And.intro ((HX1.out.below hW).cell 3 (v := .int .i64 fr) rfl).1 ((HX1.out.below hW).cell 4 (v := .slice As ls cs) rfl).1))))
  have HUP := hide (fun (W : World) (hW : Below w1.heap.size w1 W) => HB1.out.trans (hW.mono HB1.out.size))
  have l1 := HX1.out.lt
  have hw1s := HB1.out.size
  rw [← hw1, hh5]
  clear hw1 hh5
  obtain ⟨c0, c1, c2, c3, c4⟩ := HK1.out w1 (Below.refl _ _)
  go_upto_region 4 with (go_at_call 34; (with_reducible refine (HST.out w1 HB1.out).mono ?_); rintro e w2 ⟨g1, g2, σ, rfl, ha1, ha2, hat, hb2⟩; have HA1 := hide ha1; have HA2 := hide ha2; have HAT := hide hat; have HB2 := hide (HB1.out.trans (hb2.mono HB1.out.size)); clear ha1 ha2 hat hb2)
  obtain ⟨A, m, c, z1, -, hs⟩ := HA2.out.cell hbl
  have lg := HA2.out.lt
  have HS := hide hs
  clear hs
  go_wp2
  go_ret
  exact ⟨_, σ b, rfl, HS.out, .inl ⟨b, rfl, HAT.out b⟩, HB2.out⟩
set_option maxHeartbeats 8000000 in
set_option maxRecDepth 100000 in
theorem kindstates_law (vp : Value) (p : List FunV) (z : Int) (hz : i64R z) (w : World) (hT : TabP w) (hR : RowP w) (hp : FunsV w (· < w.heap.size) vp p) (hsz : progSize p) :
    Calls Tryz.prog 5 #[.agg #[vp], .int .i64 z] w fun e w' => e = .returned (.bool true) ∧ Below w.heap.size w w' := by
  have HZR := hide hz
  clear hz
  have HAL := hide (fun (W : World) (hW : Below w.heap.size w W) => alive8_any W (hT.below hW hT.1) (hR.below hW hR.1))
  have HGR := hide (fun (W : World) (hW : Below w.heap.size w W) => great8_any vp p W w.heap.size hW.size (hp.keep (up hW (Nat.le_refl _)) (fun _ h => h)) hsz)
  have HC4 := hide (fun (W : World) (hW : Below w.heap.size w W) (hf : progFew p) => check4_any vp p W w.heap.size hW.size (hp.keep (up hW (Nat.le_refl _)) (fun _ h => h)) hf)
  have HFEW := hide (fun h : ∀ f ∈ p, smallF f => smallF.few h)
  have HPK := hide (fun (W : World) (hW : Below w.heap.size w W) => hp.keep (up hW (Nat.le_refl _)) (fun _ h => h))
  have HTT := hide (fun (W : World) (hW : Below w.heap.size w W) => hT.below hW hT.1)
  have HRR := hide (fun (W : World) (hW : Below w.heap.size w W) => hR.below hW hR.1)
  obtain ⟨Ap, cp, rfl, hcp, hmp⟩ := hp.open'
  obtain ⟨lp, hlp⟩ : ∃ lp, p.length = lp := ⟨_, rfl⟩
  have HLP := hide hlp
  rw [hlp] at HPK HGR HC4 hcp
  rw [hlp]
  clear hp hT hR hsz hlp
  go_enter Tryz.func5, Tryz.ntmps5
  go_upto_region 1 with (fail)
  obtain ⟨w1, hw1⟩ : ∃ w1, w1 = w.alloc (.cells #[.slice Ap lp cp] 24) := ⟨_, rfl⟩
  obtain ⟨h5, hh5⟩ : ∃ h5, w.heap.size = h5 := ⟨_, rfl⟩
  have HX0 := hide (show Box w1 (h5) #[.slice Ap lp cp] 24 by rw [hw1, ← hh5]; have t := Box.new w #[.slice Ap lp cp] 24; (try simp only [World.size_alloc] at t); exact t)
  have HB1 := hide (show Below w.heap.size w w1 by rw [hw1]; exact ((Below.refl _ _).alloc (Nat.le_refl _) _))
  have w1s := HB1.out.size
  have w1z := hide (show w1.heap.size = h5 + 1 by rw [hw1, ← hh5]; simp only [World.size_alloc])
  have HK0 := hide (fun (W : World) (hW : Below w1.heap.size w1 W) => ((HX0.out.below hW).cell 0 (v := .slice Ap lp cp) rfl).1)
  have lHX0 := HX0.out.lt
  have h5g : w.heap.size ≤ h5 := by omega
  rw [← hw1, hh5]
  clear hw1 hh5
  have p0 := HK0.out w1 (Below.refl _ _)
  go_upto_region 3 with (go_at_call 7; (with_reducible refine (HAL.out w1 HB1.out).mono ?_); rintro e w2 ⟨rfl, hb2⟩; have HQ2 := hide hb2; have HB2 := hide (HB1.out.trans (hb2.mono HB1.out.size)); have p2 := HK0.out w2 hb2; clear hb2)
  obtain ⟨b4, hb4⟩ : ∃ b4, progB4 p = b4 := ⟨_, rfl⟩
  have HP4 := hide hb4
  cases b4
  · have hc : chkN4 p = 5 := by unfold chkN4; rw [hb4]; rfl
    rw [hc] at HC4
    clear hb4 hc
    go_wp2_with (first
      | (go_at_call 11; (with_reducible refine (HC4.out w3 HB3.out (HFEW.out (HS3.out (by simp)))).mono ?_); rintro e w4 ⟨rfl, hb4⟩; have HB4 := hide (HB3.out.trans (hb4.mono HB3.out.size)); clear hb4)
      | (go_at_call 8; (with_reducible refine (HGR.out w2 HB2.out).mono ?_); rintro e w3 ⟨bG, rfl, hs3, hb3⟩; have HS3 := hide hs3; have HQ3 := hide (HQ2.out.trans (hb3.mono HQ2.out.size)); have HB3 := hide (HB2.out.trans (hb3.mono HB2.out.size)); have p3 := HK0.out w3 HQ3.out; clear hb3 hs3; cases bG))
    all_goals
      go_ret
      first
        | exact ⟨rfl, HB4.out⟩
        | exact ⟨rfl, HB3.out⟩
  have hc : chkN4 p = 0 := by unfold chkN4; rw [hb4]; rfl
  rw [hc] at HC4
  have HKO := hide (kOk_of hb4)
  have HDB := hide (derB_of hb4)
  clear hb4 hc
  go_upto_region 5 with (first
      | (go_at_call 11; (with_reducible refine (HC4.out w3 HB3.out (HFEW.out (HS3.out (by simp)))).mono ?_); rintro e w4 ⟨rfl, hb4⟩; have HQ4 := hide (HQ3.out.trans (hb4.mono HQ3.out.size)); have HB4 := hide (HB3.out.trans (hb4.mono HB3.out.size)); clear hb4)
      | (go_at_call 8; (with_reducible refine (HGR.out w2 HB2.out).mono ?_); rintro e w3 ⟨bG, rfl, hs3, hb3⟩; have HS3 := hide hs3; have HQ3 := hide (HQ2.out.trans (hb3.mono HQ2.out.size)); have HB3 := hide (HB2.out.trans (hb3.mono HB2.out.size)); have p3 := HK0.out w3 HQ3.out; clear hb3 hs3; cases bG))
  all_goals try (go_ret; exact ⟨rfl, HB3.out⟩)
  have hbw4 := HB4.out.size
  go_wp2
  go_loopw [5] (fun i wr => ∃ k : Nat, k ≤ lp ∧ i = .int .i64 k ∧ Below w4.heap.size w4 wr) (fun i _ => lp - (intOf i).toNat)
  case atStart => exact ⟨0, Nat.zero_le _, rfl, Below.refl _ _⟩
  case round =>
    obtain ⟨k, hk, rfl, hb⟩ := hrel
    obtain ⟨wo, rfl⟩ : ∃ wo, wo = wr := ⟨_, rfl⟩
    have hszo := hb.size
    have HBEL := hide (HB4.out.trans (hb.mono HB4.out.size))
    have HBW := hide hb
    have HXO := hide (HX0.out.below (HQ4.out.trans (hb.mono HQ4.out.size)))
    have xp := (HXO.out.cell 0 (v := .slice Ap lp cp) rfl).1
    have lxp := HXO.out.lt
    clear hb p0 p2 p3
    by_cases hlt : k < lp
    case neg =>
      go_wp2
      go_ret
      exact ⟨rfl, HBEL.out⟩
    obtain ⟨f, hf⟩ : ∃ f, p[k]? = some f := ⟨_, List.getElem?_eq_getElem (by have := HLP.out; omega)⟩
    obtain ⟨bg, og, Ak, ck, Ab, cb, As, cs, hAp, hbgb, ⟨e0, e1, e2, e3, e4⟩, hi⟩ := (HPK.out wo HBEL.out).get hf
    subst hAp
    have HKF := hide (HKO.out f (List.mem_of_getElem? hf))
    have HDF := hide (HDB.out f (List.mem_of_getElem? hf))
    have hBo : w.heap.size ≤ wo.heap.size := by have := HBEL.out.size; omega
    have HIK := hide (fun (W : World) (hW : Below wo.heap.size wo W) => hi.keep (w := wo) (S := (· < w.heap.size)) (up hW hBo) (fun _ h => h))
    have HTO := hide (fun (W : World) (hW : Below wo.heap.size wo W) => HTT.out W (HBEL.out.trans (hW.mono HBEL.out.size)))
    have HBO := hide (fun (W : World) (hW : Below wo.heap.size wo W) => (show w.heap.size ≤ W.heap.size by have := hW.size; omega))
    have HSE := hide (fun (W : World) (hW : Below wo.heap.size wo W) => kset_any (.slice Ak f.kinds.length ck) (.slice Ab f.base.length cb) (.slice As f.blocks.length cs) f HKF.out z HZR.out W w.heap.size (HBO.out W hW) (HIK.out W hW) (HTO.out W hW))
    have HFR := hide (fun (W : World) (hW : Below wo.heap.size wo W) => kfresh_any (.slice Ak f.kinds.length ck) (.slice Ab f.base.length cb) (.slice As f.blocks.length cs) f HKF.out z HZR.out W w.heap.size (HBO.out W hW) (HIK.out W hW) (HTO.out W hW))
    have HRS := hide (fun (W : World) (hW : Below wo.heap.size wo W) => rset_any (.slice Ak f.kinds.length ck) (.slice Ab f.base.length cb) (.slice As f.blocks.length cs) f z W w.heap.size (HBO.out W hW) (HIK.out W hW) HKF.out HDF.out)
    have HRF := hide (fun (W : World) (hW : Below wo.heap.size wo W) => rfresh_any (.slice Ak f.kinds.length ck) (.slice Ab f.base.length cb) (.slice As f.blocks.length cs) f z W w.heap.size (HBO.out W hW) (HIK.out W hW) HKF.out HDF.out)
    have HST := hide (fun (l : List InsV) (hl : l ∈ f.blocks) (x : InsV) (hx : x ∈ l) (va : Value) (W : World) (hW : Below wo.heap.size wo W) (hxi : InsI W (· < w.heap.size) va x) (v1 v2 : Value) (s : KSt) (hs : GoodK f s) (g1 : SetV W v1 s.1) (g2 : SetV W v2 s.2) => kstep_any (.slice Ak f.kinds.length ck) (.slice Ab f.base.length cb) (.slice As f.blocks.length cs) f x va W w.heap.size (HBO.out W hW) (HIK.out W hW) hxi (HTO.out W hW) v1 v2 s hs g1 g2 HKF.out.kinds HKF.out.bl (HKF.out.sets l hl x hx))
    have HRT := hide (fun (l : List InsV) (hl : l ∈ f.blocks) (x : InsV) (hx : x ∈ l) (va : Value) (W : World) (hW : Below wo.heap.size wo W) (hxi : InsI W (· < w.heap.size) va x) (v1 v2 : Value) (s : KSt) (hs : GoodK f s) (g1 : SetV W v1 s.1) (g2 : SetV W v2 s.2) => rstep_any (.slice Ak f.kinds.length ck) (.slice Ab f.base.length cb) (.slice As f.blocks.length cs) f x va W w.heap.size (HBO.out W hW) (HIK.out W hW) hxi v1 v2 s hs g1 g2 HKF.out.kinds HKF.out.bl HDF.out (HKF.out.sets l hl x hx))
    have HSR := hide (fun (l : List InsV) (hl : l ∈ f.blocks) (x : InsV) (hx : x ∈ l) (s : KSt) (hs : GoodK f s) => stepW_good hs HKF.out.kinds (HKF.out.sets l hl x hx))
    have HBL := hide (fun (W : World) (hW : Below wo.heap.size wo W) => (HIK.out W hW).2.2.1)
    have hls40 := HKF.out.flow.1
    have hbs : bg < wo.heap.size := by omega
    obtain ⟨ls, hls⟩ : ∃ ls, f.blocks.length = ls := ⟨_, rfl⟩
    have HLS := hide hls
    rw [hls] at HSE HFR HRS HRF HST HRT HBL e4 hls40
    clear hi hls hf HIK
    generalize f.kinds.length = lk, f.base.length = lb, f.params = fp, f.result = fr at *
    have hki : (0 : Int) ≤ (k : Int) := by omega
    have hkl : (k : Int) < (lp : Int) := by omega
    go_upto_region 9 with (fail)
    obtain ⟨w5, hw5⟩ : ∃ w5, w5 = wo.alloc (.cells #[.slice Ak lk ck, .slice Ab lb cb, .int .i64 fp, .int .i64 fr, .slice As ls cs] 35) := ⟨_, rfl⟩
    obtain ⟨h6, hh6⟩ : ∃ h6, wo.heap.size = h6 := ⟨_, rfl⟩
    have HFX0 := hide (show Box w5 (h6) #[.slice Ak lk ck, .slice Ab lb cb, .int .i64 fp, .int .i64 fr, .slice As ls cs] 35 by rw [hw5, ← hh6]; have t := Box.new wo #[.slice Ak lk ck, .slice Ab lb cb, .int .i64 fp, .int .i64 fr, .slice As ls cs] 35; (try simp only [World.size_alloc] at t); exact t)
    have HB5 := hide (show Below wo.heap.size wo w5 by rw [hw5]; exact ((Below.refl _ _).alloc (Nat.le_refl _) _))
    have w5s := HB5.out.size
    have w5z := hide (show w5.heap.size = h6 + 1 by rw [hw5, ← hh6]; simp only [World.size_alloc])
    have HFK0 := hide (fun (W : World) (hW : Below w5.heap.size w5 W) => (And.intro ((HFX0.out.below hW).cell 0 (v := .slice Ak lk ck) rfl).1 (And.intro ((HFX0.out.below hW).cell 1 (v := .slice Ab lb cb) rfl).1 (And.intro ((HFX0.out.below hW).cell 2 (v := .int .i64 fp) rfl).1 (And.intro ((HFX0.out.below hW).cell 3 (v := .int .i64 fr) rfl).1 ((HFX0.out.below hW).cell 4 (v := .slice As ls cs) rfl).1)))))
    have lHFX0 := HFX0.out.lt
    have h6g : wo.heap.size ≤ h6 := by omega
    rw [← hw5, hh6]
    clear hw5 hh6
    obtain ⟨c0, c1, c2, c3, c4⟩ := HFK0.out w5 (Below.refl _ _)
    clear e0 e1 e2 e3 e4 xp lxp
    have HUP := hide (fun (W : World) (hW : Below w5.heap.size w5 W) => HB5.out.trans (hW.mono HB5.out.size))
    go_region_held3 (fun w' => w'.cell? ⟨h6, 0, none⟩ = some (.slice Ak lk ck) ∧ w'.cell? ⟨h6, 1, none⟩ = some (.slice Ab lb cb) ∧ w'.cell? ⟨h6, 2, none⟩ = some (.int .i64 fp) ∧ w'.cell? ⟨h6, 3, none⟩ = some (.int .i64 fr) ∧ w'.cell? ⟨h6, 4, none⟩ = some (.slice As ls cs)) (first | go_keep | (exact q7) | (exact q6))
      (first
        | (go_at_call 16; refine (HFR.out w6 (HUP.out w6 HC6.out)).mono ?_; rintro e w7 ⟨v7, s7, rfl, hv7, ha7, hb⟩; have hc := HC6.out.trans (hb.mono HC6.out.size); have q7 := HFK0.out w7 hc; have HC7 := hide hc; have HV7 := hide hv7; have HV6b := hide (HV6.out.below hb); have HA7 := hide ha7; clear hb hc hv7 ha7)
        | (go_at_call 15; refine (HSE.out _ (HUP.out _ (below_drewN (Below.refl _ _) 1))).mono ?_; rintro e w6 ⟨v6, s6, rfl, hv6, ha6, hb⟩; have hc : Below w5.heap.size w5 w6 := ⟨hb.os, hb.tape, hb.output, hb.size, hb.block⟩; have q6 := HFK0.out w6 hc; have HC6 := hide hc; have HV6 := hide hv6; have HA6 := hide ha6; clear hb hc hv6 ha6))
    obtain rfl : s6 = s7 := HA6.out.one HA7.out
    have HG0 := hide HA6.out.good
    have HV6 := hide (show SetV w7 v6 s6.1 from HV6b.out)
    have HV7 := hide (show SetV w7 v7 s6.2 from HV7.out)
    clear HV6b q6 q7 c0 c1 c2 c3 c4
    obtain ⟨c0, c1, c2, c3, c4⟩ := HFK0.out w7 HC7.out
    have hz7 := HC7.out.size
    have l67 : h6 < w7.heap.size := by omega
    go_upto_region 12 with (first
      | (go_at_call_of 17 v7; (with_reducible refine (rwordsV HV7b.out HW9.out (by have := HG0.out.l2; omega)).mono ?_); rintro e w' ⟨rfl, rfl⟩)
      | (go_at_call 19; (with_reducible refine (HRF.out w8 (HUP.out w8 HC8.out)).mono ?_); rintro e w9 ⟨v9, s9, rfl, hv9, ha9, hb⟩; obtain rfl : s6 = s9 := HA6.out.one ha9; have hc := HC8.out.trans (hb.mono HC8.out.size); have HC9 := hide hc; have HW9 := hide (show SetV w9 v9 s6.2 from hv9); have HV7b := hide (HV7a.out.below hb); have HV6c := hide (HV6a.out.below hb); obtain ⟨t0, t1, t2, t3, t4⟩ := HFK0.out w9 hc; have l69 : h6 < w9.heap.size := (by have := hc.size; omega); clear hb hc hv9 ha9)
      | (go_at_call_of 17 v6; (with_reducible refine (rwordsV HV6a.out HW8.out (by have := HG0.out.l1; omega)).mono ?_); rintro e w' ⟨rfl, rfl⟩)
      | (go_at_call 18; (with_reducible refine (HRS.out w7 (HUP.out w7 HC7.out)).mono ?_); rintro e w8 ⟨v8, s8, rfl, hv8, ha8, hb⟩; obtain rfl : s6 = s8 := HA6.out.one ha8; have hc := HC7.out.trans (hb.mono HC7.out.size); have HC8 := hide hc; have HW8 := hide (show SetV w8 v8 s6.1 from hv8); have HV6a := hide (HV6.out.below hb); have HV7a := hide (HV7.out.below hb); obtain ⟨u0, u1, u2, u3, u4⟩ := HFK0.out w8 hc; have l68 : h6 < w8.heap.size := (by have := hc.size; omega); clear hb hc hv8 ha8))
    clear c0 c1 c2 c3 c4 u0 u1 u2 u3 u4 t0 t1 t2 t3 t4 l67 l68
    obtain ⟨c0, c1, c2, c3, c4⟩ := HFK0.out w9 HC9.out
    have lw9 := HC9.out.size
    have HEND := hide (HBW.out.trans ((HUP.out w9 HC9.out).mono hszo))
    by_cases hz0 : z < 0
    case pos =>
      have d0 : decide (z < 0) = true := decide_eq_true hz0
      go_wp2
      go_roundw
      case rel => exact ⟨k + 1, by omega, by go_num, HEND.out⟩
      case measure => simp [intOf]; omega
    have d0 : decide (z < 0) = false := decide_eq_false hz0
    by_cases hz1 : z ≥ (ls : Int)
    case pos =>
      have d1 : decide (z ≥ (ls : Int)) = true := decide_eq_true hz1
      go_wp2
      go_roundw
      case rel => exact ⟨k + 1, by omega, by go_num, HEND.out⟩
      case measure => simp [intOf]; omega
    have d1 : decide (z ≥ (ls : Int)) = false := decide_eq_false hz1
    obtain ⟨b, rfl⟩ : ∃ b : Nat, z = (b : Int) := ⟨z.toNat, by omega⟩
    have rb0 : (0 : Int) ≤ (b : Int) := by omega
    have rb1 : (b : Int) < (ls : Int) := by omega
    obtain ⟨l, hl⟩ : ∃ l, f.blocks[b]? = some l := ⟨_, List.getElem?_eq_getElem (by have := HLS.out; omega)⟩
    have HLM := hide (List.mem_of_getElem? hl)
    have HST1 := hide (HST.out l HLM.out)
    have HRT1 := hide (HRT.out l HLM.out)
    have HSR1 := hide (HSR.out l HLM.out)
    obtain ⟨bb, ob, Al, cl, hAs, hbb, q0, hli⟩ := (HBL.out w9 (HUP.out w9 HC9.out)).get hl
    subst hAs
    have hwo9 : w.heap.size ≤ w9.heap.size := by have := HBO.out wo (Below.refl _ _); have := HB5.out.size; omega
    have hbs9 : bb < w9.heap.size := by omega
    have HD0 := hide (fun (W : World) (hW : Below w9.heap.size w9 W) => (hW.cell (p := ⟨bb, ob + b, none⟩) hbs9).trans q0)
    have HLI := hide (fun (W : World) (hW : Below w9.heap.size w9 W) => hli.keep (S := (· < w.heap.size)) (up hW hwo9) (fun _ h => h))
    have hm4 : l.length ≤ 9223372036854775807 := by obtain ⟨A, c, -, h1, h2⟩ := hli.open'; omega
    obtain ⟨ll, hll⟩ : ∃ ll, l.length = ll := ⟨_, rfl⟩
    have HLL := hide hll
    rw [hll] at HLI hm4 HD0 q0
    clear hli hll hl HST HRT HSR HSE HFR HRS HRF q0
    have HU1 := hide (show SetV w9 v6 s6.1 from HV6c.out)
    have HU2 := hide (show SetV w9 v7 s6.2 from HV7b.out)
    have HGG := hide HG0.out
    clear HA6 HA7 HV6 HV7 HV6a HV7a HV6c HV7b HW8 HW9 HG0 hz7 l69
    have lh69 : h6 < w9.heap.size := by omega
    go_wp2
    clear c0 c1 c2 c3 c4 lh69
    go_loopw [7, 8, 9] (fun a1 a2 i wr => ∃ (k3 : Nat) (s : KSt) (u1 u2 : Value), u1 = a1 ∧ u2 = a2 ∧ k3 ≤ ll ∧ i = .int .i64 k3 ∧ Hid (SetV wr u1 s.1) ∧ Hid (SetV wr u2 s.2) ∧ Hid (GoodK f s) ∧ Below w9.heap.size w9 wr) (fun _ _ i _ => ll - (intOf i).toNat)
    case atStart => exact ⟨0, s6, _, _, rfl, rfl, Nat.zero_le _, rfl, HU1, HU2, HGG, Below.refl _ _⟩
    case round =>
      obtain ⟨k3, s, u1, u2, rfl, rfl, hk3, rfl, HU1', HU2', HGS, hb⟩ := hrel
      obtain ⟨wo3, rfl⟩ : ∃ wo3, wo3 = wr := ⟨_, rfl⟩
      have hszo3 := hb.size
      have HBW3 := hide hb
      have HC3 := hide (HC9.out.trans (hb.mono HC9.out.size))
      obtain ⟨c0, c1, c2, c3, c4⟩ := HFK0.out wo3 HC3.out
      have d03 := HD0.out wo3 hb
      have lfx : h6 < wo3.heap.size := by omega
      have lbb : bb < wo3.heap.size := by omega
      clear hb HU1 HU2 HGG
      by_cases hlt3 : k3 < ll
      case neg =>
        obtain rfl : ll = k3 := by omega
        have hnl : ¬ ((ll : Int) < (ll : Int)) := by omega
        go_wp2
        go_roundw
        case rel => exact ⟨k + 1, by omega, by go_num, HBW.out.trans ((HUP.out wo3 HC3.out).mono hszo)⟩
        case measure => simp [intOf]; omega
      obtain ⟨x, hx⟩ : ∃ x, l[k3]? = some x := ⟨_, List.getElem?_eq_getElem (by have := HLL.out; omega)⟩
      obtain ⟨bx, ox, Ay, cy, hAl, hbx, ⟨z0, z1, z2, z3, z4, z5, z6⟩, hxi⟩ := (HLI.out wo3 HBW3.out).get hx
      subst hAl
      have hxm := List.mem_of_getElem? hx
      have HXI := hide (fun (W : World) (hW : Below wo3.heap.size wo3 W) => hxi.keep (w := wo3) (S := (· < w.heap.size)) (S' := (· < w.heap.size)) (up hW (by omega)) (fun _ h => h))
      have HSX := hide (fun (W : World) (hW : Below wo3.heap.size wo3 W) v1 v2 g1 g2 => HST1.out x hxm (.slice Ay x.args.length cy) W (HUP.out W (HC3.out.trans (hW.mono HC3.out.size))) (HXI.out W hW) v1 v2 s HGS.out g1 g2)
      have HRX := hide (fun (W : World) (hW : Below wo3.heap.size wo3 W) v1 v2 g1 g2 => HRT1.out x hxm (.slice Ay x.args.length cy) W (HUP.out W (HC3.out.trans (hW.mono HC3.out.size))) (HXI.out W hW) v1 v2 s HGS.out g1 g2)
      have HSN := hide (HSR1.out x hxm s HGS.out)
      have lbx : bx < wo3.heap.size := by omega
      have HSX2 := hide (HSX.out wo3.drew (below_drewN (Below.refl _ _) 1) u1 u2 (show SetV wo3.drew u1 s.1 from HU1'.out) (show SetV wo3.drew u2 s.2 from HU2'.out))
      clear hxi hx HSX HXI hxm
      generalize stepW f x s = nq at *
      generalize x.args.length = ly, x.op = yo, x.d = yd, x.a = ya, x.b = yb, x.n = yn, x.m = ym at *
      have hki3 : (0 : Int) ≤ (k3 : Int) := by omega
      have hkl3 : (k3 : Int) < (ll : Int) := by omega
      have HQ3 := hide (fun (W : World) (hW : Below wo3.heap.size wo3 W) => And.intro ((hW.cell (p := ⟨bb, ob + b, none⟩) lbb).trans d03) (And.intro ((hW.cell (p := ⟨bx, ox + k3 * 7, none⟩) lbx).trans z0) (And.intro ((hW.cell (p := ⟨bx, ox + k3 * 7 + 1, none⟩) lbx).trans z1) (And.intro ((hW.cell (p := ⟨bx, ox + k3 * 7 + 2, none⟩) lbx).trans z2) (And.intro ((hW.cell (p := ⟨bx, ox + k3 * 7 + 3, none⟩) lbx).trans z3) (And.intro ((hW.cell (p := ⟨bx, ox + k3 * 7 + 4, none⟩) lbx).trans z4) (And.intro ((hW.cell (p := ⟨bx, ox + k3 * 7 + 5, none⟩) lbx).trans z5) ((hW.cell (p := ⟨bx, ox + k3 * 7 + 6, none⟩) lbx).trans z6))))))))
      have HQ4' := hide (fun (W : World) (hW : Below wo3.heap.size wo3 W) => And.intro (HFK0.out W (HC3.out.trans (hW.mono HC3.out.size))) (HQ3.out W hW))
      go_wp2_with fail
      go_region_held3 (fun w' => (w'.cell? ⟨h6, 0, none⟩ = some (.slice Ak lk ck) ∧ w'.cell? ⟨h6, 1, none⟩ = some (.slice Ab lb cb) ∧ w'.cell? ⟨h6, 2, none⟩ = some (.int .i64 fp) ∧ w'.cell? ⟨h6, 3, none⟩ = some (.int .i64 fr) ∧ w'.cell? ⟨h6, 4, none⟩ = some (.slice (some ⟨bb, ob, none⟩) ls cs)) ∧ w'.cell? ⟨bb, ob + b, none⟩ = some (.slice (some ⟨bx, ox, none⟩) ll cl) ∧ w'.cell? ⟨bx, ox + k3 * 7, none⟩ = some (.int .i64 yo) ∧ w'.cell? ⟨bx, ox + k3 * 7 + 1, none⟩ = some (.int .i64 yd) ∧ w'.cell? ⟨bx, ox + k3 * 7 + 2, none⟩ = some (.int .i64 ya) ∧ w'.cell? ⟨bx, ox + k3 * 7 + 3, none⟩ = some (.int .i64 yb) ∧ w'.cell? ⟨bx, ox + k3 * 7 + 4, none⟩ = some (.int .i64 yn) ∧ w'.cell? ⟨bx, ox + k3 * 7 + 5, none⟩ = some (.int .i64 ym) ∧ w'.cell? ⟨bx, ox + k3 * 7 + 6, none⟩ = some (.slice Ay ly cy)) (first | go_keep | (exact q8))
        (first
          | (go_at_call 20; refine (HSX2.out).mono ?_; rintro e w8 ⟨r1, r2, rfl, hr1, hr2, hb8⟩; have hb8' : Below wo3.heap.size wo3 w8 := ⟨hb8.os, hb8.tape, hb8.output, hb8.size, hb8.block⟩; have q8 := HQ4'.out w8 hb8'; have HB8 := hide hb8'; have HR1 := hide hr1.ws; have HR2 := hide hr2.ws; clear hb8 hb8' hr1 hr2))
      have HU18 := hide (HU1'.out.below HB8.out)
      have HU28 := hide (HU2'.out.below HB8.out)
      have hz8 := HB8.out.size
      clear c0 c1 c2 c3 c4 d03 z0 z1 z2 z3 z4 z5 z6
      obtain ⟨⟨c0, c1, c2, c3, c4⟩, d03, z0, z1, z2, z3, z4, z5, z6⟩ := HQ4'.out w8 HB8.out
      have lfx8 : h6 < w8.heap.size := by omega
      have lbb8 : bb < w8.heap.size := by omega
      have lbx8 : bx < w8.heap.size := by omega
      have HRX2 := hide (HRX.out w8.drew (below_drewN HB8.out 1) u1 u2 (show SetV w8.drew u1 s.1 from HU18.out) (show SetV w8.drew u2 s.2 from HU28.out))
      clear q8
      go_wp2_with fail
      go_region_held3 (fun w' => (w'.cell? ⟨h6, 0, none⟩ = some (.slice Ak lk ck) ∧ w'.cell? ⟨h6, 1, none⟩ = some (.slice Ab lb cb) ∧ w'.cell? ⟨h6, 2, none⟩ = some (.int .i64 fp) ∧ w'.cell? ⟨h6, 3, none⟩ = some (.int .i64 fr) ∧ w'.cell? ⟨h6, 4, none⟩ = some (.slice (some ⟨bb, ob, none⟩) ls cs)) ∧ w'.cell? ⟨bb, ob + b, none⟩ = some (.slice (some ⟨bx, ox, none⟩) ll cl) ∧ w'.cell? ⟨bx, ox + k3 * 7, none⟩ = some (.int .i64 yo) ∧ w'.cell? ⟨bx, ox + k3 * 7 + 1, none⟩ = some (.int .i64 yd) ∧ w'.cell? ⟨bx, ox + k3 * 7 + 2, none⟩ = some (.int .i64 ya) ∧ w'.cell? ⟨bx, ox + k3 * 7 + 3, none⟩ = some (.int .i64 yb) ∧ w'.cell? ⟨bx, ox + k3 * 7 + 4, none⟩ = some (.int .i64 yn) ∧ w'.cell? ⟨bx, ox + k3 * 7 + 5, none⟩ = some (.int .i64 ym) ∧ w'.cell? ⟨bx, ox + k3 * 7 + 6, none⟩ = some (.slice Ay ly cy)) (first | go_keep | (exact qa))
        (first
          | (go_at_call 21; refine (HRX2.out).mono ?_; rintro e wa ⟨t1, t2, rfl, ht1, ht2, hba⟩; have hba' : Below w8.heap.size w8 wa := ⟨hba.os, hba.tape, hba.output, hba.size, hba.block⟩; have hbb9 := HB8.out.trans (hba'.mono HB8.out.size); have qa := HQ4'.out wa hbb9; have HBa := hide hba'; have HCa := hide hbb9; have HT1 := hide ht1; have HT2 := hide ht2; clear hba hba' hbb9 ht1 ht2))
      have HR1a := hide (HR1.out.below HBa.out)
      have HR2a := hide (HR2.out.below HBa.out)
      clear qa
      go_wp2_with (first
        | (go_at_call_of 17 r2; (with_reducible refine (rwordsV HR2a.out HT2.out (by have := HSN.out.l2; omega)).mono ?_); rintro e w' ⟨rfl, rfl⟩)
        | (go_at_call_of 17 r1; (with_reducible refine (rwordsV HR1a.out HT1.out (by have := HSN.out.l1; omega)).mono ?_); rintro e w' ⟨rfl, rfl⟩))
      go_roundw
      case rel => exact ⟨k3 + 1, nq, _, _, rfl, rfl, by omega, by go_num, HR1a, HR2a, HSN, HBW3.out.trans (HCa.out.mono hszo3)⟩
      case measure => simp [intOf]; omega
end Go.Proofs.YtajndgoichlnmaaGreatDoor
