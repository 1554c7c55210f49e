/- The statement KindGrows, walked: it answers true. Conditions: the tables of parts and of rows read as listed; no slice of the program is longer than any machine's memory. -/
import Derived.Test.YthbbpjijmpeljaaGreatDoorKR
import Derived.Deep.RegionHeld3
set_option linter.unusedSimpArgs false
set_option linter.unusedVariables false
namespace Go.Proofs.YthbbpjijmpeljaaGreatDoor
open Go.RowKit

theorem u8_nat {n : Int} (h : (Lit.int .u8 n).wf = true) : ∃ u : Nat, n = u ∧ u ≤ 255 := by
  have h2 : 0 ≤ n ∧ n ≤ 255 := by
    simp [Lit.wf, IntKind.min, IntKind.max, IntKind.signed, IntKind.bits] at h
    omega
  exact ⟨n.toNat, by omega, by omega⟩
/-- Less is in what is within. -/
theorem less_within {a b : List Nat} (ha : W64 a) (hb : W64 b) (h : ∀ m : Nat, hasB a (m : Int) = true → hasB b (m : Int) = true) : (lessL a b).length = 0 := neat_nil_iff.2 fun i => by
  have h1 := lessL_getD a b i
  rw [lessL, neat_getD] at h1
  rw [h1]
  apply Nat.eq_of_testBit_eq
  intro j
  rw [andN_bit (ha.getD i) (hb.getD i), Nat.zero_testBit]
  by_cases hj : j < 64
  · have h2 := h (64 * i + j)
    rw [hasB_nat, hasB_nat, show (64 * i + j) / 64 = i by omega, show (64 * i + j) % 64 = j by omega] at h2
    cases hx : (a.getD i 0).testBit j with
    | false => simp
    | true => rw [h2 hx]; rfl
  · rw [bit64 (ha.getD i) (by omega)]; rfl
/-- A state of a place: tidy, and fresh nothing but derived pointers. -/
def DerK (f : FunV) (s : KSt) : Prop := ∀ m : Nat, hasB s.2 (m : Int) = true → f.kinds[m]? = some 2
theorem KAtZ.der {f : FunV} (hk : KOk f) {z : Int} {s : KSt} (h : KAtZ f z s) : DerK f s := by
  rcases h with ⟨b, rfl, h⟩ | ⟨h1, h2⟩
  · rcases h with ⟨h1, h2, h3⟩ | ⟨h1, h2⟩
    · intro m hm
      exact ((kAt_sol f).inK hk.flow h1).2 m ((h3 true m).1 ((semK_t s m).2 hm))
    · intro m hm
      rw [h2] at hm
      simp [hasB_nil] at hm
  · intro m hm
    rw [h2] at hm
    simp [hasB_nil] at hm
theorem DerK.step {f : FunV} {x : InsV} {s : KSt} (h : DerK f s) (hs : GoodK f s) (hk : f.kinds.length ≤ 48) (hd : hasB4 x.op 68 = true → 0 ≤ x.d ∧ x.d < f.kinds.length) : DerK f (stepW f x s) := by
  intro m hm
  have h1 := (stepW_sem hs hk hd true m).1 ((semK_t _ m).2 hm)
  unfold kS at h1
  rw [if_neg (by simp)] at h1
  rcases h1 with h1 | h1
  · exact h1.2.1
  · exact h m ((semK_t s m).1 h1.2.1)
theorem step_grows {f : FunV} {x : InsV} {s : KSt} (hs : GoodK f s) (hk : f.kinds.length ≤ 48) (hd : hasB4 x.op 68 = true → 0 ≤ x.d ∧ x.d < f.kinds.length) : (lessL s.1 (stepW f x s).1).length = 0 :=
  less_within hs.w1 (stepW_good hs hk hd).w1 fun m hm => (semK_f _ m).1 ((stepW_sem hs hk hd false m).2 (by
    unfold kS
    rw [if_pos rfl]
    exact .inl ((semK_f s m).2 hm)))
set_option maxHeartbeats 8000000 in
set_option maxRecDepth 100000 in
theorem kindgrows_law (vp : Value) (p : List FunV) (bn : Nat) (hbn : bn ≤ 255) (w : World) (hT : TabP w) (hR : RowP w) (hp : FunsV w (· < w.heap.size) vp p) (hsz : progSize p) :
    Calls Tryz.prog 7 #[.agg #[vp], .int .u8 (bn : Int)] w fun e w' => e = .returned (.bool true) ∧ Below w.heap.size w w' := by
  have HAL := hide (fun (W : World) (hW : Below w.heap.size w W) => alive8_any W (hT.below hW hT.1) (hR.below hW hR.1))
  have HGR := hide (fun (W : World) (hW : Below w.heap.size w W) => great8_any vp p W w.heap.size hW.size (hp.keep (up hW (Nat.le_refl _)) (fun _ h => h)) hsz)
  have HC4 := hide (fun (W : World) (hW : Below w.heap.size w W) (hf : progFew p) => check4_any vp p W w.heap.size hW.size (hp.keep (up hW (Nat.le_refl _)) (fun _ h => h)) hf)
  have HFEW := hide (fun h : ∀ f ∈ p, smallF f => smallF.few h)
  have HPK := hide (fun (W : World) (hW : Below w.heap.size w W) => hp.keep (up hW (Nat.le_refl _)) (fun _ h => h))
  have HTT := hide (fun (W : World) (hW : Below w.heap.size w W) => hT.below hW hT.1)
  have HRR := hide (fun (W : World) (hW : Below w.heap.size w W) => hR.below hW hR.1)
  obtain ⟨Ap, cp, rfl, hcp, hmp⟩ := hp.open'
  obtain ⟨lp, hlp⟩ : ∃ lp, p.length = lp := ⟨_, rfl⟩
  have HLP := hide hlp
  rw [hlp] at HPK HGR HC4 hcp
  rw [hlp]
  clear hp hT hR hsz hlp
  go_enter Tryz.func7, Tryz.ntmps7
  go_upto_region 1 with (fail)
  obtain ⟨w1, hw1⟩ : ∃ w1, w1 = w.alloc (.cells #[.slice Ap lp cp] 24) := ⟨_, rfl⟩
  obtain ⟨h5, hh5⟩ : ∃ h5, w.heap.size = h5 := ⟨_, rfl⟩
  have HX0 := hide (show Box w1 (h5) #[.slice Ap lp cp] 24 by rw [hw1, ← hh5]; have t := Box.new w #[.slice Ap lp cp] 24; (try simp only [World.size_alloc] at t); exact t)
  have HB1 := hide (show Below w.heap.size w w1 by rw [hw1]; exact ((Below.refl _ _).alloc (Nat.le_refl _) _))
  have w1s := HB1.out.size
  have w1z := hide (show w1.heap.size = h5 + 1 by rw [hw1, ← hh5]; simp only [World.size_alloc])
  have HK0 := hide (fun (W : World) (hW : Below w1.heap.size w1 W) => ((HX0.out.below hW).cell 0 (v := .slice Ap lp cp) rfl).1)
  have lHX0 := HX0.out.lt
  have h5g : w.heap.size ≤ h5 := by omega
  rw [← hw1, hh5]
  clear hw1 hh5
  have p0 := HK0.out w1 (Below.refl _ _)
  go_upto_region 3 with (go_at_call 8; (with_reducible refine (HAL.out w1 HB1.out).mono ?_); rintro e w2 ⟨rfl, hb2⟩; have HQ2 := hide hb2; have HB2 := hide (HB1.out.trans (hb2.mono HB1.out.size)); have p2 := HK0.out w2 hb2; clear hb2)
  obtain ⟨b4, hb4⟩ : ∃ b4, progB4 p = b4 := ⟨_, rfl⟩
  have HP4 := hide hb4
  cases b4
  · have hc : chkN4 p = 5 := by unfold chkN4; rw [hb4]; rfl
    rw [hc] at HC4
    clear hb4 hc
    go_wp2_with (first
      | (go_at_call 12; (with_reducible refine (HC4.out w3 HB3.out (HFEW.out (HS3.out (by simp)))).mono ?_); rintro e w4 ⟨rfl, hb4⟩; have HB4 := hide (HB3.out.trans (hb4.mono HB3.out.size)); clear hb4)
      | (go_at_call 9; (with_reducible refine (HGR.out w2 HB2.out).mono ?_); rintro e w3 ⟨bG, rfl, hs3, hb3⟩; have HS3 := hide hs3; have HQ3 := hide (HQ2.out.trans (hb3.mono HQ2.out.size)); have HB3 := hide (HB2.out.trans (hb3.mono HB2.out.size)); have p3 := HK0.out w3 HQ3.out; clear hb3 hs3; cases bG))
    all_goals
      go_ret
      first
        | exact ⟨rfl, HB4.out⟩
        | exact ⟨rfl, HB3.out⟩
  have hc : chkN4 p = 0 := by unfold chkN4; rw [hb4]; rfl
  rw [hc] at HC4
  have HKO := hide (kOk_of hb4)
  clear hb4 hc
  go_upto_region 5 with (first
      | (go_at_call 12; (with_reducible refine (HC4.out w3 HB3.out (HFEW.out (HS3.out (by simp)))).mono ?_); rintro e w4 ⟨rfl, hb4⟩; have HQ4 := hide (HQ3.out.trans (hb4.mono HQ3.out.size)); have HB4 := hide (HB3.out.trans (hb4.mono HB3.out.size)); clear hb4)
      | (go_at_call 9; (with_reducible refine (HGR.out w2 HB2.out).mono ?_); rintro e w3 ⟨bG, rfl, hs3, hb3⟩; have HS3 := hide hs3; have HQ3 := hide (HQ2.out.trans (hb3.mono HQ2.out.size)); have HB3 := hide (HB2.out.trans (hb3.mono HB2.out.size)); have p3 := HK0.out w3 HQ3.out; clear hb3 hs3; cases bG))
  all_goals try (go_ret; exact ⟨rfl, HB3.out⟩)
  have hbw4 := HB4.out.size
  go_wp2
  go_loopw [5] (fun i wr => ∃ k : Nat, k ≤ lp ∧ i = .int .i64 k ∧ Below w4.heap.size w4 wr) (fun i _ => lp - (intOf i).toNat)
  case atStart => exact ⟨0, Nat.zero_le _, rfl, Below.refl _ _⟩
  case round =>
    obtain ⟨k, hk, rfl, hb⟩ := hrel
    obtain ⟨wo, rfl⟩ : ∃ wo, wo = wr := ⟨_, rfl⟩
    have hszo := hb.size
    have HBEL := hide (HB4.out.trans (hb.mono HB4.out.size))
    have HBW := hide hb
    have HXO := hide (HX0.out.below (HQ4.out.trans (hb.mono HQ4.out.size)))
    have xp := (HXO.out.cell 0 (v := .slice Ap lp cp) rfl).1
    have lxp := HXO.out.lt
    clear hb p0 p2 p3
    by_cases hlt : k < lp
    case neg =>
      go_wp2
      go_ret
      exact ⟨rfl, HBEL.out⟩
    obtain ⟨f, hf⟩ : ∃ f, p[k]? = some f := ⟨_, List.getElem?_eq_getElem (by have := HLP.out; omega)⟩
    obtain ⟨bg, og, Ak, ck, Ab, cb, As, cs, hAp, hbgb, ⟨e0, e1, e2, e3, e4⟩, hi⟩ := (HPK.out wo HBEL.out).get hf
    subst hAp
    have HKF := hide (HKO.out f (List.mem_of_getElem? hf))
    have hBo : w.heap.size ≤ wo.heap.size := by have := HBEL.out.size; omega
    have HIK := hide (fun (W : World) (hW : Below wo.heap.size wo W) => hi.keep (w := wo) (S := (· < w.heap.size)) (up hW hBo) (fun _ h => h))
    have HTO := hide (fun (W : World) (hW : Below wo.heap.size wo W) => HTT.out W (HBEL.out.trans (hW.mono HBEL.out.size)))
    have HBO := hide (fun (W : World) (hW : Below wo.heap.size wo W) => (show w.heap.size ≤ W.heap.size by have := hW.size; omega))
    have hls1 := HKF.out.one
    have hls40 := HKF.out.flow.1
    obtain ⟨at9, hat⟩ : ∃ r, bn % f.blocks.length = r := ⟨_, rfl⟩
    have hatl : at9 < f.blocks.length := by rw [← hat]; exact Nat.mod_lt _ (by omega)
    have hatR : i64R (at9 : Int) := by unfold i64R; omega
    have HSE := hide (fun (W : World) (hW : Below wo.heap.size wo W) => kset_any (.slice Ak f.kinds.length ck) (.slice Ab f.base.length cb) (.slice As f.blocks.length cs) f HKF.out (at9 : Int) hatR W w.heap.size (HBO.out W hW) (HIK.out W hW) (HTO.out W hW))
    have HFR := hide (fun (W : World) (hW : Below wo.heap.size wo W) => kfresh_any (.slice Ak f.kinds.length ck) (.slice Ab f.base.length cb) (.slice As f.blocks.length cs) f HKF.out (at9 : Int) hatR W w.heap.size (HBO.out W hW) (HIK.out W hW) (HTO.out W hW))
    have HST := hide (fun (l : List InsV) (hl : l ∈ f.blocks) (x : InsV) (hx : x ∈ l) (va : Value) (W : World) (hW : Below wo.heap.size wo W) (hxi : InsI W (· < w.heap.size) va x) (v1 v2 : Value) (s : KSt) (hs : GoodK f s) (g1 : SetV W v1 s.1) (g2 : SetV W v2 s.2) => kstep_any (.slice Ak f.kinds.length ck) (.slice Ab f.base.length cb) (.slice As f.blocks.length cs) f x va W w.heap.size (HBO.out W hW) (HIK.out W hW) hxi (HTO.out W hW) v1 v2 s hs g1 g2 HKF.out.kinds HKF.out.bl (HKF.out.sets l hl x hx))
    have HSR := hide (fun (l : List InsV) (hl : l ∈ f.blocks) (x : InsV) (hx : x ∈ l) (s : KSt) (hs : GoodK f s) (hd : DerK f s) => And.intro (stepW_good hs HKF.out.kinds (HKF.out.sets l hl x hx)) (And.intro (hd.step hs HKF.out.kinds (HKF.out.sets l hl x hx)) (step_grows hs HKF.out.kinds (HKF.out.sets l hl x hx))))
    have HDA := hide (fun (s : KSt) (h : KAtZ f (at9 : Int) s) => And.intro h.good (h.der HKF.out))
    have HBL := hide (fun (W : World) (hW : Below wo.heap.size wo W) => (HIK.out W hW).2.2.1)
    have HKL := hide (fun (W : World) (hW : Below wo.heap.size wo W) => (HIK.out W hW).1)
    have hbs : bg < wo.heap.size := by omega
    have t1 : (bn : Int).tmod (f.blocks.length : Int) = (at9 : Int) := by rw [← hat]; exact (Int.ofNat_tmod bn f.blocks.length).symm
    have t3 : (bn : Int) % (f.blocks.length : Int) = (at9 : Int) := by rw [← hat]; exact (Int.natCast_emod bn f.blocks.length).symm
    have hm3 : f.blocks.length ≤ 9223372036854775807 := by omega
    have hm1 : f.kinds.length ≤ 48 := HKF.out.kinds
    obtain ⟨ls, hls⟩ : ∃ ls, f.blocks.length = ls := ⟨_, rfl⟩
    have HLS := hide hls
    obtain ⟨lk, hlk⟩ : ∃ lk, f.kinds.length = lk := ⟨_, rfl⟩
    have HLK := hide hlk
    rw [hls] at HSE HFR HST HBL e4 hls1 hls40 hatl t1 t3 hm3
    rw [hlk] at HSE HFR HST HKL e0 hm1
    clear hi hls hlk hf HIK hat hatR
    generalize f.base.length = lb, f.params = fp, f.result = fr at *
    have hki : (0 : Int) ≤ (k : Int) := by omega
    have hkl : (k : Int) < (lp : Int) := by omega
    go_upto_region 9 with (fail)
    obtain ⟨w5, hw5⟩ : ∃ w5, w5 = wo.alloc (.cells #[.slice Ak lk ck, .slice Ab lb cb, .int .i64 fp, .int .i64 fr, .slice As ls cs] 35) := ⟨_, rfl⟩
    obtain ⟨h6, hh6⟩ : ∃ h6, wo.heap.size = h6 := ⟨_, rfl⟩
    have HFX0 := hide (show Box w5 (h6) #[.slice Ak lk ck, .slice Ab lb cb, .int .i64 fp, .int .i64 fr, .slice As ls cs] 35 by rw [hw5, ← hh6]; have t := Box.new wo #[.slice Ak lk ck, .slice Ab lb cb, .int .i64 fp, .int .i64 fr, .slice As ls cs] 35; (try simp only [World.size_alloc] at t); exact t)
    have HB5 := hide (show Below wo.heap.size wo w5 by rw [hw5]; exact ((Below.refl _ _).alloc (Nat.le_refl _) _))
    have w5s := HB5.out.size
    have w5z := hide (show w5.heap.size = h6 + 1 by rw [hw5, ← hh6]; simp only [World.size_alloc])
    have HFK0 := hide (fun (W : World) (hW : Below w5.heap.size w5 W) => (And.intro ((HFX0.out.below hW).cell 0 (v := .slice Ak lk ck) rfl).1 (And.intro ((HFX0.out.below hW).cell 1 (v := .slice Ab lb cb) rfl).1 (And.intro ((HFX0.out.below hW).cell 2 (v := .int .i64 fp) rfl).1 (And.intro ((HFX0.out.below hW).cell 3 (v := .int .i64 fr) rfl).1 ((HFX0.out.below hW).cell 4 (v := .slice As ls cs) rfl).1)))))
    have lHFX0 := HFX0.out.lt
    have h6g : wo.heap.size ≤ h6 := by omega
    rw [← hw5, hh6]
    clear hw5 hh6

    obtain ⟨c0, c1, c2, c3, c4⟩ := HFK0.out w5 (Below.refl _ _)
    clear e0 e1 e2 e3 e4 xp lxp
    have HUP := hide (fun (W : World) (hW : Below w5.heap.size w5 W) => HB5.out.trans (hW.mono HB5.out.size))
    have hb0 : (0 : Int) ≤ (bn : Int) := by omega
    have hb1 : (bn : Int) ≤ 255 := by omega
    have hlsz : ((ls : Int) == 0) = false := by simp; omega
    have hl0 : (0 : Int) < (ls : Int) := by omega
    go_upto_region 10 with (fail)
    go_region_held3 (fun w' => w'.cell? ⟨h6, 0, none⟩ = some (.slice Ak lk ck) ∧ w'.cell? ⟨h6, 1, none⟩ = some (.slice Ab lb cb) ∧ w'.cell? ⟨h6, 2, none⟩ = some (.int .i64 fp) ∧ w'.cell? ⟨h6, 3, none⟩ = some (.int .i64 fr) ∧ w'.cell? ⟨h6, 4, none⟩ = some (.slice As ls cs)) (first | go_keep | (exact q7) | (exact q6))
      (first
        | (go_at_call 17; refine (HFR.out w6 (HUP.out w6 HC6.out)).mono ?_; rintro e w7 ⟨v7, s7, rfl, hv7, ha7, hb⟩; have hc := HC6.out.trans (hb.mono HC6.out.size); have q7 := HFK0.out w7 hc; have HC7 := hide hc; have HV7 := hide hv7; have HV6b := hide (HV6.out.below hb); have HA7 := hide ha7; clear hb hc hv7 ha7)
        | (go_at_call 16; refine (HSE.out _ (HUP.out _ (below_drewN (Below.refl _ _) 1))).mono ?_; rintro e w6 ⟨v6, s6, rfl, hv6, ha6, hb⟩; have hc : Below w5.heap.size w5 w6 := ⟨hb.os, hb.tape, hb.output, hb.size, hb.block⟩; have q6 := HFK0.out w6 hc; have HC6 := hide hc; have HV6 := hide hv6; have HA6 := hide ha6; clear hb hc hv6 ha6))
    obtain rfl : s6 = s7 := HA6.out.one HA7.out
    have HG0 := hide (HDA.out s6 HA6.out)
    have HV6 := hide (show SetV w7 v6 s6.1 from HV6b.out)
    have HV7 := hide (show SetV w7 v7 s6.2 from HV7.out)
    clear HV6b
    have hz7 := HC7.out.size
    obtain ⟨l, hl⟩ : ∃ l, f.blocks[at9]? = some l := ⟨_, List.getElem?_eq_getElem (by have := HLS.out; omega)⟩
    have HLM := hide (List.mem_of_getElem? hl)
    have HST1 := hide (HST.out l HLM.out)
    have HSR1 := hide (HSR.out l HLM.out)
    obtain ⟨bb, ob, Al, cl, hAs, hbb, d0, hli⟩ := (HBL.out w7 (HUP.out w7 HC7.out)).get hl
    subst hAs
    have hbs7 : bb < w7.heap.size := by omega
    have HD0 := hide (fun (W : World) (hW : Below w7.heap.size w7 W) => (hW.cell (p := ⟨bb, ob + at9, none⟩) hbs7).trans d0)
    have HLI := hide (fun (W : World) (hW : Below w7.heap.size w7 W) => hli.keep (S := (· < w.heap.size)) (up hW (by omega)) (fun _ h => h))
    have hm4 : l.length ≤ 9223372036854775807 := by obtain ⟨A, c, -, h1, h2⟩ := hli.open'; omega
    obtain ⟨ll, hll⟩ : ∃ ll, l.length = ll := ⟨_, rfl⟩
    have HLL := hide hll
    rw [hll] at HLI hm4
    rw [hll] at HD0 d0
    clear hli hll hl HST HSR
    clear c0 c1 c2 c3 c4
    have hai : (0 : Int) ≤ (at9 : Int) := by omega
    have hal : (at9 : Int) < (ls : Int) := by omega
    go_wp2
    go_loopw [8, 9, 10] (fun u1 u2 i wr => ∃ (k3 : Nat) (s : KSt) (a1 a2 : Value), a1 = u1 ∧ a2 = u2 ∧ k3 ≤ ll ∧ i = .int .i64 k3 ∧ Hid (SetV wr a1 s.1) ∧ Hid (SetV wr a2 s.2) ∧ Hid (GoodK f s ∧ DerK f s) ∧ Below w7.heap.size w7 wr) (fun _ _ i _ => ll - (intOf i).toNat)
    case atStart => exact ⟨0, s6, _, _, rfl, rfl, Nat.zero_le _, rfl, HV6, HV7, HG0, Below.refl _ _⟩
    case round =>
      obtain ⟨k3, s, u1, u2, rfl, rfl, hk3, rfl, HU1, HU2, HGS, hb⟩ := hrel
      obtain ⟨wo3, rfl⟩ : ∃ wo3, wo3 = wr := ⟨_, rfl⟩
      have hszo3 := hb.size
      have HBW3 := hide hb
      have HC3 := hide (HC7.out.trans (hb.mono HC7.out.size))
      obtain ⟨c0, c1, c2, c3, c4⟩ := HFK0.out wo3 HC3.out
      have d03 := HD0.out wo3 hb
      have lfx : h6 < wo3.heap.size := by have := HC3.out.size; omega
      have lbb : bb < wo3.heap.size := by omega
      clear hb d0 q7 q6
      by_cases hlt3 : k3 < ll
      case neg =>
        go_wp2
        go_roundw
        case rel => exact ⟨k + 1, by omega, by go_num, HBW.out.trans ((HUP.out wo3 HC3.out).mono hszo)⟩
        case measure => simp [intOf]; omega
      obtain ⟨x, hx⟩ : ∃ x, l[k3]? = some x := ⟨_, List.getElem?_eq_getElem (by have := HLL.out; omega)⟩
      obtain ⟨bx, ox, Ay, cy, hAl, hbx, ⟨z0, z1, z2, z3, z4, z5, z6⟩, hxi⟩ := (HLI.out wo3 HBW3.out).get hx
      subst hAl
      have HSX := hide (fun (W : World) (hW : Below wo3.heap.size wo3 W) v1 v2 g1 g2 => HST1.out x (List.mem_of_getElem? hx) (.slice Ay x.args.length cy) W (HUP.out W (HC3.out.trans (hW.mono HC3.out.size))) (hxi.keep (up hW (by omega)) (fun _ h => h)) v1 v2 s HGS.out.1 g1 g2)
      have HSN := hide (HSR1.out x (List.mem_of_getElem? hx) s HGS.out.1 HGS.out.2)
      have hbs3 : bx < wo3.heap.size := by omega
      have HSX2 := hide (HSX.out wo3.drew (below_drewN (Below.refl _ _) 1) _ _ (show SetV wo3.drew u1 s.1 from HU1.out) (show SetV wo3.drew u2 s.2 from HU2.out))
      clear hxi hx HSX
      generalize stepW f x s = nq at *
      generalize x.args.length = ly, x.op = yo, x.d = yd, x.a = ya, x.b = yb, x.n = yn, x.m = ym at *
      have hki3 : (0 : Int) ≤ (k3 : Int) := by omega
      have hkl3 : (k3 : Int) < (ll : Int) := by omega
      have hb3a : h6 < wo3.heap.size := lfx
      have HQ3 := hide (fun (W : World) (hW : Below wo3.heap.size wo3 W) => And.intro ((hW.cell (p := ⟨bb, ob + at9, none⟩) lbb).trans d03) (And.intro ((hW.cell (p := ⟨bx, ox + k3 * 7, none⟩) hbs3).trans z0) (And.intro ((hW.cell (p := ⟨bx, ox + k3 * 7 + 1, none⟩) hbs3).trans z1) (And.intro ((hW.cell (p := ⟨bx, ox + k3 * 7 + 2, none⟩) hbs3).trans z2) (And.intro ((hW.cell (p := ⟨bx, ox + k3 * 7 + 3, none⟩) hbs3).trans z3) (And.intro ((hW.cell (p := ⟨bx, ox + k3 * 7 + 4, none⟩) hbs3).trans z4) (And.intro ((hW.cell (p := ⟨bx, ox + k3 * 7 + 5, none⟩) hbs3).trans z5) ((hW.cell (p := ⟨bx, ox + k3 * 7 + 6, none⟩) hbs3).trans z6))))))))
      have HQ4' := hide (fun (W : World) (hW : Below wo3.heap.size wo3 W) => HFK0.out W (HC3.out.trans (hW.mono HC3.out.size)))
      go_wp2_with fail
      go_region_held3 (fun w' => (w'.cell? ⟨h6, 0, none⟩ = some (.slice Ak lk ck) ∧ w'.cell? ⟨h6, 1, none⟩ = some (.slice Ab lb cb) ∧ w'.cell? ⟨h6, 2, none⟩ = some (.int .i64 fp) ∧ w'.cell? ⟨h6, 3, none⟩ = some (.int .i64 fr) ∧ w'.cell? ⟨h6, 4, none⟩ = some (.slice (some ⟨bb, ob, none⟩) ls cs)) ∧ w'.cell? ⟨bb, ob + at9, none⟩ = some (.slice (some ⟨bx, ox, none⟩) ll cl) ∧ w'.cell? ⟨bx, ox + k3 * 7, none⟩ = some (.int .i64 yo) ∧ w'.cell? ⟨bx, ox + k3 * 7 + 1, none⟩ = some (.int .i64 yd) ∧ w'.cell? ⟨bx, ox + k3 * 7 + 2, none⟩ = some (.int .i64 ya) ∧ w'.cell? ⟨bx, ox + k3 * 7 + 3, none⟩ = some (.int .i64 yb) ∧ w'.cell? ⟨bx, ox + k3 * 7 + 4, none⟩ = some (.int .i64 yn) ∧ w'.cell? ⟨bx, ox + k3 * 7 + 5, none⟩ = some (.int .i64 ym) ∧ w'.cell? ⟨bx, ox + k3 * 7 + 6, none⟩ = some (.slice Ay ly cy)) (first | go_keep | (exact q8))
        (first
          | (go_at_call 21; refine (HSX2.out).mono ?_; rintro e w8 ⟨r1, r2, rfl, hr1, hr2, hb8⟩; have hb8' : Below wo3.heap.size wo3 w8 := ⟨hb8.os, hb8.tape, hb8.output, hb8.size, hb8.block⟩; have q8 := And.intro (HQ4'.out w8 hb8') (HQ3.out w8 hb8'); have HB8 := hide hb8'; have HR1 := hide hr1.ws; have HR2 := hide hr2.ws; clear hb8 hb8' hr1 hr2))
      have HHD : Hid (∀ W, Below w8.heap.size w8 W → Calls Tryz.prog 26 #[r1, u1] W fun e w' => e = .returned (.bool true) ∧ Below W.heap.size W w') := hide (fun W hW => by
        obtain ⟨A1, d1, e1, a1, a2, a3⟩ := HR1.out.below hW
        obtain ⟨A2, d2, e2, b1, b2, b3⟩ := (HU1.out.below HB8.out).below hW
        subst e1
        subst e2
        have h := rholds_any A1 A2 _ d1 _ d2 nq.1 s.1 W a3 b3 rfl rfl (by have := HSN.out.1.l1; omega) (by have := HGS.out.1.l1; omega) HSN.out.1.w1 HGS.out.1.w1
        rw [HSN.out.2.2] at h
        exact h)
      have HHAS : Hid (∀ (m : Nat), m ≤ 48 → ∀ W, Below w8.heap.size w8 W → Calls Tryz.prog 23 #[r2, .int .i64 (m : Int)] W fun e w' => e = .returned (.bool (hasB nq.2 (m : Int))) ∧ W = w') := hide (fun m hm W hW => by
        obtain ⟨A1, d1, e1, a1, a2, a3⟩ := HR2.out.below hW
        subst e1
        exact brhas_any A1 _ d1 nq.2 (m : Int) W _ a3 rfl (by have := HSN.out.1.l2; omega) HSN.out.1.w2 (by omega))
      have hz8 := HB8.out.size
      clear q8 c0 c1 c2 c3 c4 d03 z0 z1 z2 z3 z4 z5 z6
      go_wp2_with (go_at_call 26; (with_reducible refine (HHD.out w8 (Below.refl _ _)).mono ?_); rintro e w9 ⟨rfl, hb9⟩; have HB9 := hide hb9; have HC9 := hide (HB8.out.trans (hb9.mono HB8.out.size)); clear hb9)
      go_loopw [13] (fun i wr => ∃ k4 : Nat, k4 ≤ lk ∧ i = .int .i64 k4 ∧ wr = w9) (fun i _ => lk - (intOf i).toNat)
      case atStart => exact ⟨0, Nat.zero_le _, rfl, rfl⟩
      case round =>
        obtain ⟨k4, hk4, rfl, rfl⟩ := hrel
        obtain ⟨w9, rfl⟩ : ∃ w9, w9 = wr := ⟨_, rfl⟩
        obtain ⟨c0, c1, c2, c3, c4⟩ := HQ4'.out w9 HC9.out
        have lfx9 : h6 < w9.heap.size := by have := HC9.out.size; omega
        by_cases hlt4 : k4 < lk
        case neg =>
          go_wp2
          go_roundw
          case rel => exact ⟨k3 + 1, nq, _, _, rfl, rfl, by omega, by go_num, hide (HR1.out.below HB9.out), hide (HR2.out.below HB9.out), hide ⟨HSN.out.1, HSN.out.2.1⟩, HBW3.out.trans (HC9.out.mono hszo3)⟩
          case measure => simp [intOf]; omega
        have hlk4 : (k4 : Int) < (lk : Int) := by omega
        have hlk0 : (0 : Int) ≤ (k4 : Int) := by omega
        have HH4 := hide (HHAS.out k4 (by omega) w9 HB9.out)
        cases hh : hasB nq.2 (k4 : Int) with
        | false =>
          rw [hh] at HH4
          clear hh
          go_wp2_with (go_at_call 23; (with_reducible refine (HH4.out).mono ?_); rintro e w' ⟨rfl, rfl⟩)
          go_roundw
          case rel => exact ⟨k4 + 1, by omega, by go_num, by first | rfl | trivial⟩
          case measure => simp [intOf]; omega
        | true =>
          rw [hh] at HH4
          obtain ⟨bk, ok, hAk, hbk, hck, -⟩ := (HKL.out w9 (HUP.out w9 (HC3.out.trans (HC9.out.mono HC3.out.size)))).get (HSN.out.2.1 k4 hh)
          subst hAk
          have lbk : bk < w9.heap.size := by have := HC9.out.size; omega
          clear hh
          go_wp2_with (go_at_call 23; (with_reducible refine (HH4.out).mono ?_); rintro e w' ⟨rfl, rfl⟩)
          go_roundw
          case rel => exact ⟨k4 + 1, by omega, by go_num, by first | rfl | trivial⟩
          case measure => simp [intOf]; omega
end Go.Proofs.YthbbpjijmpeljaaGreatDoor
