/- The statement EdgeOnce, walked: it answers true. Condition: no slice of the program is longer than any machine's memory. -/
import Derived.Test.YtbofnlaacjgclaaPdDQ
import Derived.Deep.RegionHeld3
set_option linter.unusedSimpArgs false
set_option linter.unusedVariables false
namespace Go.Proofs.Ytbofnlaacjgclaa
open Go.RowKit

set_option maxHeartbeats 4000000 in
set_option maxRecDepth 100000 in
theorem once_law (vp : Value) (p : List FunV) (w : World) (hp : FunsV w (· < w.heap.size) vp p) (hsz : progSize p) :
    Calls Try.prog 4 #[.agg #[vp]] w fun e w' => e = .returned (.bool true) ∧ Below w.heap.size w w' := by
  have HKP := hide (fun (W : World) (hW : Below w.heap.size w W) => hp.keep (up hW (Nat.le_refl _)) (fun _ h => h))
  have HOUT := hide (fun (W : World) (hW : Below w.heap.size w W) => out13_any vp p W w.heap.size hW.size (hp.keep (up hW (Nat.le_refl _)) (fun _ h => h)) hsz)
  have HALLOK := hide (fun (h : progB4 p = true ∧ progFew p) => @eOk_of p h.1)
  obtain ⟨A, c, rfl, hpc, hpm⟩ := hp.open'
  obtain ⟨lp, hlp⟩ : ∃ lp, p.length = lp := ⟨_, rfl⟩
  have HLP := hide hlp
  rw [hlp] at HKP HOUT hpc ⊢
  clear hp hsz hlp
  go_enter Try.func4, Try.ntmps4
  go_upto_region 1 with (fail)
  obtain ⟨w0, hw0⟩ : ∃ w0, w0 = w.alloc (.cells #[.slice A lp c] 24) := ⟨_, rfl⟩
  have HX0 := hide (show Box w0 w.heap.size #[.slice A lp c] 24 by rw [hw0]; exact Box.new w _ _)
  have HB0 := hide (show Below w.heap.size w w0 by rw [hw0]; exact alloc1 w _)
  rw [← hw0]
  clear hw0
  go_upto_region 3 with (go_at_call 6; refine (alive13_any w0).mono ?_; rintro e w1 ⟨rfl, hb1⟩; have HX1 := hide (HX0.out.below hb1); have HC1 := hide (HB0.out.trans (hb1.mono HB0.out.size)); clear hb1)
  have x1 := (HX1.out.cell 0 (v := .slice A lp c) rfl).1
  have l1 := HX1.out.lt
  go_upto_region 5 with (go_at_call 7; refine (HOUT.out w1 HC1.out).mono ?_; rintro e w2 ⟨b1, rfl, hs2, hb2⟩; have HB2 := hide (HC1.out.trans (hb2.mono HC1.out.size)); have HX2 := hide (HX1.out.below hb2); have HS2 := hide hs2; clear x1 hb2 hs2)
  all_goals try (go_ret; exact ⟨rfl, HB2.out⟩)
  have hb1f : b1 = false := by first | assumption | exact Bool.eq_false_iff.2 (by assumption)
  subst hb1f
  have HPB := hide (HS2.out.out rfl)
  have HOKS := hide (HALLOK.out (HS2.out.out rfl))
  clear HOUT HALLOK HS2 HC1 HX1 l1
  have HLN := hide (show lp ≤ 100000 from by have h1 := HPB.out.1; unfold progB4 at h1; rw [Bool.and_eq_true] at h1; have := inB_iff.1 h1.1; have := HLP.out; omega)
  have HWH := hide (fun (W : World) (hW : Below w.heap.size w W) => (show Calls Try.prog 14 #[.agg #[.slice A lp c]] W (WhA p W) from ewhole_any _ p W w.heap.size hW.size (HKP.out W hW) (fun f hf => (HOKS.out f hf).sok) (by rw [HLP.out]; exact HLN.out)))
  have HW2 := hide (HWH.out w2 HB2.out)
  have x2 := (HX2.out.cell 0 (v := .slice A lp c) rfl).1
  have l2 := HX2.out.lt
  cases hall : p.all fitsB with
  | false =>
    have HALL := hide hall
    go_upto_region 6 with (go_at_call 14; (with_reducible refine HW2.out.mono ?_); rintro e w3 ⟨-, h3⟩; obtain ⟨rfl, hb3⟩ := h3 HALL.out; have HB3 := hide (HB2.out.trans (hb3.mono HB2.out.size)); clear hb3 h3)
    have HB4 := hide (fun (o : Obj) => (HB3.out.alloc HB3.out.size o : Below w.heap.size w (w3.alloc o)))
    go_wp2
    go_ret
    exact ⟨rfl, HB4.out _⟩
  | true =>
    have HALL := hide hall
    have HTW := hide (show (p.map splitF).map splitF = p.map splitF by
      rw [List.map_map]
      exact List.map_congr_left (fun f hf => split_twice (HOKS.out f hf).flow))
    have HA2 := hide (show (p.map splitF).all fitsB = true by
      rw [List.all_eq_true]
      intro f hf
      obtain ⟨f0, h0, rfl⟩ := List.mem_map.1 hf
      have h1 := split_flow (HOKS.out f0 h0).flow (List.all_eq_true.1 hall f0 h0)
      refine decide_eq_true ?_
      rw [split_none (HOKS.out f0 h0).flow]
      exact h1.1)
    have HOK2 := hide (show ∀ f ∈ p.map splitF, SOk f from fun f hf => by
      obtain ⟨f0, h0, rfl⟩ := List.mem_map.1 hf
      exact (HOKS.out f0 h0).sok.split (List.all_eq_true.1 hall f0 h0))
    have HGET := hide (fun (k : Nat) (f : FunV) (h : p[k]? = some f) => (show (p.map splitF)[k]? = some (splitF f) by rw [List.getElem?_map, h]; rfl))
    obtain ⟨q, hq⟩ : ∃ q, p.map splitF = q := ⟨_, rfl⟩
    have HQL := hide (show q.length = lp by rw [← hq, List.length_map]; exact HLP.out)
    have HW2' := hide (show Calls Try.prog 14 #[.agg #[.slice A lp c]] w2 fun e w' => ∃ v, e = .returned (.tuple #[.agg #[v], .int .i64 0]) ∧ FunsV w' (· < w'.heap.size) v q ∧ Below w2.heap.size w2 w' from HW2.out.mono (fun e w' h => by rw [← hq]; exact h.1 HALL.out))
    rw [hq] at HTW HA2 HOK2 HGET
    clear hq hall
    go_upto_region 6 with (go_at_call 14; (with_reducible refine HW2'.out.mono ?_); rintro e w3 ⟨v3, rfl, hf3, hb3⟩; obtain ⟨A1, k1, hv3, -, hm3⟩ := hf3.open'; rw [HQL.out] at hv3; subst hv3; have HF3 := hide hf3; have HB3 := hide (HB2.out.trans (hb3.mono HB2.out.size)); have HX3 := hide (HX2.out.below hb3); clear hb3 hf3)
    obtain ⟨w4, hw4⟩ : ∃ w4, w4 = w3.alloc (.cells #[.slice A1 lp k1] 24) := ⟨_, rfl⟩
    obtain ⟨h3, hh3⟩ : ∃ h3, w3.heap.size = h3 := ⟨_, rfl⟩
    have HY4 := hide (show Box w4 h3 #[.slice A1 lp k1] 24 by rw [hw4, ← hh3]; exact Box.new w3 _ _)
    have HB4 := hide (show Below w.heap.size w w4 by rw [hw4]; exact HB3.out.alloc HB3.out.size _)
    have HX4 := hide (show Box w4 w.heap.size #[.slice A lp c] 24 by rw [hw4]; exact HX3.out.alloc _)
    have HF4 := hide (show FunsV w4 (· < w4.heap.size) (.slice A1 lp k1) q by rw [hw4]; exact HF3.out.keep (up (alloc1 w3 _) (Nat.le_refl _)) (fun b hb => by simp only [World.size_alloc]; omega))
    rw [← hw4, hh3]
    clear hw4 hh3 x2
    have HW4 := hide (show Calls Try.prog 14 #[.agg #[.slice A1 lp k1]] w4 fun e w' => ∃ v, e = .returned (.tuple #[.agg #[v], .int .i64 0]) ∧ FunsV w' (· < w'.heap.size) v q ∧ Below w4.heap.size w4 w' from (ewhole_any _ q w4 w4.heap.size (Nat.le_refl _) HF4.out HOK2.out (by rw [HQL.out]; exact HLN.out)).mono (fun e w' h => by have t := h.1 HA2.out; rw [HTW.out] at t; exact t))
    have y4 := (HY4.out.cell 0 (v := .slice A1 lp k1) rfl).1
    have ly4 := HY4.out.lt
    go_upto_region 9 with (go_at_call 14; (with_reducible refine HW4.out.mono ?_); rintro e w5 ⟨v5, rfl, hf5, hb5⟩; obtain ⟨A2, k2, hv5, -, hm5⟩ := hf5.open'; rw [HQL.out] at hv5; subst hv5; have HF5 := hide hf5; have HC5 := hide hb5; clear hb5 hf5 y4)
    obtain ⟨w6, hw6⟩ : ∃ w6, w6 = w5.alloc (.cells #[.slice A2 lp k2] 24) := ⟨_, rfl⟩
    obtain ⟨h5, hh5⟩ : ∃ h5, w5.heap.size = h5 := ⟨_, rfl⟩
    have HZ6 := hide (show Box w6 h5 #[.slice A2 lp k2] 24 by rw [hw6, ← hh5]; exact Box.new w5 _ _)
    have HC6 := hide (show Below w4.heap.size w4 w6 by rw [hw6]; exact HC5.out.alloc HC5.out.size _)
    have HF6 := hide (show FunsV w6 (· < w6.heap.size) (.slice A2 lp k2) q by rw [hw6]; exact HF5.out.keep (up (alloc1 w5 _) (Nat.le_refl _)) (fun b hb => by simp only [World.size_alloc]; omega))
    rw [← hw6, hh5]
    clear hw6 hh5
    have HFQ := hide (fun (W : World) (hW : Below w4.heap.size w4 W) => (HF4.out.keep (up hW (Nat.le_refl _)) (fun _ h => h) : FunsV W (· < w4.heap.size) (.slice A1 lp k1) q))
    have HSM := hide (show Calls Try.prog 16 #[.agg #[.slice A1 lp k1], .agg #[.slice A2 lp k2]] w6 fun e w' => e = .returned (.bool true) ∧ Below w6.heap.size w6 w' by
      have h := rsame_any (.slice A1 lp k1) (.slice A2 lp k2) q q w6 w6.heap.size (Nat.le_refl _) ((HFQ.out w6 HC6.out).keep (fun _ _ _ => rfl) (fun b hb => Nat.lt_of_lt_of_le hb HC6.out.size)) HF6.out
      rw [show decide (q = q) = true from decide_eq_true rfl] at h
      exact h)
    have y6 := ((HY4.out.below HC6.out).cell 0 (v := .slice A1 lp k1) rfl).1
    have z6 := (HZ6.out.cell 0 (v := .slice A2 lp k2) rfl).1
    have ly6 := (HY4.out.below HC6.out).lt
    have lz6 := HZ6.out.lt
    go_upto_region 11 with (go_at_call 16; (with_reducible refine HSM.out.mono ?_); rintro e w7 ⟨rfl, hb7⟩; have HC7 := hide (HC6.out.trans (hb7.mono HC6.out.size)); clear hb7 y6 z6)
    have HX7 := hide (HX4.out.below HC7.out)
    have HY7 := hide (HY4.out.below HC7.out)
    have HB7 := hide (HB4.out.trans (HC7.out.mono HB4.out.size))
    go_wp2
    go_loopw [7] (fun i wr => ∃ k : Nat, k ≤ lp ∧ i = .int .i64 (k : Int) ∧ Below w7.heap.size w7 wr) (fun i _ => lp - (intOf i).toNat)
    case atStart => exact ⟨0, Nat.zero_le _, rfl, Below.refl _ _⟩
    case round =>
      obtain ⟨k, hk, rfl, hb'⟩ := hrel
      obtain ⟨wo, rfl⟩ : ∃ wo, wo = wr := ⟨_, rfl⟩
      have hszo := hb'.size
      have HBW := hide hb'
      have HBEL := hide (HB7.out.trans (hb'.mono HB7.out.size))
      have HCO := hide (HC7.out.trans (hb'.mono HC7.out.size))
      have HXO := hide (HX7.out.below hb')
      have HYO := hide (HY7.out.below hb')
      have lxp := HXO.out.lt
      have lyp := HYO.out.lt
      clear hb'
      by_cases hlt : k < lp
      case neg =>
        have xp := (HXO.out.cell 0 (v := .slice A lp c) rfl).1
        go_wp2
        go_ret
        exact ⟨rfl, HBEL.out⟩
      have HKLT := hide hlt
      obtain ⟨f, hf⟩ : ∃ f, p[k]? = some f := ⟨_, List.getElem?_eq_getElem (by have := HLP.out; omega)⟩
      have HLF := hide (HOKS.out f (List.mem_of_getElem? hf))
      obtain ⟨b, o, Ak, ck, Ab, cb, As, cs, hA, hbb, ⟨e0, e1, e2, e3, e4⟩, hi⟩ := (HKP.out wo HBEL.out).get hf
      obtain ⟨b1, o1, Bk, dk, Bb, db, Bs, ds, hA1, hbb1, ⟨g0, g1, g2, g3, g4⟩, hj⟩ := (HFQ.out wo HCO.out).get (HGET.out k f hf)
      subst hA
      subst hA1
      have hbs : b < wo.heap.size := by have := HBEL.out.size; omega
      have hbs1 : b1 < wo.heap.size := by have := HCO.out.size; omega
      have HCR := hide (fun (W : World) (hW : Below wo.heap.size wo W) => ecritical_any _ _ _ f W w.heap.size (by have := hW.size; have := HBEL.out.size; omega) (hi.keep (w := wo) (S := (· < w.heap.size)) (up hW HBEL.out.size) (fun _ h => h)) HLF.out.flow HLF.out.one)
      obtain ⟨cn, hcn⟩ : ∃ cn, (critN f).length = cn := ⟨_, rfl⟩
      obtain ⟨fg, hfg⟩ : ∃ fg, splitF f = fg := ⟨_, rfl⟩
      have HEQ := hide (show cn = 0 → f = fg from fun h => by rw [← hfg, splitF_id (List.length_eq_zero_iff.1 (hcn.trans h))])
      rw [hfg] at g0 g1 g2 g3 g4 hj
      have HSF := hide (fun (h : f = fg) (W : World) (hW : Below wo.heap.size wo W) => (rsameFunc_any _ _ _ _ _ _ f fg W wo.heap.size hW.size (hi.keep (w := wo) (S := (· < w.heap.size)) (up hW HBEL.out.size) (fun b hb => Nat.lt_of_lt_of_le hb HBEL.out.size)) (hj.keep (w := wo) (S := (· < w4.heap.size)) (up hW HCO.out.size) (fun b hb => Nat.lt_of_lt_of_le hb HCO.out.size))).mono (R' := fun e w' => e = .returned (.bool true) ∧ Below W.heap.size W w') (fun e w' q => by rw [decide_eq_true h] at q; exact q))
      unfold CritA at HCR
      rw [hcn] at HCR
      clear hi hj hf hcn hfg
      generalize f.kinds.length = lk, f.base.length = lb, f.params = fp, f.result = fr, f.blocks.length = ls at *
      generalize fg.kinds.length = gk, fg.base.length = gb, fg.params = gp, fg.result = gr, fg.blocks.length = gl at *
      have HKO := hide (fun (W : World) (hW : Below wo.heap.size wo W) => And.intro (And.intro ((HXO.out.below hW).cell 0 (v := .slice (some ⟨b, o, none⟩) lp c) rfl).1 ((HYO.out.below hW).cell 0 (v := .slice (some ⟨b1, o1, none⟩) lp k1) rfl).1)
        (And.intro (And.intro ((hW.cell (p := ⟨b, o + k * 5, none⟩) hbs).trans e0) (And.intro ((hW.cell (p := ⟨b, o + k * 5 + 1, none⟩) hbs).trans e1) (And.intro ((hW.cell (p := ⟨b, o + k * 5 + 2, none⟩) hbs).trans e2) (And.intro ((hW.cell (p := ⟨b, o + k * 5 + 3, none⟩) hbs).trans e3) ((hW.cell (p := ⟨b, o + k * 5 + 4, none⟩) hbs).trans e4)))))
        (And.intro ((hW.cell (p := ⟨b1, o1 + k * 5, none⟩) hbs1).trans g0) (And.intro ((hW.cell (p := ⟨b1, o1 + k * 5 + 1, none⟩) hbs1).trans g1) (And.intro ((hW.cell (p := ⟨b1, o1 + k * 5 + 2, none⟩) hbs1).trans g2) (And.intro ((hW.cell (p := ⟨b1, o1 + k * 5 + 3, none⟩) hbs1).trans g3) ((hW.cell (p := ⟨b1, o1 + k * 5 + 4, none⟩) hbs1).trans g4)))))))
      have hki : (0 : Int) ≤ (k : Int) := by omega
      have hkl : (k : Int) < (lp : Int) := by omega
      clear e0 e1 e2 e3 e4 g0 g1 g2 g3 g4
      obtain ⟨⟨xp, yp⟩, ⟨e0, e1, e2, e3, e4⟩, ⟨g0, g1, g2, g3, g4⟩⟩ := HKO.out wo (Below.refl _ _)
      go_upto_region 14 with (fail)
      by_cases hc0 : cn = 0
      · have HFE := hide (HSF.out (HEQ.out hc0))
        subst hc0
        go_region_held3 (fun w' => (w'.cell? ⟨w.heap.size, 0, none⟩ = some (.slice (some ⟨b, o, none⟩) lp c) ∧ w'.cell? ⟨h3, 0, none⟩ = some (.slice (some ⟨b1, o1, none⟩) lp k1)) ∧ (w'.cell? ⟨b, o + k * 5, none⟩ = some (.slice Ak lk ck) ∧ w'.cell? ⟨b, o + k * 5 + 1, none⟩ = some (.slice Ab lb cb) ∧ w'.cell? ⟨b, o + k * 5 + 2, none⟩ = some (.int .i64 fp) ∧ w'.cell? ⟨b, o + k * 5 + 3, none⟩ = some (.int .i64 fr) ∧ w'.cell? ⟨b, o + k * 5 + 4, none⟩ = some (.slice As ls cs)) ∧ (w'.cell? ⟨b1, o1 + k * 5, none⟩ = some (.slice Bk gk dk) ∧ w'.cell? ⟨b1, o1 + k * 5 + 1, none⟩ = some (.slice Bb gb db) ∧ w'.cell? ⟨b1, o1 + k * 5 + 2, none⟩ = some (.int .i64 gp) ∧ w'.cell? ⟨b1, o1 + k * 5 + 3, none⟩ = some (.int .i64 gr) ∧ w'.cell? ⟨b1, o1 + k * 5 + 4, none⟩ = some (.slice Bs gl ds))) (first | go_keep | (exact q7) | (exact q6))
          (first
            | (go_at_call 13; (with_reducible refine (HFE.out w6_ HC6_.out).mono ?_); rintro e w7_ ⟨rfl, hb⟩; have hc7 := HC6_.out.trans (hb.mono HC6_.out.size); have q7 := HKO.out w7_ hc7; have HC7_ := hide hc7; clear hb hc7)
            | (go_at_call 11; refine (HCR.out _ (below_drewN (Below.refl _ _) 1)).mono ?_; rintro e w6_ ⟨A6, k6, rfl, -, -, -, -, hb⟩; have hc6 : Below wo.heap.size wo w6_ := ⟨hb.os, hb.tape, hb.output, hb.size, hb.block⟩; have q6 := HKO.out w6_ hc6; have HC6_ := hide hc6; clear hb hc6))
        all_goals
          go_wp2
          go_roundw
          case rel => exact ⟨k + 1, by have := HKLT.out; omega, by go_num, HBW.out.trans (HC7_.out.mono hszo)⟩
          case measure => have := HKLT.out; simp [intOf]; omega
      · have hcn0 : ((cn : Int) == 0) = false := by simp; omega
        have hcn1 : ¬ (cn : Int) = 0 := by omega
        refine wp_region_held_drew (S := (fun w' => (w'.cell? ⟨w.heap.size, 0, none⟩ = some (.slice (some ⟨b, o, none⟩) lp c) ∧ w'.cell? ⟨h3, 0, none⟩ = some (.slice (some ⟨b1, o1, none⟩) lp k1)) ∧ (w'.cell? ⟨b, o + k * 5, none⟩ = some (.slice Ak lk ck) ∧ w'.cell? ⟨b, o + k * 5 + 1, none⟩ = some (.slice Ab lb cb) ∧ w'.cell? ⟨b, o + k * 5 + 2, none⟩ = some (.int .i64 fp) ∧ w'.cell? ⟨b, o + k * 5 + 3, none⟩ = some (.int .i64 fr) ∧ w'.cell? ⟨b, o + k * 5 + 4, none⟩ = some (.slice As ls cs)) ∧ (w'.cell? ⟨b1, o1 + k * 5, none⟩ = some (.slice Bk gk dk) ∧ w'.cell? ⟨b1, o1 + k * 5 + 1, none⟩ = some (.slice Bb gb db) ∧ w'.cell? ⟨b1, o1 + k * 5 + 2, none⟩ = some (.int .i64 gp) ∧ w'.cell? ⟨b1, o1 + k * 5 + 3, none⟩ = some (.int .i64 gr) ∧ w'.cell? ⟨b1, o1 + k * 5 + 4, none⟩ = some (.slice Bs gl ds)))) (by kernel_rfl) ⟨⟨xp, yp⟩, ⟨e0, e1, e2, e3, e4⟩, ⟨g0, g1, g2, g3, g4⟩⟩ (fun hHeld => ?_)
        refine wpAnyH_take (i := 0) (v := ?_) rfl (by kernel_rfl) (by kernel_rfl) (by kernel_rfl) (fun _ _ _ h => h) (Or.inl ⟨by rfl, ?_⟩) (by assumption) ?_
        rotate_left
        focus
          intro w hSw
          try dsimp only at hSw
          go_simp
          try with_reducible rfl
        try simp only [List.getElem_toArray, List.getElem_cons_succ, List.getElem_cons_zero, Act.put, List.setIfInBounds_toArray, List.set_cons_zero, List.set_cons_succ]
        refine wpAnyH_take (i := 1) (v := ?_) rfl (by kernel_rfl) (by kernel_rfl) (by kernel_rfl) (fun _ _ _ h => h) (Or.inl ⟨by rfl, ?_⟩) (by assumption) ?_
        rotate_left
        focus
          intro w hSw
          try dsimp only at hSw
          go_simp
          try with_reducible rfl
        try simp only [List.getElem_toArray, List.getElem_cons_succ, List.getElem_cons_zero, Act.put, List.setIfInBounds_toArray, List.set_cons_zero, List.set_cons_succ]
        refine wpAnyH_take (i := 2) (v := ?_) rfl (by kernel_rfl) (by kernel_rfl) (by kernel_rfl) (fun _ _ _ h => h) (Or.inl ⟨by rfl, ?_⟩) (by assumption) ?_
        rotate_left
        focus
          intro w hSw
          try dsimp only at hSw
          go_simp
          try with_reducible rfl
        try simp only [List.getElem_toArray, List.getElem_cons_succ, List.getElem_cons_zero, Act.put, List.setIfInBounds_toArray, List.set_cons_zero, List.set_cons_succ]
        refine wpAnyH_take (i := 3) (v := ?_) rfl (by kernel_rfl) (by kernel_rfl) (by kernel_rfl) (fun _ _ _ h => h) (Or.inl ⟨by rfl, ?_⟩) (by assumption) ?_
        rotate_left
        focus
          intro w hSw
          try dsimp only at hSw
          go_simp
          try with_reducible rfl
        try simp only [List.getElem_toArray, List.getElem_cons_succ, List.getElem_cons_zero, Act.put, List.setIfInBounds_toArray, List.set_cons_zero, List.set_cons_succ]
        refine wpAnyH_take (i := 4) (v := ?_) rfl (by kernel_rfl) (by kernel_rfl) (by kernel_rfl) (fun _ _ _ h => h) (Or.inl ⟨by rfl, ?_⟩) (by assumption) ?_
        rotate_left
        focus
          intro w hSw
          try dsimp only at hSw
          go_simp
          try with_reducible rfl
        try simp only [List.getElem_toArray, List.getElem_cons_succ, List.getElem_cons_zero, Act.put, List.setIfInBounds_toArray, List.set_cons_zero, List.set_cons_succ]
        refine wpAnyH_ready (rs := [5]) (by kernel_rfl) (by simp) ?_
        refine AllReadyH.cons rfl (fun K hK => ?_) AllReadyH.nil
        rw [if_pos (by rfl)]
        go_simp
        go_at_call 11
        refine (HCR.out _ (below_drewN (Below.refl _ _) 1)).mono ?_
        rintro e w6_ ⟨A6, k6, rfl, -, -, -, -, hb⟩
        have hc6 : Below wo.heap.size wo w6_ := ⟨hb.os, hb.tape, hb.output, hb.size, hb.block⟩
        have q6 := HKO.out w6_ hc6
        have HC6_ := hide hc6
        clear hb hc6 hHeld
        try go_wp2_with fail
        refine hK.out _ _ q6 (fun hHeld => ?_)
        clear hK K
        try simp only [List.getElem_toArray, List.getElem_cons_succ, List.getElem_cons_zero, Act.put, List.setIfInBounds_toArray, List.set_cons_zero, List.set_cons_succ]
        refine wpAnyH_take (i := 6) (v := ?_) rfl (by kernel_rfl) (by kernel_rfl) (by kernel_rfl) (fun _ _ _ h => h) (Or.inl ⟨by rfl, ?_⟩) (by assumption) ?_
        rotate_left
        focus
          intro w hSw
          try dsimp only at hSw
          go_simp
          try with_reducible rfl
        try simp only [List.getElem_toArray, List.getElem_cons_succ, List.getElem_cons_zero, Act.put, List.setIfInBounds_toArray, List.set_cons_zero, List.set_cons_succ]
        refine wpAnyH_take (i := 7) (v := ?_) rfl (by kernel_rfl) (by kernel_rfl) (by kernel_rfl) (fun _ _ _ h => h) (Or.inl ⟨by rfl, ?_⟩) (by assumption) ?_
        rotate_left
        focus
          intro w hSw
          try dsimp only at hSw
          go_simp
          try with_reducible rfl
        try simp only [List.getElem_toArray, List.getElem_cons_succ, List.getElem_cons_zero, Act.put, List.setIfInBounds_toArray, List.set_cons_zero, List.set_cons_succ]
        refine wpAnyH_take (i := 8) (v := ?_) rfl (by kernel_rfl) (by kernel_rfl) (by kernel_rfl) (fun _ _ _ h => h) (Or.inl ⟨by rfl, ?_⟩) (by assumption) ?_
        rotate_left
        focus
          intro w hSw
          try dsimp only at hSw
          go_simp
          try with_reducible rfl
        try simp only [List.getElem_toArray, List.getElem_cons_succ, List.getElem_cons_zero, Act.put, List.setIfInBounds_toArray, List.set_cons_zero, List.set_cons_succ]
        refine wpAnyH_take (i := 9) (v := undef) rfl (by kernel_rfl) (by kernel_rfl) (by kernel_rfl) (fun _ _ _ h => h) (Or.inr ⟨by rfl, rfl⟩) (by assumption) ?_
        try simp only [List.getElem_toArray, List.getElem_cons_succ, List.getElem_cons_zero, Act.put, List.setIfInBounds_toArray, List.set_cons_zero, List.set_cons_succ]
        refine wpAnyH_take (i := 10) (v := undef) rfl (by kernel_rfl) (by kernel_rfl) (by kernel_rfl) (fun _ _ _ h => h) (Or.inr ⟨by rfl, rfl⟩) (by assumption) ?_
        try simp only [List.getElem_toArray, List.getElem_cons_succ, List.getElem_cons_zero, Act.put, List.setIfInBounds_toArray, List.set_cons_zero, List.set_cons_succ]
        refine wpAnyH_take (i := 11) (v := undef) rfl (by kernel_rfl) (by kernel_rfl) (by kernel_rfl) (fun _ _ _ h => h) (Or.inr ⟨by rfl, rfl⟩) (by assumption) ?_
        try simp only [List.getElem_toArray, List.getElem_cons_succ, List.getElem_cons_zero, Act.put, List.setIfInBounds_toArray, List.set_cons_zero, List.set_cons_succ]
        refine wpAnyH_take (i := 12) (v := undef) rfl (by kernel_rfl) (by kernel_rfl) (by kernel_rfl) (fun _ _ _ h => h) (Or.inr ⟨by rfl, rfl⟩) (by assumption) ?_
        try simp only [List.getElem_toArray, List.getElem_cons_succ, List.getElem_cons_zero, Act.put, List.setIfInBounds_toArray, List.set_cons_zero, List.set_cons_succ]
        refine wpAnyH_take (i := 13) (v := undef) rfl (by kernel_rfl) (by kernel_rfl) (by kernel_rfl) (fun _ _ _ h => h) (Or.inr ⟨by rfl, rfl⟩) (by assumption) ?_
        try simp only [List.getElem_toArray, List.getElem_cons_succ, List.getElem_cons_zero, Act.put, List.setIfInBounds_toArray, List.set_cons_zero, List.set_cons_succ]
        refine wpAnyH_take (i := 14) (v := undef) rfl (by kernel_rfl) (by kernel_rfl) (by kernel_rfl) (fun _ _ _ h => h) (Or.inr ⟨by rfl, rfl⟩) (by assumption) ?_
        try simp only [List.getElem_toArray, List.getElem_cons_succ, List.getElem_cons_zero, Act.put, List.setIfInBounds_toArray, List.set_cons_zero, List.set_cons_succ]
        refine wpAnyH_take (i := 15) (v := undef) rfl (by kernel_rfl) (by kernel_rfl) (by kernel_rfl) (fun _ _ _ h => h) (Or.inr ⟨by rfl, rfl⟩) (by assumption) ?_
        try simp only [List.getElem_toArray, List.getElem_cons_succ, List.getElem_cons_zero, Act.put, List.setIfInBounds_toArray, List.set_cons_zero, List.set_cons_succ]
        refine wpAnyH_take (i := 16) (v := undef) rfl (by kernel_rfl) (by kernel_rfl) (by kernel_rfl) (fun _ _ _ h => h) (Or.inr ⟨by rfl, rfl⟩) (by assumption) ?_
        try simp only [List.getElem_toArray, List.getElem_cons_succ, List.getElem_cons_zero, Act.put, List.setIfInBounds_toArray, List.set_cons_zero, List.set_cons_succ]
        refine wpAnyH_take (i := 17) (v := undef) rfl (by kernel_rfl) (by kernel_rfl) (by kernel_rfl) (fun _ _ _ h => h) (Or.inr ⟨by rfl, rfl⟩) (by assumption) ?_
        try simp only [List.getElem_toArray, List.getElem_cons_succ, List.getElem_cons_zero, Act.put, List.setIfInBounds_toArray, List.set_cons_zero, List.set_cons_succ]
        refine wpAnyH_take (i := 18) (v := undef) rfl (by kernel_rfl) (by kernel_rfl) (by kernel_rfl) (fun _ _ _ h => h) (Or.inr ⟨by rfl, rfl⟩) (by assumption) ?_
        try simp only [List.getElem_toArray, List.getElem_cons_succ, List.getElem_cons_zero, Act.put, List.setIfInBounds_toArray, List.set_cons_zero, List.set_cons_succ]
        refine wpAnyH_take (i := 19) (v := undef) rfl (by kernel_rfl) (by kernel_rfl) (by kernel_rfl) (fun _ _ _ h => h) (Or.inr ⟨by rfl, rfl⟩) (by assumption) ?_
        try simp only [List.getElem_toArray, List.getElem_cons_succ, List.getElem_cons_zero, Act.put, List.setIfInBounds_toArray, List.set_cons_zero, List.set_cons_succ]
        refine wpAnyH_take (i := 20) (v := undef) rfl (by kernel_rfl) (by kernel_rfl) (by kernel_rfl) (fun _ _ _ h => h) (Or.inr ⟨by rfl, rfl⟩) (by assumption) ?_
        try simp only [List.getElem_toArray, List.getElem_cons_succ, List.getElem_cons_zero, Act.put, List.setIfInBounds_toArray, List.set_cons_zero, List.set_cons_succ]
        refine wpAnyH_take (i := 21) (v := ?_) rfl (by kernel_rfl) (by kernel_rfl) (by kernel_rfl) (fun _ _ _ h => h) (Or.inl ⟨by rfl, ?_⟩) (by assumption) ?_
        rotate_left
        focus
          intro w hSw
          try dsimp only at hSw
          go_simp
          try with_reducible rfl
        try simp only [List.getElem_toArray, List.getElem_cons_succ, List.getElem_cons_zero, Act.put, List.setIfInBounds_toArray, List.set_cons_zero, List.set_cons_succ]
        refine wpAnyH_done (by kernel_rfl) ?_ _
        all_goals
          go_wp2
          go_roundw
          case rel => exact ⟨k + 1, by have := HKLT.out; omega, by go_num, HBW.out.trans (HC6_.out.mono hszo)⟩
          case measure => have := HKLT.out; simp [intOf]; omega
end Go.Proofs.Ytbofnlaacjgclaa
