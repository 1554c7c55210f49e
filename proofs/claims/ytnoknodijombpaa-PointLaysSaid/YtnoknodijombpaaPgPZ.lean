/- The statement PointLays, walked: it answers true. Condition: no slice of the program is longer than any machine's memory. -/
import Derived.Test.YtnoknodijombpaaPgPT
import Derived.Test.YtnoknodijombpaaPgLB
import Derived.Test.YtnoknodijombpaaPgPY
import Derived.Test.YtnoknodijombpaaPgDW
set_option linter.unusedSimpArgs false
set_option linter.unusedVariables false
namespace Go.Proofs.Ytnoknodijombpaa
open Go.RowKit

noncomputable def outLF (f : FunV) : FunV := if fitsL f = true then layF f else zeroF
noncomputable def outLP (p : List FunV) : List FunV := if p.all fitsL = true then p.map layF else []
def OutLA (f : FunV) (w : World) (e : Ending) (w' : World) : Prop := ∃ A1 k1 A2 k2 A3 k3, e = .returned (.tuple #[.agg #[.slice A1 (outLF f).kinds.length k1, .slice A2 (outLF f).base.length k2, .int .i64 (outLF f).params, .int .i64 (outLF f).result, .slice A3 (outLF f).blocks.length k3], .int .i64 (outE (fitsL f))]) ∧ FunI w' (· < w'.heap.size) (.slice A1 (outLF f).kinds.length k1) (.slice A2 (outLF f).base.length k2) (.slice A3 (outLF f).blocks.length k3) (outLF f) ∧ Below w.heap.size w w'
theorem LayA.out {f : FunV} {w w' : World} {e : Ending} (h : LayA f w e w') : OutLA f w e w' := by
  unfold OutLA outLF outE
  by_cases hf : fitsL f = true
  · rw [if_pos hf, if_pos hf]
    obtain ⟨v1, v2, v3, h1, h2, h6⟩ := h.1 hf
    have hF : FunI w' (· < w'.heap.size) v1 v2 v3 (layF f) := h2.keep (fun _ _ _ => rfl) (fun b hb => hb.lt)
    obtain ⟨A1, k1, e1, -, -⟩ := hF.1.open'
    obtain ⟨A2, k2, e2, -, -⟩ := hF.2.1.open'
    obtain ⟨A3, k3, e3, -, -⟩ := hF.2.2.1.open'
    subst e1; subst e2; subst e3
    exact ⟨A1, k1, A2, k2, A3, k3, h1, hF, h6⟩
  · rw [if_neg hf, if_neg hf]
    obtain ⟨h1, h2⟩ := h.2 (Bool.eq_false_iff.2 hf)
    exact ⟨none, 0, none, 0, none, 0, h1, zero_funI _ _, h2⟩
def OutLW (p : List FunV) (w : World) (e : Ending) (w' : World) : Prop := ∃ A k, e = .returned (.tuple #[.agg #[.slice A (outLP p).length k], .int .i64 (outE (p.all fitsL))]) ∧ FunsV w' (· < w'.heap.size) (.slice A (outLP p).length k) (outLP p) ∧ Below w.heap.size w w'
theorem WhLA.out {p : List FunV} {w w' : World} {e : Ending} (h : WhLA p w e w') : OutLW p w e w' := by
  unfold OutLW outLP outE
  by_cases hf : p.all fitsL = true
  · rw [if_pos hf, if_pos hf]
    obtain ⟨v, h1, h2, h3⟩ := h.1 hf
    obtain ⟨A, k, e1, -, -⟩ := h2.open'
    subst e1
    exact ⟨A, k, h1, h2, h3⟩
  · rw [if_neg hf, if_neg hf]
    obtain ⟨h1, h2⟩ := h.2 (Bool.eq_false_iff.2 hf)
    exact ⟨none, 0, h1, Vec.nil _ _ _, h2⟩
set_option maxHeartbeats 4000000 in
set_option maxRecDepth 100000 in
theorem lays_law (vp : Value) (p : List FunV) (w : World) (hp : FunsV w (· < w.heap.size) vp p) (hsz : progSize p) :
    Calls Try.prog 4 #[.agg #[vp]] w fun e w' => e = .returned (.bool true) ∧ Below w.heap.size w w' := by
  have HKP := hide (fun (W : World) (hW : Below w.heap.size w W) => hp.keep (up hW (Nat.le_refl _)) (fun _ h => h))
  have HOUT := hide (fun (W : World) (hW : Below w.heap.size w W) => out14_any vp p W w.heap.size hW.size (hp.keep (up hW (Nat.le_refl _)) (fun _ h => h)) hsz)
  have HALLOK := hide (fun (h : progB4 p = true) => @eOk_of p h)
  obtain ⟨A, c, rfl, hpc, hpm⟩ := hp.open'
  obtain ⟨lp, hlp⟩ : ∃ lp, p.length = lp := ⟨_, rfl⟩
  have HLP := hide hlp
  rw [hlp] at HKP HOUT hpc ⊢
  clear hp hsz hlp
  go_enter Try.func4, Try.ntmps4
  go_upto_region 1 with (fail)
  obtain ⟨w0, hw0⟩ : ∃ w0, w0 = w.alloc (.cells #[.slice A lp c] 24) := ⟨_, rfl⟩
  have HX0 := hide (show Box w0 w.heap.size #[.slice A lp c] 24 by rw [hw0]; exact Box.new w _ _)
  have HB0 := hide (show Below w.heap.size w w0 by rw [hw0]; exact alloc1 w _)
  rw [← hw0]
  clear hw0
  go_upto_region 3 with (go_at_call 18; refine (alive14_any w0).mono ?_; rintro e w1 ⟨rfl, hb1⟩; have HX1 := hide (HX0.out.below hb1); have HC1 := hide (HB0.out.trans (hb1.mono HB0.out.size)); clear hb1)
  have x1 := (HX1.out.cell 0 (v := .slice A lp c) rfl).1
  have l1 := HX1.out.lt
  go_upto_region 5 with (go_at_call 19; refine (HOUT.out w1 HC1.out).mono ?_; rintro e w2 ⟨b1, rfl, hs2, hb2⟩; have HB2 := hide (HC1.out.trans (hb2.mono HC1.out.size)); have HX2 := hide (HX1.out.below hb2); have HS2 := hide hs2; clear x1 hb2 hs2)
  all_goals try (go_ret; exact ⟨rfl, HB2.out⟩)
  have hb1f : b1 = false := by first | assumption | exact Bool.eq_false_iff.2 (by assumption)
  subst hb1f
  have HPB := hide (HS2.out.out rfl)
  have HOKS := hide (HALLOK.out (HS2.out.out rfl))
  clear HOUT HALLOK HS2 HC1 HX1 l1
  have HLN := hide (show lp ≤ 100000 from by have h1 := HPB.out; unfold progB4 at h1; rw [Bool.and_eq_true] at h1; have := inB_iff.1 h1.1; have := HLP.out; omega)
  have HRS := hide (fun (f : FunV) (hf : f ∈ p) (W : World) (vk vb vs : Value) (B : Nat) (hB : B ≤ W.heap.size) (hi : FunI W (· < B) vk vb vs f) => rlay_of vk vb vs f W B hB hi (HOKS.out f hf).sok (fun W vk vb vs B hB hi => rsplit_of vk vb vs f W B hB hi (HOKS.out f hf).sok.flow (HOKS.out f hf).sok.one (HOKS.out f hf).sok.kinds (HOKS.out f hf).sok.bl (HOKS.out f hf).sok.code (fun W' hW' => rcopyF_any vk vb vs f W' B (by have := hW'.size; omega) (hi.keep (up hW' hB) (fun _ h => h)) (HOKS.out f hf).sok.kinds (HOKS.out f hf).sok.bl (by have := (HOKS.out f hf).sok.flow.1; omega) (fun l hl => ⟨((HOKS.out f hf).sok.code l hl).2.1, ((HOKS.out f hf).sok.code l hl).2.2⟩))))
  obtain ⟨q, hq⟩ : ∃ q, outLP p = q := ⟨_, rfl⟩
  obtain ⟨ql, hql⟩ : ∃ ql, q.length = ql := ⟨_, rfl⟩
  obtain ⟨en, hen⟩ : ∃ en, outE (p.all fitsL) = en := ⟨_, rfl⟩
  have HW1 := hide (fun (W : World) (hW : Below w.heap.size w W) => (show Calls Try.prog 22 #[.agg #[.slice A lp c]] W fun e w' => ∃ A k, e = .returned (.tuple #[.agg #[.slice A ql k], .int .i64 en]) ∧ FunsV w' (· < w'.heap.size) (.slice A ql k) q ∧ Below W.heap.size W w' from (pwhole_any _ p W w.heap.size hW.size (HKP.out W hW) (fun f hf => (HOKS.out f hf).sok) (by rw [HLP.out]; exact HLN.out)).mono (fun e w' h => by have t := h.out; unfold OutLW at t; rw [hq, hen, hql] at t; exact t)))
  have HW2 := hide (fun (W : World) (hW : Below w.heap.size w W) => (show Calls Try.prog 23 #[.agg #[.slice A lp c]] W fun e w' => ∃ A k, e = .returned (.tuple #[.agg #[.slice A ql k], .int .i64 en]) ∧ FunsV w' (· < w'.heap.size) (.slice A ql k) q ∧ Below W.heap.size W w' from (rwholeL_of _ p W w.heap.size hW.size (HKP.out W hW) HRS.out (by rw [HLP.out]; exact HLN.out)).mono (fun e w' h => by have t := h.out; unfold OutLW at t; rw [hq, hen, hql] at t; exact t)))
  have HSM := hide (fun (A1 A2 : Option Addr) (k1 k2 : Nat) (W : World) (h1 : FunsV W (· < W.heap.size) (.slice A1 ql k1) q) (h2 : FunsV W (· < W.heap.size) (.slice A2 ql k2) q) => (show Calls Try.prog 17 #[.agg #[.slice A1 ql k1], .agg #[.slice A2 ql k2]] W fun e w' => e = .returned (.bool true) ∧ Below W.heap.size W w' by
    have h := rsame_any (.slice A1 ql k1) (.slice A2 ql k2) q q W W.heap.size (Nat.le_refl _) h1 h2
    rw [show decide (q = q) = true from decide_eq_true rfl] at h
    exact h))
  clear hq hql hen
  go_wp2
  go_loopw [3] (fun i wr => ∃ k : Nat, k ≤ lp ∧ i = .int .i64 (k : Int) ∧ Below w2.heap.size w2 wr) (fun i _ => lp - (intOf i).toNat)
  case atStart => exact ⟨0, Nat.zero_le _, rfl, Below.refl _ _⟩
  case round =>
    obtain ⟨k, hk, rfl, hb'⟩ := hrel
    obtain ⟨wo, rfl⟩ : ∃ wo, wo = wr := ⟨_, rfl⟩
    have hszo := hb'.size
    have HBEL := hide (HB2.out.trans (hb'.mono HB2.out.size))
    have HXO := hide (HX2.out.below hb')
    have HBW := hide hb'
    have xp := (HXO.out.cell 0 (v := .slice A lp c) rfl).1
    have lxp := HXO.out.lt
    clear hb'
    by_cases hlt : k < lp
    case neg =>
      go_upto_region 13 with (go_at_call 22; (with_reducible refine (HW1.out wo HBEL.out).mono ?_); rintro e w3 ⟨A1, k1, rfl, hf3, hb3⟩; have HF3 := hide hf3; have HB3 := hide hb3; clear hb3 hf3 xp lxp)
      obtain ⟨w4, hw4⟩ : ∃ w4, w4 = w3.alloc (.cells #[.slice A1 ql k1] 24) := ⟨_, rfl⟩
      obtain ⟨h3, hh3⟩ : ∃ h3, w3.heap.size = h3 := ⟨_, rfl⟩
      have HY4 := hide (show Box w4 h3 #[.slice A1 ql k1] 24 by rw [hw4, ← hh3]; exact Box.new w3 _ _)
      have HC4 := hide (show Below wo.heap.size wo w4 by rw [hw4]; exact HB3.out.alloc HB3.out.size _)
      have HF4 := hide (show FunsV w4 (· < w4.heap.size) (.slice A1 ql k1) q by rw [hw4]; exact HF3.out.keep (up (alloc1 w3 _) (Nat.le_refl _)) (fun b hb => by simp only [World.size_alloc]; omega))
      have HB4 := hide (HBEL.out.trans (HC4.out.mono HBEL.out.size))
      rw [← hw4, hh3]
      clear hw4 hh3
      have x4 := ((HXO.out.below HC4.out).cell 0 (v := .slice A lp c) rfl).1
      have l4 := (HXO.out.below HC4.out).lt
      go_upto_region 14 with (go_at_call 23; (with_reducible refine (HW2.out w4 HB4.out).mono ?_); rintro e w5 ⟨A2, k2, rfl, hf5, hb5⟩; have HF5 := hide hf5; have HB5 := hide hb5; clear hb5 hf5 x4 l4)
      obtain ⟨w6, hw6⟩ : ∃ w6, w6 = w5.alloc (.cells #[.slice A2 ql k2] 24) := ⟨_, rfl⟩
      obtain ⟨h5, hh5⟩ : ∃ h5, w5.heap.size = h5 := ⟨_, rfl⟩
      have HZ6 := hide (show Box w6 h5 #[.slice A2 ql k2] 24 by rw [hw6, ← hh5]; exact Box.new w5 _ _)
      have HC6 := hide (show Below w4.heap.size w4 w6 by rw [hw6]; exact HB5.out.alloc HB5.out.size _)
      have HF6 := hide (show FunsV w6 (· < w6.heap.size) (.slice A2 ql k2) q by rw [hw6]; exact HF5.out.keep (up (alloc1 w5 _) (Nat.le_refl _)) (fun b hb => by simp only [World.size_alloc]; omega))
      have HG6 := hide (show FunsV w6 (· < w6.heap.size) (.slice A1 ql k1) q from HF4.out.keep (up HC6.out (Nat.le_refl _)) (fun b hb => Nat.lt_of_lt_of_le hb HC6.out.size))
      rw [← hw6, hh5]
      clear hw6 hh5
      have y6 := ((HY4.out.below HC6.out).cell 0 (v := .slice A1 ql k1) rfl).1
      have z6 := (HZ6.out.cell 0 (v := .slice A2 ql k2) rfl).1
      have ly6 := (HY4.out.below HC6.out).lt
      have lz6 := HZ6.out.lt
      have HSW := hide (HSM.out A1 A2 k1 k2 w6 HG6.out HF6.out)
      go_wp2_with (go_at_call 17; (with_reducible refine HSW.out.mono ?_); rintro e w7 ⟨rfl, hb7⟩; have HB7 := hide (HB4.out.trans ((HC6.out.trans (hb7.mono HC6.out.size)).mono HB4.out.size)); clear hb7 y6 z6)
      go_ret
      exact ⟨rfl, HB7.out⟩
    have HKLT := hide hlt
    obtain ⟨f, hf⟩ : ∃ f, p[k]? = some f := ⟨_, List.getElem?_eq_getElem (by have := HLP.out; omega)⟩
    have hfm := List.mem_of_getElem? hf
    have HLF := hide (HOKS.out f hfm)
    obtain ⟨b, o, Ak, ck, Ab, cb, As, cs, hA, hbb, ⟨e0, e1, e2, e3, e4⟩, hi⟩ := (HKP.out wo HBEL.out).get hf
    subst hA
    have hbs : b < wo.heap.size := by have := HBEL.out.size; omega
    have kI := fun (W : World) (hW : Below wo.heap.size wo W) => hi.keep (w := wo) (S := (· < w.heap.size)) (up hW HBEL.out.size) (fun _ h => h)
    have hsW : ∀ W : World, Below wo.heap.size wo W → w.heap.size ≤ W.heap.size := fun W hW => by have := hW.size; have := HBEL.out.size; omega
    have HS1 := hide (fun (W : World) (hW : Below wo.heap.size wo W) => (play_any _ _ _ f W w.heap.size (hsW W hW) (kI W hW) HLF.out.sok).mono (R' := OutLA f W) (fun e w' h => h.out))
    have HS2 := hide (fun (W : World) (hW : Below wo.heap.size wo W) => (HRS.out f hfm W _ _ _ w.heap.size (hsW W hW) (kI W hW)).mono (R' := OutLA f W) (fun e w' h => h.out))
    unfold OutLA at HS1 HS2
    have HSF := hide (fun (va vb vc ua ub uc : Value) (W : World) (h1 : FunI W (· < W.heap.size) va vb vc (outLF f)) (h2 : FunI W (· < W.heap.size) ua ub uc (outLF f)) => (rsameFunc_any va vb vc ua ub uc (outLF f) (outLF f) W W.heap.size (Nat.le_refl _) h1 h2).mono (R' := fun e w' => e = .returned (.bool true) ∧ Below W.heap.size W w') (fun e w' q => by rw [show decide (outLF f = outLF f) = true from decide_eq_true rfl] at q; exact q))
    generalize outLF f = fo at *
    generalize outE (fitsL f) = ee at *
    clear hi kI hsW hf hfm
    obtain ⟨op, hop⟩ : ∃ op, fo.params = op := ⟨_, rfl⟩
    obtain ⟨or', hor⟩ : ∃ or', fo.result = or' := ⟨_, rfl⟩
    obtain ⟨gk, hgk⟩ : ∃ gk, fo.kinds.length = gk := ⟨_, rfl⟩
    obtain ⟨gb, hgb⟩ : ∃ gb, fo.base.length = gb := ⟨_, rfl⟩
    obtain ⟨gl, hgl⟩ : ∃ gl, fo.blocks.length = gl := ⟨_, rfl⟩
    simp only [hop, hor, hgk, hgb, hgl] at HS1 HS2 HSF
    generalize f.kinds.length = lk, f.base.length = lb, f.params = fp, f.result = fr, f.blocks.length = ls at *
    have hki : (0 : Int) ≤ (k : Int) := by omega
    have hkl : (k : Int) < (lp : Int) := by omega
    clear hop hor hgk hgb hgl
    have HKF := hide (fun (W : World) (hW : Below wo.heap.size wo W) => And.intro ((HXO.out.below hW).cell 0 (v := .slice (some ⟨b, o, none⟩) lp c) rfl).1 (And.intro ((hW.cell (p := ⟨b, o + k * 5, none⟩) hbs).trans e0) (And.intro ((hW.cell (p := ⟨b, o + k * 5 + 1, none⟩) hbs).trans e1) (And.intro ((hW.cell (p := ⟨b, o + k * 5 + 2, none⟩) hbs).trans e2) (And.intro ((hW.cell (p := ⟨b, o + k * 5 + 3, none⟩) hbs).trans e3) ((hW.cell (p := ⟨b, o + k * 5 + 4, none⟩) hbs).trans e4))))))
    have HSW1 := hide (HS1.out wo (Below.refl _ _))
    go_upto_region 9 with (go_at_call 20; (with_reducible refine HSW1.out.mono ?_); rintro e w3 ⟨A1, k1, A2, k2, A3, k3, rfl, hf3, hb3⟩; have HF3 := hide hf3; have HB3 := hide hb3; clear hb3 hf3 e0 e1 e2 e3 e4 xp lxp)
    obtain ⟨w4, hw4⟩ : ∃ w4, w4 = w3.alloc (.cells #[.slice A1 gk k1, .slice A2 gb k2, .int .i64 op, .int .i64 or', .slice A3 gl k3] 30) := ⟨_, rfl⟩
    obtain ⟨h4, hh4⟩ : ∃ h4, w3.heap.size = h4 := ⟨_, rfl⟩
    have HX4 := hide (show Box w4 h4 #[.slice A1 gk k1, .slice A2 gb k2, .int .i64 op, .int .i64 or', .slice A3 gl k3] 30 by rw [hw4, ← hh4]; exact Box.new w3 _ _)
    have HB4 := hide (show Below wo.heap.size wo w4 by rw [hw4]; exact HB3.out.alloc HB3.out.size _)
    have HF4 := hide (show FunI w4 (· < w4.heap.size) (.slice A1 gk k1) (.slice A2 gb k2) (.slice A3 gl k3) fo by rw [hw4]; exact HF3.out.keep (up (alloc1 w3 _) (Nat.le_refl _)) (fun b hb => by simp only [World.size_alloc]; omega))
    rw [← hw4, hh4]
    clear hw4 hh4
    have l4 := HX4.out.lt
    obtain ⟨xp, e0, e1, e2, e3, e4⟩ := HKF.out w4 HB4.out
    have lx4 := (HXO.out.below HB4.out).lt
    have lb4 : b < w4.heap.size := by have := HB4.out.size; omega
    have HSW2 := hide (HS2.out w4 HB4.out)
    go_upto_region 10 with (go_at_call 21; (with_reducible refine HSW2.out.mono ?_); rintro e w5 ⟨D1, m1, D2, m2, D3, m3, rfl, hf5, hb5⟩; have HF5 := hide hf5; have HB5 := hide hb5; clear hb5 hf5 e0 e1 e2 e3 e4 xp lx4)
    obtain ⟨w6, hw6⟩ : ∃ w6, w6 = w5.alloc (.cells #[.slice D1 gk m1, .slice D2 gb m2, .int .i64 op, .int .i64 or', .slice D3 gl m3] 30) := ⟨_, rfl⟩
    obtain ⟨h6, hh6⟩ : ∃ h6, w5.heap.size = h6 := ⟨_, rfl⟩
    have HX6 := hide (show Box w6 h6 #[.slice D1 gk m1, .slice D2 gb m2, .int .i64 op, .int .i64 or', .slice D3 gl m3] 30 by rw [hw6, ← hh6]; exact Box.new w5 _ _)
    have HC6 := hide (show Below w4.heap.size w4 w6 by rw [hw6]; exact HB5.out.alloc HB5.out.size _)
    have HF6 := hide (show FunI w6 (· < w6.heap.size) (.slice D1 gk m1) (.slice D2 gb m2) (.slice D3 gl m3) fo by rw [hw6]; exact HF5.out.keep (up (alloc1 w5 _) (Nat.le_refl _)) (fun b hb => by simp only [World.size_alloc]; omega))
    have HG6 := hide (show FunI w6 (· < w6.heap.size) (.slice A1 gk k1) (.slice A2 gb k2) (.slice A3 gl k3) fo from HF4.out.keep (up HC6.out (Nat.le_refl _)) (fun b hb => Nat.lt_of_lt_of_le hb HC6.out.size))
    have HX46 := hide (HX4.out.below HC6.out)
    have HB6 := hide (HB4.out.trans (HC6.out.mono HB4.out.size))
    rw [← hw6, hh6]
    clear hw6 hh6
    have l6 := HX6.out.lt
    have l46 := HX46.out.lt
    have hs6 := HB6.out.size
    have lx6 := (HXO.out.below HB6.out).lt
    have lb6 : b < w6.heap.size := by omega
    have HKS := hide (fun (W : World) (hW : Below w6.heap.size w6 W) => And.intro (HKF.out W (HB6.out.trans (hW.mono hs6)))
      (And.intro (And.intro ((HX46.out.below hW).cell 0 (v := .slice A1 gk k1) rfl).1 (And.intro ((HX46.out.below hW).cell 1 (v := .slice A2 gb k2) rfl).1 (And.intro ((HX46.out.below hW).cell 2 (v := .int .i64 op) rfl).1 (And.intro ((HX46.out.below hW).cell 3 (v := .int .i64 or') rfl).1 ((HX46.out.below hW).cell 4 (v := .slice A3 gl k3) rfl).1))))
      (And.intro ((HX6.out.below hW).cell 0 (v := .slice D1 gk m1) rfl).1 (And.intro ((HX6.out.below hW).cell 1 (v := .slice D2 gb m2) rfl).1 (And.intro ((HX6.out.below hW).cell 2 (v := .int .i64 op) rfl).1 (And.intro ((HX6.out.below hW).cell 3 (v := .int .i64 or') rfl).1 ((HX6.out.below hW).cell 4 (v := .slice D3 gl m3) rfl).1))))))
    have HU4 := hide (fun (W : World) (hW : Below w6.heap.size w6 W) => HSF.out _ _ _ _ _ _ W (HG6.out.keep (up hW (Nat.le_refl _)) (fun b hb => Nat.lt_of_lt_of_le hb hW.size)) (HF6.out.keep (up hW (Nat.le_refl _)) (fun b hb => Nat.lt_of_lt_of_le hb hW.size)))
    obtain ⟨⟨xp, e0, e1, e2, e3, e4⟩, ⟨s0, s1, s2, s3, s4⟩, ⟨t0, t1, t2, t3, t4⟩⟩ := HKS.out w6 (Below.refl _ _)
    have HU4W := hide (HU4.out w6 (Below.refl _ _))
    go_wp2_with (go_at_call 14; (with_reducible refine HU4W.out.mono ?_); rintro e wa ⟨rfl, hba⟩; have HCa := hide hba; clear hba)
    all_goals
      go_roundw
      case rel => exact ⟨k + 1, by have := HKLT.out; omega, by go_num, HBW.out.trans ((HB6.out.trans (HCa.out.mono hs6)).mono hszo)⟩
      case measure => have := HKLT.out; simp [intOf]; omega
end Go.Proofs.Ytnoknodijombpaa
