/- The statement KeepSets, walked: it answers true. Condition: the table of parts reads as listed; no slice of the program is longer than any machine's memory. -/
import Derived.Test.YtpccjlgnehghgaaDoorPbEF
set_option linter.unusedSimpArgs false
set_option linter.unusedVariables false
namespace Go.Proofs.YtpccjlgnehghgaaDoor
open Go.RowKit

theorem cls_mem (f : FunV) (s : List Nat) (k : Nat) (z : Int) : z ∈ clsN f s k ↔ ∃ u : Nat, u < k ∧ hasB s (u : Int) = true ∧ (z = (u : Int) ∨ (f.kinds.getD u 0 = 2 ∧ u < f.base.length ∧ z = f.base.getD u 0)) := by
  induction k with
  | zero => simp [clsN]
  | succ k ih =>
    unfold clsN
    rw [List.mem_append, ih]
    constructor
    · rintro (⟨u, h1, h2⟩ | h)
      · exact ⟨u, by omega, h2⟩
      · split at h
        · rename_i hb
          rcases List.mem_cons.1 h with rfl | h
          · exact ⟨k, by omega, hb, .inl rfl⟩
          · split at h
            · rename_i h2
              simp only [List.mem_singleton] at h
              exact ⟨k, by omega, hb, .inr ⟨h2.1, h2.2, h⟩⟩
            · cases h
        · cases h
    · rintro ⟨u, h1, hb, h2⟩
      by_cases e : u = k
      · subst e
        right
        rw [if_pos hb]
        rcases h2 with rfl | ⟨h3, h4, rfl⟩
        · exact List.mem_cons_self
        · rw [if_pos ⟨h3, h4⟩]
          simp
      · exact .inl ⟨u, by omega, hb, h2⟩
/-- The base of a derived pointer is a reference of the same function. -/
theorem LOk.der {p : List FunV} {f : FunV} (h : LOk p f) {u : Nat} (hk : f.kinds.getD u 0 = 2) (hu : u < f.base.length) : ∃ b : Nat, f.base.getD u 0 = (b : Int) ∧ b < f.kinds.length ∧ f.kinds.getD b 0 = 1 := by
  have hu2 : u < f.kinds.length := by have := h.bl; omega
  have h1 : (f.kinds.getD u 0, f.base.getD u 0) ∈ f.kinds.zip f.base := by
    refine List.mem_of_getElem? (i := u) ?_
    rw [List.getElem?_zip_eq_some]
    constructor
    · rw [List.getElem?_eq_getElem hu2]; simp [List.getD, hu2]
    · rw [List.getElem?_eq_getElem hu]; simp [List.getD, hu]
  have h2 := h.base _ h1
  rw [hk] at h2
  have h3 : refB f.kinds (f.base.getD u 0) = true := h2
  unfold refB at h3
  rw [Bool.and_eq_true, inB_iff, decide_eq_true_eq] at h3
  refine ⟨(f.base.getD u 0).toNat, by omega, by omega, ?_⟩
  show (f.kinds[(f.base.getD u 0).toNat]?).getD 0 = 1
  rw [h3.2]
  rfl
theorem ofkN_R (f : FunV) (s : List Nat) (c : Int) {k : Nat} (hk : k ≤ 1000) : ∀ z ∈ ofkN f s c k, i64R z := by
  induction k with
  | zero => simp [ofkN]
  | succ k ih =>
    intro z hz
    unfold ofkN at hz
    rcases List.mem_append.1 hz with hz | hz
    · exact ih (by omega) z hz
    · split at hz
      · simp at hz
        subst hz
        unfold i64R
        omega
      · cases hz
theorem intsOw (W : World) (v u : Value) (b c : Nat) (zs : List Int) (hz : ∀ z ∈ zs, i64R z) (h1 : Ow W b 3 .i64 v zs) (h2 : Ow W c 3 .i64 u zs) :
    Calls Tryd.prog 43 #[v, u] W fun e w' => e = .returned (.bool true) ∧ Below W.heap.size W w' :=
  (rints_any _ _ zs zs W W.heap.size (h1.intsV hz) (h2.intsV hz)).mono fun e w' ⟨q1, q, q2⟩ => ⟨by rw [q1]; simp, by rw [q2]; exact below_drewN (Below.refl _ _) q⟩
theorem close_has {f : FunV} (hk : f.kinds.length ≤ 1000) (s : List Nat) (v : Nat) : hasB (closeL f s) (v : Int) = true ↔ ((v : Int) ∈ clsN f s f.kinds.length ∧ v < 4096) := by
  unfold closeL
  rw [hasB_ofL, decide_eq_true_eq]
theorem close_idem {p : List FunV} {f : FunV} (h : LOk p f) (s : List Nat) : closeL f (closeL f s) = closeL f s := by
  have hk : f.kinds.length ≤ 1000 := by have := h.kinds; omega
  refine has_ext (ofL_tidy _) (ofL_tidy _) (ofL_ok _).2 (ofL_ok _).2 fun v => ?_
  rw [close_has hk, close_has hk]
  constructor
  · rintro ⟨h1, h2⟩
    refine ⟨?_, h2⟩
    obtain ⟨u, hu, hb, h3⟩ := (cls_mem _ _ _ _).1 h1
    have hb2 := (close_has hk s u).1 hb
    rcases h3 with e | ⟨h4, h5, h6⟩
    · rw [e]; exact hb2.1
    · obtain ⟨u2, hu2, hb3, h7⟩ := (cls_mem _ _ _ _).1 hb2.1
      rcases h7 with e | ⟨h8, h9, h10⟩
      · obtain rfl : u = u2 := by omega
        exact (cls_mem _ _ _ _).2 ⟨u, hu, hb3, .inr ⟨h4, h5, h6⟩⟩
      · obtain ⟨b, e1, e2, e3⟩ := h.der h8 h9
        obtain rfl : u = b := by omega
        rw [e3] at h4
        omega
  · rintro ⟨h1, h2⟩
    refine ⟨?_, h2⟩
    obtain ⟨u, hu, hb, h3⟩ := (cls_mem _ _ _ _).1 h1
    rcases h3 with e | ⟨h4, h5, h6⟩
    · obtain rfl : v = u := by omega
      exact (cls_mem _ _ _ _).2 ⟨v, hu, (close_has hk s v).2 ⟨h1, h2⟩, .inl rfl⟩
    · obtain ⟨b, e1, e2, e3⟩ := h.der h4 h5
      obtain rfl : v = b := by omega
      exact (cls_mem _ _ _ _).2 ⟨v, e2, (close_has hk s v).2 ⟨h1, h2⟩, .inl rfl⟩
set_option maxHeartbeats 4000000 in
set_option maxRecDepth 100000 in
theorem ksets_law (vp : Value) (p : List FunV) (A1 : Option Addr) (n1 c1 : Nat) (s : List Nat) (w : World) (hT : TabP w) (hp : FunsV w (· < w.heap.size) vp p) (hsz : progSize p) (hsv : SetV w (.slice A1 n1 c1) s) (hn1 : s.length = n1) (hw1 : W64 s) :
    Calls Tryd.prog 8 #[.agg #[vp], .slice A1 n1 c1] w fun e w' => e = .returned (.bool true) ∧ Below w.heap.size w w' := by
  have HKP := hide (fun (W : World) (hW : Below w.heap.size w W) => hp.keep (up hW (Nat.le_refl _)) (fun _ h => h))
  have HTT := hide (fun (W : World) (hW : Below w.heap.size w W) => hT.below hW hT.1)
  have HOUT := hide (fun (W : World) (hW : Below w.heap.size w W) => out12_any vp p W w.heap.size hW.size (hp.keep (up hW (Nat.le_refl _)) (fun _ h => h)) hsz)
  have HALLOK := hide (fun (h : progB4 p = true ∧ progFew p) => @lOk_of p h.1 h.2)
  have HSV := hide (fun (W : World) (hW : Below w.heap.size w W) => hsv.below hW)
  have HW1 := hide hw1
  have HSN := hide hn1
  clear hsv hw1
  obtain ⟨A, c, rfl, hpc, hpm⟩ := hp.open'
  obtain ⟨lp, hlp⟩ : ∃ lp, p.length = lp := ⟨_, rfl⟩
  have HLP := hide hlp
  rw [hlp] at HKP HOUT hpc ⊢
  clear hp hsz hlp hT
  by_cases hn70 : n1 ≤ 70
  case neg =>
    have hd70 : decide ((n1 : Int) > 70) = true := by simp; omega
    have hd71 : (n1 : Int) > 70 := by omega
    go_enter Tryd.func8, Tryd.ntmps8
    go_upto_region 1 with (fail)
    obtain ⟨w0, hw0⟩ : ∃ w0, w0 = w.alloc (.cells #[.slice A lp c] 24) := ⟨_, rfl⟩
    have HX0 := hide (show Box w0 w.heap.size #[.slice A lp c] 24 by rw [hw0]; exact Box.new w _ _)
    have HB0 := hide (show Below w.heap.size w w0 by rw [hw0]; exact alloc1 w _)
    rw [← hw0]
    clear hw0
    go_upto_region 3 with (go_at_call 33; refine (alive12_any w0 (HTT.out w0 HB0.out)).mono ?_; rintro e w1 ⟨rfl, hb1⟩; have HX1 := hide (HX0.out.below hb1); have HC1 := hide (HB0.out.trans (hb1.mono HB0.out.size)); clear hb1)
    have x1 := (HX1.out.cell 0 (v := .slice A lp c) rfl).1
    have l1 := HX1.out.lt
    go_wp2_with (go_at_call 34; refine (HOUT.out w1 HC1.out).mono ?_; rintro e w2 ⟨b1, rfl, hs2, hb2⟩; have HB2 := hide (HC1.out.trans (hb2.mono HC1.out.size)); clear x1 hb2 hs2)
    all_goals (go_ret; exact ⟨rfl, HB2.out⟩)
  have hd70 : decide ((n1 : Int) > 70) = false := by simp; omega
  have hd71 : ¬ (n1 : Int) > 70 := by omega
  have HN1 := hide (show s.length ≤ 70 by rw [hn1]; exact hn70)
  go_enter Tryd.func8, Tryd.ntmps8
  go_upto_region 1 with (fail)
  obtain ⟨w0, hw0⟩ : ∃ w0, w0 = w.alloc (.cells #[.slice A lp c] 24) := ⟨_, rfl⟩
  have HX0 := hide (show Box w0 w.heap.size #[.slice A lp c] 24 by rw [hw0]; exact Box.new w _ _)
  have HB0 := hide (show Below w.heap.size w w0 by rw [hw0]; exact alloc1 w _)
  rw [← hw0]
  clear hw0
  go_upto_region 3 with (go_at_call 33; refine (alive12_any w0 (HTT.out w0 HB0.out)).mono ?_; rintro e w1 ⟨rfl, hb1⟩; have HX1 := hide (HX0.out.below hb1); have HC1 := hide (HB0.out.trans (hb1.mono HB0.out.size)); clear hb1)
  have x1 := (HX1.out.cell 0 (v := .slice A lp c) rfl).1
  have l1 := HX1.out.lt
  go_upto_region 5 with (go_at_call 34; refine (HOUT.out w1 HC1.out).mono ?_; rintro e w2 ⟨b1, rfl, hs2, hb2⟩; have HB2 := hide (HC1.out.trans (hb2.mono HC1.out.size)); have HX2 := hide (HX1.out.below hb2); have HS2 := hide hs2; clear x1 hb2 hs2)
  all_goals try (go_ret; exact ⟨rfl, HB2.out⟩)
  have hb1f : b1 = false := by first | assumption | exact Bool.eq_false_iff.2 (by assumption)
  subst hb1f
  have HOKS := hide (HALLOK.out (HS2.out.out rfl))
  clear HOUT HALLOK HS2 HC1 HX1 l1
  go_wp2
  go_loopw [5] (fun i wr => ∃ k : Nat, k ≤ lp ∧ i = .int .i64 k ∧ Below w2.heap.size w2 wr) (fun i _ => lp - (intOf i).toNat)
  case atStart => exact ⟨0, Nat.zero_le _, rfl, Below.refl _ _⟩
  case round =>
    obtain ⟨k, hk, rfl, hb'⟩ := hrel
    obtain ⟨wo, rfl⟩ : ∃ wo, wo = wr := ⟨_, rfl⟩
    have hszo := hb'.size
    have HBEL := hide (HB2.out.trans (hb'.mono HB2.out.size))
    have HXO := hide (HX2.out.below hb')
    have HBW := hide hb'
    have xp := (HXO.out.cell 0 (v := .slice A lp c) rfl).1
    have lxp := HXO.out.lt
    clear hb'
    by_cases hlt : k < lp
    case neg =>
      go_wp2
      go_ret
      exact ⟨rfl, HBEL.out⟩
    have HKLT := hide hlt
    obtain ⟨f, hf⟩ : ∃ f, p[k]? = some f := ⟨_, List.getElem?_eq_getElem (by have := HLP.out; omega)⟩
    obtain ⟨b, o, Ak, ck, Ab, cb, As, cs, hA, hbb, ⟨e0, e1, e2, e3, e4⟩, hi⟩ := (HKP.out wo HBEL.out).get hf
    subst hA
    have hbs : b < wo.heap.size := by have := HBEL.out.size; omega
    have HLF := hide (HOKS.out f (List.mem_of_getElem? hf))
    have kI := fun (W : World) (hW : Below wo.heap.size wo W) => hi.keep (w := wo) (S := (· < w.heap.size)) (up hW HBEL.out.size) (fun _ h => h)
    have hsW : ∀ W : World, Below wo.heap.size wo W → w.heap.size ≤ W.heap.size := fun W hW => by have := hW.size; have := HBEL.out.size; omega
    have HTO := hide (fun (W : World) (hW : Below wo.heap.size wo W) => HTT.out W (HBEL.out.trans (hW.mono HBEL.out.size)))
    have hls40 := HLF.out.flow.1
    have hls1 := HLF.out.one
    have HCL := hide (fun (W : World) (hW : Below wo.heap.size wo W) (v : Value) (s : List Nat) (hv : SetV W v s) (hl : s.length ≤ 1000) (hw : W64 s) => close_any _ _ _ f v s W w.heap.size (hsW W hW) (kI W hW) (by have := HLF.out.kinds; omega) hv hl hw)
    have RCL := hide (fun (W : World) (hW : Below wo.heap.size wo W) (v : Value) (s : List Nat) (hv : SetV W v s) (hl : s.length ≤ 1000) (hw : W64 s) => rclose_any _ _ _ f v s W w.heap.size (hsW W hW) (kI W hW) (by have := HLF.out.kinds; omega) hv hl hw (fun k hk2 => by have := (List.getElem?_eq_some_iff.1 hk2).1; have := HLF.out.bl; omega))
    have HRF := hide (fun (W : World) (hW : Below wo.heap.size wo W) (v : Value) (s : List Nat) (hv : SetV W v s) (hl : s.length ≤ 1000) (hw : W64 s) => refs_any _ _ _ f v s W w.heap.size (hsW W hW) (kI W hW) (by have := HLF.out.kinds; omega) hv hl hw)
    have RRF := hide (fun (W : World) (hW : Below wo.heap.size wo W) (v : Value) (s : List Nat) (hv : SetV W v s) (hl : s.length ≤ 1000) (hw : W64 s) => rrefs_any _ _ _ f v s W w.heap.size (hsW W hW) (kI W hW) (by have := HLF.out.kinds; omega) hv hl hw)
    have HDF := hide (fun (W : World) (hW : Below wo.heap.size wo W) (v : Value) (s : List Nat) (hv : SetV W v s) (hl : s.length ≤ 1000) (hw : W64 s) => ders_any _ _ _ f v s W w.heap.size (hsW W hW) (kI W hW) (by have := HLF.out.kinds; omega) hv hl hw)
    have RDF := hide (fun (W : World) (hW : Below wo.heap.size wo W) (v : Value) (s : List Nat) (hv : SetV W v s) (hl : s.length ≤ 1000) (hw : W64 s) => rders_any _ _ _ f v s W w.heap.size (hsW W hW) (kI W hW) (by have := HLF.out.kinds; omega) hv hl hw)
    have hk1000 : f.kinds.length ≤ 1000 := by have := HLF.out.kinds; omega
    obtain ⟨CS, hCS⟩ : ∃ CS, closeL f s = CS := ⟨_, rfl⟩
    have HCS := hide hCS
    have HCK := hide (show SetOk CS by rw [← hCS]; exact ofL_ok _)
    have HCI := hide (show closeL f CS = CS by rw [← hCS]; exact close_idem HLF.out s)
    have HZ1 := hide (ofkN_R f s 1 hk1000)
    have HZ2 := hide (ofkN_R f s 2 hk1000)
    obtain ⟨ls, hls2⟩ : ∃ ls, f.blocks.length = ls := ⟨_, rfl⟩
    have HLS := hide hls2
    rw [hls2] at HCL RCL HRF RRF HDF RDF e4 hls40 hls1
    obtain ⟨Z1, hZ1⟩ : ∃ Z, ofkN f s 1 f.kinds.length = Z := ⟨_, rfl⟩
    obtain ⟨Z2, hZ2⟩ : ∃ Z, ofkN f s 2 f.kinds.length = Z := ⟨_, rfl⟩
    have HRF2 := hide (fun (W : World) (hW : Below wo.heap.size wo W) (hv : SetV W (.slice A1 n1 c1) s) => (by have t := HRF.out W hW (.slice A1 n1 c1) s hv (by have := HN1.out; omega) HW1.out; rw [hZ1] at t; exact t : Calls Tryd.prog 44 #[.agg #[.slice Ak f.kinds.length ck, .slice Ab f.base.length cb, .int .i64 f.params, .int .i64 f.result, .slice As ls cs], .slice A1 n1 c1] W fun e w' => ∃ r, e = .returned r ∧ Ow w' W.heap.size 3 .i64 r Z1 ∧ Below W.heap.size W w'))
    have RRF2 := hide (fun (W : World) (hW : Below wo.heap.size wo W) (hv : SetV W (.slice A1 n1 c1) s) => (by have t := RRF.out W hW (.slice A1 n1 c1) s hv (by have := HN1.out; omega) HW1.out; rw [hZ1] at t; exact t : Calls Tryd.prog 45 #[.agg #[.slice Ak f.kinds.length ck, .slice Ab f.base.length cb, .int .i64 f.params, .int .i64 f.result, .slice As ls cs], .slice A1 n1 c1] W fun e w' => ∃ r, e = .returned r ∧ Ow w' W.heap.size 3 .i64 r Z1 ∧ Below W.heap.size W w'))
    have HDF2 := hide (fun (W : World) (hW : Below wo.heap.size wo W) (hv : SetV W (.slice A1 n1 c1) s) => (by have t := HDF.out W hW (.slice A1 n1 c1) s hv (by have := HN1.out; omega) HW1.out; rw [hZ2] at t; exact t : Calls Tryd.prog 46 #[.agg #[.slice Ak f.kinds.length ck, .slice Ab f.base.length cb, .int .i64 f.params, .int .i64 f.result, .slice As ls cs], .slice A1 n1 c1] W fun e w' => ∃ r, e = .returned r ∧ Ow w' W.heap.size 3 .i64 r Z2 ∧ Below W.heap.size W w'))
    have RDF2 := hide (fun (W : World) (hW : Below wo.heap.size wo W) (hv : SetV W (.slice A1 n1 c1) s) => (by have t := RDF.out W hW (.slice A1 n1 c1) s hv (by have := HN1.out; omega) HW1.out; rw [hZ2] at t; exact t : Calls Tryd.prog 47 #[.agg #[.slice Ak f.kinds.length ck, .slice Ab f.base.length cb, .int .i64 f.params, .int .i64 f.result, .slice As ls cs], .slice A1 n1 c1] W fun e w' => ∃ r, e = .returned r ∧ Ow w' W.heap.size 3 .i64 r Z2 ∧ Below W.heap.size W w'))
    have HCL2 := hide (fun (W : World) (hW : Below wo.heap.size wo W) (hv : SetV W (.slice A1 n1 c1) s) => HCL.out W hW (.slice A1 n1 c1) s hv (by have := HN1.out; omega) HW1.out)
    have RCL2 := hide (fun (W : World) (hW : Below wo.heap.size wo W) (hv : SetV W (.slice A1 n1 c1) s) => RCL.out W hW (.slice A1 n1 c1) s hv (by have := HN1.out; omega) HW1.out)
    have HCL3 := hide (fun (W : World) (hW : Below wo.heap.size wo W) (v : Value) (hv : SetV W v CS) => HCL.out W hW v CS hv (by have := HCK.out.1; omega) HCK.out.2)
    rw [hZ1] at HZ1
    rw [hZ2] at HZ2
    rw [hCS] at HCL2 RCL2
    rw [HCI.out] at HCL3
    have HSO := hide (fun (W : World) (hW : Below wo.heap.size wo W) => HSV.out W (HBEL.out.trans (hW.mono HBEL.out.size)))
    clear hi hf kI hsW hls2 hCS hZ1 hZ2 HCL RCL HRF RRF HDF RDF hk1000
    generalize f.kinds.length = lk, f.base.length = lb, f.params = fp, f.result = fr at *
    have hki : (0 : Int) ≤ (k : Int) := by omega
    have hkl : (k : Int) < (lp : Int) := by omega
    go_upto_region 9 with (fail)
    obtain ⟨w5, hw5⟩ : ∃ w5, w5 = wo.alloc (.cells #[.slice Ak lk ck, .slice Ab lb cb, .int .i64 fp, .int .i64 fr, .slice As ls cs] 30) := ⟨_, rfl⟩
    obtain ⟨h5, hh5⟩ : ∃ h5, wo.heap.size = h5 := ⟨_, rfl⟩
    have HX5 := hide (show Box w5 h5 #[.slice Ak lk ck, .slice Ab lb cb, .int .i64 fp, .int .i64 fr, .slice As ls cs] 30 by rw [hw5, ← hh5]; exact Box.new wo _ _)
    have HB5 := hide (show Below wo.heap.size wo w5 by rw [hw5]; exact alloc1 wo _)
    rw [← hw5, hh5]
    clear hw5 hh5 e0 e1 e2 e3 e4 hbs xp lxp
    have l5 := HX5.out.lt
    have hz5 := HB5.out.size
    have HK5 := hide (fun (W : World) (hW : Below w5.heap.size w5 W) => And.intro ((HX5.out.below hW).cell 0 (v := .slice Ak lk ck) rfl).1 (And.intro ((HX5.out.below hW).cell 1 (v := .slice Ab lb cb) rfl).1 (And.intro ((HX5.out.below hW).cell 2 (v := .int .i64 fp) rfl).1 (And.intro ((HX5.out.below hW).cell 3 (v := .int .i64 fr) rfl).1 ((HX5.out.below hW).cell 4 (v := .slice As ls cs) rfl).1))))
    have HUP := hide (fun (W : World) (hW : Below w5.heap.size w5 W) => HB5.out.trans (hW.mono HB5.out.size))
    obtain ⟨c0, c1, c2, c3, c4⟩ := HK5.out w5 (Below.refl _ _)
    go_upto_region 10 with (go_at_call 41; (with_reducible refine (HCL2.out w5 HB5.out (HSO.out w5 HB5.out)).mono ?_); rintro e w7 ⟨r7, rfl, hw7, hb7⟩; have HV7 := hide hw7.ws; have q7 := HK5.out w7 hb7; have HCw7 := hide hb7; clear hw7 hb7 c0 c1 c2 c3 c4)
    obtain ⟨c0, c1, c2, c3, c4⟩ := q7
    go_region_held3 (fun w' => w'.cell? ⟨h5, 0, none⟩ = some (.slice Ak lk ck) ∧ w'.cell? ⟨h5, 1, none⟩ = some (.slice Ab lb cb) ∧ w'.cell? ⟨h5, 2, none⟩ = some (.int .i64 fp) ∧ w'.cell? ⟨h5, 3, none⟩ = some (.int .i64 fr) ∧ w'.cell? ⟨h5, 4, none⟩ = some (.slice As ls cs)) (first | go_keep | (exact qwi) | (exact qwh) | (exact qwg) | (exact qwf) | (exact qwe) | (exact qwd) | (exact qwa) | (exact qw8))
      (first
        | (go_at_call 43; refine (intsOw wh rg rh _ _ Z2 HZ2.out HOg2.out HOh.out).mono ?_; rintro e wi ⟨rfl, hb⟩; have hc : Below w5.heap.size w5 wi := HCwh.out.trans (hb.mono HCwh.out.size); have qwi := HK5.out wi hc; have HCwi := hide hc; have lwi := hc.size; clear hb hc)
        | (go_at_call 47; refine (RDF2.out wg (HUP.out wg HCwg.out) (HSO.out wg (HUP.out wg HCwg.out))).mono ?_; rintro e wh ⟨rh, rfl, ho, hb⟩; have hc : Below w5.heap.size w5 wh := HCwg.out.trans (hb.mono HCwg.out.size); have qwh := HK5.out wh hc; have HCwh := hide hc; have HOh := hide ho; have HOg2 := hide (HOg.out.belowL hb); clear ho; have lwh := hc.size; clear hb hc)
        | (go_at_call 46; refine (HDF2.out wf (HUP.out wf HCwf.out) (HSO.out wf (HUP.out wf HCwf.out))).mono ?_; rintro e wg ⟨rg, rfl, ho, hb⟩; have hc : Below w5.heap.size w5 wg := HCwf.out.trans (hb.mono HCwf.out.size); have qwg := HK5.out wg hc; have HCwg := hide hc; have HOg := hide ho; clear ho; have lwg := hc.size; clear hb hc)
        | (go_at_call 43; refine (intsOw we rd re _ _ Z1 HZ1.out HOd2.out HOe.out).mono ?_; rintro e wf ⟨rfl, hb⟩; have hc : Below w5.heap.size w5 wf := HCwe.out.trans (hb.mono HCwe.out.size); have qwf := HK5.out wf hc; have HCwf := hide hc; have lwf := hc.size; clear hb hc)
        | (go_at_call 45; refine (RRF2.out wd (HUP.out wd HCwd.out) (HSO.out wd (HUP.out wd HCwd.out))).mono ?_; rintro e we ⟨re, rfl, ho, hb⟩; have hc : Below w5.heap.size w5 we := HCwd.out.trans (hb.mono HCwd.out.size); have qwe := HK5.out we hc; have HCwe := hide hc; have HOe := hide ho; have HOd2 := hide (HOd.out.belowL hb); clear ho; have lwe := hc.size; clear hb hc)
        | (go_at_call 44; refine (HRF2.out wa (HUP.out wa HCwa.out) (HSO.out wa (HUP.out wa HCwa.out))).mono ?_; rintro e wd ⟨rd, rfl, ho, hb⟩; have hc : Below w5.heap.size w5 wd := HCwa.out.trans (hb.mono HCwa.out.size); have qwd := HK5.out wd hc; have HCwd := hide hc; have HOd := hide ho; clear ho; have lwd := hc.size; clear hb hc)
        | (go_at_call 13; refine (rwordsV HVa.out HRa.out (by have := HCK.out.1; omega)).mono ?_; rintro e wb ⟨rfl, hwb⟩; subst hwb)
        | (go_at_call 41; refine (HCL3.out w8 (HUP.out w8 HCw8.out) r7 HR8.out).mono ?_; rintro e wa ⟨ra, rfl, hw, hb⟩; have hc : Below w5.heap.size w5 wa := HCw8.out.trans (hb.mono HCw8.out.size); have qwa := HK5.out wa hc; have HCwa := hide hc; have HVa := hide hw.ws; have HRa := hide (HR8.out.below hb); clear hw; have lwa := hc.size; clear hb hc)
        | (go_at_call 13; refine (rwordsV HR8.out HV8.out (by have := HCK.out.1; omega)).mono ?_; rintro e w9 ⟨rfl, hw9⟩; subst hw9)
        | (go_at_call 42; refine (RCL2.out (w7.drewN 1) (HUP.out _ (below_drewN HCw7.out 1)) (HSO.out _ (HUP.out _ (below_drewN HCw7.out 1)))).mono ?_; rintro e w8 ⟨r8, rfl, hv, hb0⟩; have hb : Below w7.heap.size w7 w8 := ⟨hb0.os, hb0.tape, hb0.output, hb0.size, hb0.block⟩; have hc : Below w5.heap.size w5 w8 := HCw7.out.trans (hb.mono HCw7.out.size); have qw8 := HK5.out w8 hc; have HCw8 := hide hc; have HV8 := hide hv; have HR8 := hide (HV7.out.below hb); have lw8 := hc.size; clear hb hb0 hc hv))
    go_wp2
    go_roundw
    case rel => exact ⟨k + 1, by have := HKLT.out; omega, by go_num, HBW.out.trans ((HUP.out wi HCwi.out).mono hszo)⟩
    case measure => have := HKLT.out; simp [intOf]; omega
end Go.Proofs.YtpccjlgnehghgaaDoor
