/- The statement KeepCloses, walked: it answers true. Condition: the table of parts reads as listed; no slice of the program is longer than any machine's memory. -/
import Derived.Test.YtpccjlgnehghgaaDoorPbEG
set_option linter.unusedSimpArgs false
set_option linter.unusedVariables false
namespace Go.Proofs.YtpccjlgnehghgaaDoor
open Go.RowKit

/-- Is v in the set, or a base of one of the first u ones of it? -/
def wantN (f : FunV) (s : List Nat) (v : Nat) : Nat → Bool
  | 0 => hasB s (v : Int)
  | u + 1 => wantN f s v u || (decide (f.kinds.getD u 0 = 2) && (decide (f.base.getD u 0 = (v : Int)) && hasB s (u : Int)))
theorem wantN_iff (f : FunV) (s : List Nat) (v k : Nat) : wantN f s v k = true ↔ (hasB s (v : Int) = true ∨ ∃ u : Nat, u < k ∧ f.kinds.getD u 0 = 2 ∧ f.base.getD u 0 = (v : Int) ∧ hasB s (u : Int) = true) := by
  induction k with
  | zero => simp [wantN]
  | succ k ih =>
    unfold wantN
    rw [Bool.or_eq_true, ih]
    simp only [Bool.and_eq_true, decide_eq_true_eq]
    constructor
    · rintro ((h | ⟨u, h1, h2⟩) | ⟨h1, h2, h3⟩)
      · exact .inl h
      · exact .inr ⟨u, by omega, h2⟩
      · exact .inr ⟨k, by omega, h1, h2, h3⟩
    · rintro (h | ⟨u, h1, h2, h3, h4⟩)
      · exact .inl (.inl h)
      · by_cases e : u = k
        · subst e
          exact .inr ⟨h2, h3, h4⟩
        · exact .inl (.inr ⟨u, by omega, h2, h3, h4⟩)
theorem want_all {p : List FunV} {f : FunV} (h : LOk p f) (s : List Nat) {v : Nat} (hv : v < f.kinds.length) : wantN f s v f.kinds.length = hasB (closeL f s) (v : Int) := by
  have hk : f.kinds.length ≤ 48 := h.kinds
  rw [Bool.eq_iff_iff, wantN_iff, close_has (by omega), cls_mem]
  constructor
  · rintro (h1 | ⟨u, h1, h2, h3, h4⟩)
    · exact ⟨⟨v, hv, h1, .inl rfl⟩, by omega⟩
    · exact ⟨⟨u, h1, h4, .inr ⟨h2, by have := h.bl; omega, h3.symm⟩⟩, by omega⟩
  · rintro ⟨⟨u, h1, h2, h3 | ⟨h3, h4, h5⟩⟩, -⟩
    · obtain rfl : v = u := by omega
      exact .inl h2
    · exact .inr ⟨u, h1, h3, h5.symm, h2⟩
theorem ofk_two (f : FunV) (s : List Nat) (k : Nat) : (ofkN f s 1 k).length + (ofkN f s 2 k).length ≤ (listN s k).length := by
  induction k with
  | zero => simp [ofkN, listN]
  | succ k ih =>
    unfold ofkN listN
    simp only [List.length_append]
    by_cases hb : hasB s (k : Int) = true
    · rw [if_pos hb]
      by_cases h1 : f.kinds.getD k 0 = 1
      · rw [if_pos ⟨h1, hb⟩, if_neg (fun h => by rw [h1] at h; omega)]
        simp
        omega
      · rw [if_neg (fun h => h1 h.1)]
        split <;> simp <;> omega
    · rw [if_neg (fun h => hb h.2), if_neg (fun h => hb h.2), if_neg hb]
      simp
      omega
theorem listN_mono (s : List Nat) (k : Nat) : ∀ n, (listN s k).length ≤ (listN s (k + n)).length
  | 0 => Nat.le_refl _
  | n + 1 => by
    have h1 := listN_mono s k n
    have h2 : (listN s (k + n)).length ≤ (listN s (k + n + 1)).length := by
      show _ ≤ (listN s (k + n) ++ _).length
      rw [List.length_append]
      omega
    rw [Nat.add_assoc] at h2
    omega
theorem listN_past (s : List Nat) : ∀ n, (listN s (64 * s.length + n)).length = (listN s (64 * s.length)).length
  | 0 => rfl
  | n + 1 => by
    rw [← listN_past s n]
    show (listN s (64 * s.length + n) ++ _).length = _
    rw [if_neg (by rw [hasB_out (.inr (by show (s.length : Int) ≤ ((64 * s.length + n : Nat) : Int) / 64; omega))]; simp), List.append_nil]
theorem listN_le (s : List Nat) (k : Nat) : (listN s k).length ≤ (listL s).length := by
  have h1 := listN_mono s k (64 * s.length)
  have h2 := listN_past s k
  rw [Nat.add_comm] at h2
  unfold listL
  omega
set_option maxHeartbeats 4000000 in
set_option maxRecDepth 100000 in
theorem kcloses_law (vp : Value) (p : List FunV) (A1 : Option Addr) (n1 c1 : Nat) (s : List Nat) (w : World) (hT : TabP w) (hp : FunsV w (· < w.heap.size) vp p) (hsz : progSize p) (hsv : SetV w (.slice A1 n1 c1) s) (hn1 : s.length = n1) (hw1 : W64 s) :
    Calls Tryd.prog 9 #[.agg #[vp], .slice A1 n1 c1] w fun e w' => e = .returned (.bool true) ∧ Below w.heap.size w w' := by
  have HKP := hide (fun (W : World) (hW : Below w.heap.size w W) => hp.keep (up hW (Nat.le_refl _)) (fun _ h => h))
  have HTT := hide (fun (W : World) (hW : Below w.heap.size w W) => hT.below hW hT.1)
  have HOUT := hide (fun (W : World) (hW : Below w.heap.size w W) => out12_any vp p W w.heap.size hW.size (hp.keep (up hW (Nat.le_refl _)) (fun _ h => h)) hsz)
  have HALLOK := hide (fun (h : progB4 p = true ∧ progFew p) => @lOk_of p h.1 h.2)
  have HSV := hide (fun (W : World) (hW : Below w.heap.size w W) => hsv.below hW)
  have HW1 := hide hw1
  have HSN := hide hn1
  clear hsv hw1
  obtain ⟨A, c, rfl, hpc, hpm⟩ := hp.open'
  obtain ⟨lp, hlp⟩ : ∃ lp, p.length = lp := ⟨_, rfl⟩
  have HLP := hide hlp
  rw [hlp] at HKP HOUT hpc ⊢
  clear hp hsz hlp hT
  by_cases hn70 : n1 ≤ 70
  case neg =>
    have hd70 : decide ((n1 : Int) > 70) = true := by simp; omega
    have hd71 : (n1 : Int) > 70 := by omega
    go_enter Tryd.func9, Tryd.ntmps9
    go_upto_region 1 with (fail)
    obtain ⟨w0, hw0⟩ : ∃ w0, w0 = w.alloc (.cells #[.slice A lp c] 24) := ⟨_, rfl⟩
    have HX0 := hide (show Box w0 w.heap.size #[.slice A lp c] 24 by rw [hw0]; exact Box.new w _ _)
    have HB0 := hide (show Below w.heap.size w w0 by rw [hw0]; exact alloc1 w _)
    rw [← hw0]
    clear hw0
    go_upto_region 3 with (go_at_call 33; refine (alive12_any w0 (HTT.out w0 HB0.out)).mono ?_; rintro e w1 ⟨rfl, hb1⟩; have HX1 := hide (HX0.out.below hb1); have HC1 := hide (HB0.out.trans (hb1.mono HB0.out.size)); clear hb1)
    have x1 := (HX1.out.cell 0 (v := .slice A lp c) rfl).1
    have l1 := HX1.out.lt
    go_wp2_with (go_at_call 34; refine (HOUT.out w1 HC1.out).mono ?_; rintro e w2 ⟨b1, rfl, hs2, hb2⟩; have HB2 := hide (HC1.out.trans (hb2.mono HC1.out.size)); clear x1 hb2 hs2)
    all_goals (go_ret; exact ⟨rfl, HB2.out⟩)
  have hd70 : decide ((n1 : Int) > 70) = false := by simp; omega
  have hd71 : ¬ (n1 : Int) > 70 := by omega
  have HN1 := hide (show s.length ≤ 70 by rw [hn1]; exact hn70)
  go_enter Tryd.func9, Tryd.ntmps9
  go_upto_region 1 with (fail)
  obtain ⟨w0, hw0⟩ : ∃ w0, w0 = w.alloc (.cells #[.slice A lp c] 24) := ⟨_, rfl⟩
  have HX0 := hide (show Box w0 w.heap.size #[.slice A lp c] 24 by rw [hw0]; exact Box.new w _ _)
  have HB0 := hide (show Below w.heap.size w w0 by rw [hw0]; exact alloc1 w _)
  rw [← hw0]
  clear hw0
  go_upto_region 3 with (go_at_call 33; refine (alive12_any w0 (HTT.out w0 HB0.out)).mono ?_; rintro e w1 ⟨rfl, hb1⟩; have HX1 := hide (HX0.out.below hb1); have HC1 := hide (HB0.out.trans (hb1.mono HB0.out.size)); clear hb1)
  have x1 := (HX1.out.cell 0 (v := .slice A lp c) rfl).1
  have l1 := HX1.out.lt
  go_upto_region 5 with (go_at_call 34; refine (HOUT.out w1 HC1.out).mono ?_; rintro e w2 ⟨b1, rfl, hs2, hb2⟩; have HB2 := hide (HC1.out.trans (hb2.mono HC1.out.size)); have HX2 := hide (HX1.out.below hb2); have HS2 := hide hs2; clear x1 hb2 hs2)
  all_goals try (go_ret; exact ⟨rfl, HB2.out⟩)
  have hb1f : b1 = false := by first | assumption | exact Bool.eq_false_iff.2 (by assumption)
  subst hb1f
  have HOKS := hide (HALLOK.out (HS2.out.out rfl))
  clear HOUT HALLOK HS2 HC1 HX1 l1
  go_wp2
  go_loopw [5] (fun i wr => ∃ k : Nat, k ≤ lp ∧ i = .int .i64 k ∧ Below w2.heap.size w2 wr) (fun i _ => lp - (intOf i).toNat)
  case atStart => exact ⟨0, Nat.zero_le _, rfl, Below.refl _ _⟩
  case round =>
    obtain ⟨k, hk, rfl, hb'⟩ := hrel
    obtain ⟨wo, rfl⟩ : ∃ wo, wo = wr := ⟨_, rfl⟩
    have hszo := hb'.size
    have HBEL := hide (HB2.out.trans (hb'.mono HB2.out.size))
    have HXO := hide (HX2.out.below hb')
    have HBW := hide hb'
    have xp := (HXO.out.cell 0 (v := .slice A lp c) rfl).1
    have lxp := HXO.out.lt
    clear hb'
    by_cases hlt : k < lp
    case neg =>
      go_wp2
      go_ret
      exact ⟨rfl, HBEL.out⟩
    have HKLT := hide hlt
    obtain ⟨f, hf⟩ : ∃ f, p[k]? = some f := ⟨_, List.getElem?_eq_getElem (by have := HLP.out; omega)⟩
    obtain ⟨b, o, Ak, ck, Ab, cb, As, cs, hA, hbb, ⟨e0, e1, e2, e3, e4⟩, hi⟩ := (HKP.out wo HBEL.out).get hf
    subst hA
    have hbs : b < wo.heap.size := by have := HBEL.out.size; omega
    have HLF := hide (HOKS.out f (List.mem_of_getElem? hf))
    have kI := fun (W : World) (hW : Below wo.heap.size wo W) => hi.keep (w := wo) (S := (· < w.heap.size)) (up hW HBEL.out.size) (fun _ h => h)
    have hsW : ∀ W : World, Below wo.heap.size wo W → w.heap.size ≤ W.heap.size := fun W hW => by have := hW.size; have := HBEL.out.size; omega
    have HTO := hide (fun (W : World) (hW : Below wo.heap.size wo W) => HTT.out W (HBEL.out.trans (hW.mono HBEL.out.size)))
    have hls40 := HLF.out.flow.1
    have hls1 := HLF.out.one
    have HCL2 := hide (fun (W : World) (hW : Below wo.heap.size wo W) (hv : SetV W (.slice A1 n1 c1) s) => close_any _ _ _ f (.slice A1 n1 c1) s W w.heap.size (hsW W hW) (kI W hW) (by have := HLF.out.kinds; omega) hv (by have := HN1.out; omega) HW1.out)
    obtain ⟨CS, hCS⟩ : ∃ CS, closeL f s = CS := ⟨_, rfl⟩
    have HCK := hide (show SetOk CS by rw [← hCS]; exact ofL_ok _)
    have HWA := hide (fun (v : Nat) (hv : v < f.kinds.length) => (show wantN f s v f.kinds.length = hasB CS (v : Int) by rw [← hCS]; exact want_all HLF.out s hv))
    have HRF := hide (fun (W : World) (hW : Below wo.heap.size wo W) (v : Value) (hv : SetV W v CS) => refs_any _ _ _ f v CS W w.heap.size (hsW W hW) (kI W hW) (by have := HLF.out.kinds; omega) hv (by have := HCK.out.1; omega) HCK.out.2)
    have HDF := hide (fun (W : World) (hW : Below wo.heap.size wo W) (v : Value) (hv : SetV W v CS) => ders_any _ _ _ f v CS W w.heap.size (hsW W hW) (kI W hW) (by have := HLF.out.kinds; omega) hv (by have := HCK.out.1; omega) HCK.out.2)
    have HTW := hide (Nat.le_trans (ofk_two f CS f.kinds.length) (listN_le CS f.kinds.length))
    have HOL1 := hide (ofkN_len f CS 1 f.kinds.length)
    have HOL2 := hide (ofkN_len f CS 2 f.kinds.length)
    rw [hCS] at HCL2
    obtain ⟨Z1, hZ1⟩ : ∃ Z, ofkN f CS 1 f.kinds.length = Z := ⟨_, rfl⟩
    obtain ⟨Z2, hZ2⟩ : ∃ Z, ofkN f CS 2 f.kinds.length = Z := ⟨_, rfl⟩
    simp only [hZ1] at HRF HTW HOL1
    simp only [hZ2] at HDF HTW HOL2
    have HLI := hide (fun (W : World) (v : Value) (hv : SetV W v CS) => (show Calls Tryd.prog 48 #[v] W fun e w' => ∃ v, e = .returned v ∧ Ow w' W.heap.size 3 .i64 v (listL CS) ∧ Below W.heap.size W w' by
      obtain ⟨A', c', e', -, -, hs⟩ := hv
      subst e'
      exact rlist_any A' CS.length c' CS W hs rfl (by have := HCK.out.1; omega) HCK.out.2))
    have HKI := hide (fun (W : World) (hW : Below wo.heap.size wo W) => (kI W hW).1)
    have HBI := hide (fun (W : World) (hW : Below wo.heap.size wo W) => (kI W hW).2.1)
    have HSO := hide (fun (W : World) (hW : Below wo.heap.size wo W) => HSV.out W (HBEL.out.trans (hW.mono HBEL.out.size)))
    have HWZ := hide (HBEL.out.size)
    have hk48 := HLF.out.kinds
    have HLBK := hide HLF.out.bl
    obtain ⟨lk, hlk⟩ : ∃ n, f.kinds.length = n := ⟨_, rfl⟩
    have HLK := hide hlk
    obtain ⟨lb, hlb⟩ : ∃ n, f.base.length = n := ⟨_, rfl⟩
    have HLB := hide hlb
    rw [hlk] at HCL2 HWA HRF HDF HKI hk48 e0 HLBK HOL1 HOL2
    rw [hlb] at HCL2 HRF HDF HBI e1 HLBK
    obtain ⟨ls, hls2⟩ : ∃ ls, f.blocks.length = ls := ⟨_, rfl⟩
    have HLS := hide hls2
    rw [hls2] at HCL2 HRF HDF e4 hls40 hls1
    clear hi hf kI hsW hls2 hCS hZ1 hZ2 hlk hlb
    generalize f.params = fp, f.result = fr at *
    have hki : (0 : Int) ≤ (k : Int) := by omega
    have hkl : (k : Int) < (lp : Int) := by omega
    go_upto_region 9 with (fail)
    obtain ⟨w5, hw5⟩ : ∃ w5, w5 = wo.alloc (.cells #[.slice Ak lk ck, .slice Ab lb cb, .int .i64 fp, .int .i64 fr, .slice As ls cs] 30) := ⟨_, rfl⟩
    obtain ⟨h5, hh5⟩ : ∃ h5, wo.heap.size = h5 := ⟨_, rfl⟩
    have HX5 := hide (show Box w5 h5 #[.slice Ak lk ck, .slice Ab lb cb, .int .i64 fp, .int .i64 fr, .slice As ls cs] 30 by rw [hw5, ← hh5]; exact Box.new wo _ _)
    have HB5 := hide (show Below wo.heap.size wo w5 by rw [hw5]; exact alloc1 wo _)
    rw [← hw5, hh5]
    clear hw5 hh5 e0 e1 e2 e3 e4 hbs xp lxp
    have l5 := HX5.out.lt
    have hz5 := HB5.out.size
    have HK5 := hide (fun (W : World) (hW : Below w5.heap.size w5 W) => And.intro ((HX5.out.below hW).cell 0 (v := .slice Ak lk ck) rfl).1 (And.intro ((HX5.out.below hW).cell 1 (v := .slice Ab lb cb) rfl).1 (And.intro ((HX5.out.below hW).cell 2 (v := .int .i64 fp) rfl).1 (And.intro ((HX5.out.below hW).cell 3 (v := .int .i64 fr) rfl).1 ((HX5.out.below hW).cell 4 (v := .slice As ls cs) rfl).1))))
    have HUP := hide (fun (W : World) (hW : Below w5.heap.size w5 W) => HB5.out.trans (hW.mono HB5.out.size))
    obtain ⟨c0, c1, c2, c3, c4⟩ := HK5.out w5 (Below.refl _ _)
    go_upto_region 10 with (go_at_call 41; (with_reducible refine (HCL2.out w5 HB5.out (HSO.out w5 HB5.out)).mono ?_); rintro e w7 ⟨r7, rfl, hw7, hb7⟩; have HV7 := hide hw7.ws; have HCw7 := hide hb7; have lw7 := hb7.size; clear hw7 hb7 c0 c1 c2 c3 c4)
    go_wp2
    go_loopw [8] (fun i wr => ∃ v : Nat, v ≤ lk ∧ i = .int .i64 v ∧ Below w7.heap.size w7 wr) (fun i _ => lk - (intOf i).toNat)
    case atStart => exact ⟨0, Nat.zero_le _, rfl, Below.refl _ _⟩
    case round =>
      obtain ⟨v, hv, rfl, hbv⟩ := hrel
      obtain ⟨wv, rfl⟩ : ∃ wv, wv = wr := ⟨_, rfl⟩
      have HVF := hide hbv
      have HCwv := hide (HCw7.out.trans (hbv.mono HCw7.out.size))
      have lwv := HCwv.out.size
      clear hbv
      obtain ⟨c0, c1, c2, c3, c4⟩ := HK5.out wv HCwv.out
      by_cases hltv : v < lk
      case neg =>
        have HV8 := hide (HV7.out.below HVF.out)
        obtain ⟨na, hna⟩ : ∃ n, Z1.length = n := ⟨_, rfl⟩
        obtain ⟨nd, hnd⟩ : ∃ n, Z2.length = n := ⟨_, rfl⟩
        obtain ⟨nl, hnl⟩ : ∃ n, (listL CS).length = n := ⟨_, rfl⟩
        have HNA := hide hna
        have HND := hide hnd
        have HNLL := hide hnl
        have htw := HTW.out
        have hol1 := HOL1.out
        have hol2 := HOL2.out
        rw [hna, hnd, hnl] at htw
        rw [hna] at hol1
        rw [hnd] at hol2
        have hjw : IntKind.i64.wrap ((na : Int) + (nd : Int)) = (na : Int) + (nd : Int) := IntWalk.i64_in _ ⟨by omega, by omega⟩
        have hgt : ¬ (na : Int) + (nd : Int) > (nl : Int) := by omega
        have hgt2 : decide ((na : Int) + (nd : Int) > (nl : Int)) = false := by simp; omega
        have hgt3 : decide ((nl : Int) < (na : Int) + (nd : Int)) = false := by simp; omega
        clear hna hnd hnl
        go_upto_region 20 with (fail)
        go_region_held3 (fun w' => w'.cell? ⟨h5, 0, none⟩ = some (.slice Ak lk ck) ∧ w'.cell? ⟨h5, 1, none⟩ = some (.slice Ab lb cb) ∧ w'.cell? ⟨h5, 2, none⟩ = some (.int .i64 fp) ∧ w'.cell? ⟨h5, 3, none⟩ = some (.int .i64 fr) ∧ w'.cell? ⟨h5, 4, none⟩ = some (.slice As ls cs)) (first | go_keep | (exact qwd) | (exact qwb) | (exact qwa))
          (first
            | (go_at_call 48; refine (HLI.out wb r7 HV9.out).mono ?_; rintro e wd ⟨vd, rfl, ho, hb⟩; obtain ⟨Ad, cd, hvd, -, -, -⟩ := ho.sl; rw [HNLL.out] at hvd; subst hvd; have hc : Below w5.heap.size w5 wd := HCwb.out.trans (hb.mono HCwb.out.size); have qwd := HK5.out wd hc; have HCwd := hide hc; clear hb hc ho)
            | (go_at_call 46; refine (HDF.out wa (HUP.out wa HCwa.out) r7 HV8a.out).mono ?_; rintro e wb ⟨vb, rfl, ho, hb⟩; obtain ⟨Ab2, cb2, hvb, -, -, -⟩ := ho.sl; rw [HND.out] at hvb; subst hvb; have hc : Below w5.heap.size w5 wb := HCwa.out.trans (hb.mono HCwa.out.size); have qwb := HK5.out wb hc; have HCwb := hide hc; have HV9 := hide (HV8a.out.below hb); clear hb hc ho)
            | (go_at_call 44; refine (HRF.out (wv.drewN 1) (HUP.out _ (below_drewN HCwv.out 1)) r7 (HV8.out.below (below_drewN (Below.refl _ _) 1))).mono ?_; rintro e wa ⟨va, rfl, ho, hb0⟩; obtain ⟨Aa, ca, hva, -, -, -⟩ := ho.sl; rw [HNA.out] at hva; subst hva; have hb : Below wv.heap.size wv wa := ⟨hb0.os, hb0.tape, hb0.output, hb0.size, hb0.block⟩; have hc : Below w5.heap.size w5 wa := HCwv.out.trans (hb.mono HCwv.out.size); have qwa := HK5.out wa hc; have HCwa := hide hc; have HV8a := hide (HV8.out.below hb); clear hb hb0 hc ho))
        go_wp2
        go_roundw
        case rel => exact ⟨k + 1, by have := HKLT.out; omega, by go_num, HBW.out.trans ((HUP.out wd HCwd.out).mono hszo)⟩
        case measure => have := HKLT.out; simp [intOf]; omega
      have HVLT := hide hltv
      have HH0 := hide (rhasV0 (HSO.out wv (HUP.out wv HCwv.out)) (by have := HN1.out; omega) HW1.out v (by omega) (wantN f s v 0) rfl)
      go_upto_region 14 with (go_at_call 22; refine (HH0.out).mono ?_; rintro e w8 ⟨rfl, hb⟩; have hc : Below w5.heap.size w5 w8 := HCwv.out.trans (hb.mono HCwv.out.size); obtain ⟨x0, x1, x2, x3, x4⟩ := HK5.out w8 hc; have HCw8 := hide hc; have HFw8 := hide hb; have lw8 := hc.size; clear hb hc)
      go_wp2
      clear c0 c1 c2 c3 c4 x0 x1 x2 x3 x4
      go_loopw [9, 10] (fun wt i wr => ∃ u : Nat, u ≤ lk ∧ i = .int .i64 u ∧ wt = .bool (wantN f s v u) ∧ Below w8.heap.size w8 wr) (fun _ i _ => lk - (intOf i).toNat)
      case atStart => exact ⟨0, Nat.zero_le _, rfl, rfl, Below.refl _ _⟩
      case round =>
        obtain ⟨u, hu, rfl, rfl, hbu⟩ := hrel
        obtain ⟨wu, rfl⟩ : ∃ wu, wu = wr := ⟨_, rfl⟩
        have HUF := hide hbu
        have HCwu := hide (HCw8.out.trans (hbu.mono HCw8.out.size))
        have lwu := HCwu.out.size
        clear hbu
        obtain ⟨c0, c1, c2, c3, c4⟩ := HK5.out wu HCwu.out
        by_cases hltu : u < lk
        case neg =>
          obtain rfl : lk = u := by omega
          have hnl : ¬ ((lk : Int) < (lk : Int)) := by omega
          obtain ⟨bv, hbv⟩ : ∃ b, hasB CS (v : Int) = b := ⟨_, rfl⟩
          rw [HWA.out v HVLT.out, hbv]
          have HV8 := hide (HV7.out.below (HVF.out.trans ((HFw8.out.trans (HUF.out.mono HFw8.out.size)).mono HVF.out.size)))
          have HH1 := hide (rhasV0 HV8.out (by have := HCK.out.1; omega) HCK.out.2 v (by omega) bv hbv)
          clear hbv
          cases bv
          all_goals
            go_wp2_with (go_at_call 22; refine (HH1.out).mono ?_; rintro e w9 ⟨rfl, hb⟩; have hc : Below w5.heap.size w5 w9 := HCwu.out.trans (hb.mono HCwu.out.size); obtain ⟨y0, y1, y2, y3, y4⟩ := HK5.out w9 hc; have HCw9 := hide hc; have HFw9 := hide hb; have lw9 := hc.size; clear hb hc)
            go_roundw
            case rel => exact ⟨v + 1, by have := HVLT.out; omega, by go_num, HVF.out.trans ((HFw8.out.trans ((HUF.out.trans (HFw9.out.mono HUF.out.size)).mono HFw8.out.size)).mono HVF.out.size)⟩
            case measure => have := HVLT.out; simp [intOf]; omega
        have HULT := hide hltu
        obtain ⟨y, hy⟩ : ∃ y, f.kinds[u]? = some y := ⟨_, List.getElem?_eq_getElem (by have := HLK.out; omega)⟩
        obtain ⟨yb, hyb⟩ : ∃ y, f.base[u]? = some y := ⟨_, List.getElem?_eq_getElem (by have := HLB.out; have := HLBK.out; omega)⟩
        have HWS := hide (show wantN f s v (u + 1) = (wantN f s v u || (decide (y = 2) && (decide (yb = (v : Int)) && hasB s (u : Int)))) by
          show (_ || _) = _
          rw [show f.kinds.getD u 0 = y by simp [List.getD, hy], show f.base.getD u 0 = yb by simp [List.getD, hyb]])
        obtain ⟨bk, ok, hAk, hbk, d0, -⟩ := (HKI.out wu (HUP.out wu HCwu.out)).get hy
        obtain ⟨bbb, obb, hAb, hbb2, d1, -⟩ := (HBI.out wu (HUP.out wu HCwu.out)).get hyb
        have hu0 : (0 : Int) ≤ (u : Int) := by omega
        have hu1 : (u : Int) < (lk : Int) := by omega
        have hu2 : (u : Int) < (lb : Int) := by have := HLBK.out; omega
        rw [hAk] at c0
        rw [hAb] at c1
        obtain ⟨bw, hbw⟩ : ∃ b, wantN f s v u = b := ⟨_, rfl⟩
        rw [hbw]
        rw [hbw] at HWS
        clear hy hyb hbw hAk hAb
        cases bw
        case true =>
          go_wp2
          go_roundw
          case rel => exact ⟨u + 1, by have := HULT.out; omega, by go_num, by rw [HWS.out]; simp, HUF.out⟩
          case measure => have := HULT.out; simp [intOf]; omega
        case false =>
          by_cases h2 : y = 2
          case neg =>
            have q : (y == 2) = false := by simpa using h2
            have HWS2 := hide (show wantN f s v (u + 1) = false by rw [HWS.out, decide_eq_false h2]; rfl)
            clear h2
            go_wp2
            go_roundw
            case rel => exact ⟨u + 1, by have := HULT.out; omega, by go_num, by rw [HWS2.out], HUF.out⟩
            case measure => have := HULT.out; simp [intOf]; omega
          by_cases h3 : yb = (v : Int)
          case neg =>
            have q : (y == 2) = true := by simpa using h2
            have q2 : (yb == (v : Int)) = false := by simpa using h3
            have HWS2 := hide (show wantN f s v (u + 1) = false by rw [HWS.out, decide_eq_false h3]; simp)
            clear h3 h2
            go_wp2
            go_roundw
            case rel => exact ⟨u + 1, by have := HULT.out; omega, by go_num, by rw [HWS2.out], HUF.out⟩
            case measure => have := HULT.out; simp [intOf]; omega
          have q : (y == 2) = true := by simpa using h2
          have q2 : (yb == (v : Int)) = true := by simpa using h3
          obtain ⟨bu, hbu⟩ : ∃ b, hasB s (u : Int) = b := ⟨_, rfl⟩
          have HWS2 := hide (show wantN f s v (u + 1) = bu by rw [HWS.out, decide_eq_true h3, decide_eq_true h2, hbu]; simp)
          have HH2 := hide (rhasV0 (HSO.out wu (HUP.out wu HCwu.out)) (by have := HN1.out; omega) HW1.out u (by omega) bu hbu)
          clear h3 h2 hbu
          go_wp2_with (go_at_call 22; refine (HH2.out).mono ?_; rintro e w9 ⟨rfl, hb⟩; have hc : Below w5.heap.size w5 w9 := HCwu.out.trans (hb.mono HCwu.out.size); obtain ⟨y0, y1, y2, y3, y4⟩ := HK5.out w9 hc; have HCw9 := hide hc; have HFw9 := hide hb; have lw9 := hc.size; clear hb hc)
          go_roundw
          case rel => exact ⟨u + 1, by have := HULT.out; omega, by go_num, by rw [HWS2.out], HUF.out.trans (HFw9.out.mono HUF.out.size)⟩
          case measure => have := HULT.out; simp [intOf]; omega
end Go.Proofs.YtpccjlgnehghgaaDoor
