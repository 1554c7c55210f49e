/- The statement CodeBack, walked: it answers true. Condition: the table of parts reads as listed. -/
import Derived.Test.YtpgljbjgbjjcnaaDoorCEnds
import Derived.Test.YtpgljbjgbjjcnaaDoorRSame
set_option linter.unusedSimpArgs false
set_option linter.unusedVariables false
namespace Go.Proofs.YtpgljbjgbjjcnaaDoor
open Go.RowKit

theorem decR_no {zs : List Int} (h : (decR zs).2 ≠ 0) : (decR zs).1 = [] := by
  unfold decR at h ⊢
  split
  · rename_i h1; rw [if_pos h1] at h; exact absurd rfl h
  · rfl

set_option maxHeartbeats 1000000 in
set_option maxRecDepth 100000 in
theorem back_law (vp : Value) (p : List FunV) (Am : Option Addr) (nm cm : Nat) (zs : List Int) (w : World) (hT : TabP w) (hp : FunsV w (· < w.heap.size) vp p) (hm : Sl w w.heap.size .u8 Am zs) (hnm : zs.length = nm) (hcm : nm ≤ cm) (hmx : cm ≤ 9223372036854775807) (hby : AllB zs) :
    Calls Tryd.prog 5 #[.agg #[vp], .slice Am nm cm] w fun e w' => e = .returned (.bool true) ∧ Below w.heap.size w w' := by
  have hR := hp.range
  have kp := fun (W : World) (hW : Below w.heap.size w W) => hp.keep (up hW (Nat.le_refl _)) (fun _ h => h)
  obtain ⟨A, c, rfl, -, -⟩ := hp.open'
  have HA := hide (fun (W : World) (hW : Below w.heap.size w W) => alive_any W (hT.below hW hT.1))
  have HG := hide (fun (W : World) (hW : Below w.heap.size w W) => great_any _ p W w.heap.size hW.size (kp W hW))
  have HE := hide (fun (W : World) (hW : Below w.heap.size w W) => encode_any _ p W w.heap.size hW.size (hT.below hW hT.1) (kp W hW))
  have HEQ := hide (fun (W : World) (hW : Below w.heap.size w W) (v : Value) (q : List FunV) (hq : FunsV W (· < W.heap.size) v q) => encode_any v q W W.heap.size (Nat.le_refl _) (hT.below hW hT.1) hq)
  have HD := hide (fun (W : World) (hW : Below w.heap.size w W) (A : Option Addr) (n c : Nat) (zs : List Int) (hr : Sl W W.heap.size .u8 A zs) (hn : zs.length = n) (hc : n ≤ c) (hmax : c ≤ 9223372036854775807) (hby : ∀ z ∈ zs, 0 ≤ z ∧ z ≤ 255) => decode_any A n c zs W hr hn hc hmax hby (hT.below hW hT.1))
  have HSM := hide (fun (W : World) (hW : Below w.heap.size w W) (v : Value) (q : List FunV) (hq : FunsV W (· < W.heap.size) v q) => rsame_any _ v p q W W.heap.size (Nat.le_refl _) ((kp W hW).keep (fun _ _ _ => rfl) (fun b h => by have := hW.size; omega)) hq)
  have HM := hide (fun (W : World) (hW : Below w.heap.size w W) => (hm.below hW).more hW.size)
  have HNM := hide hnm
  have HBY := hide hby
  have HDEC := hide (fun (h : (encR p).2 = 0) => enc_dec hR h [])
  have HAB := hide (AllB.encR p)
  obtain ⟨ps, er, hdr⟩ : ∃ ps er, decR zs = (ps, er) := ⟨_, _, rfl⟩
  have HNO := hide (fun h => decR_no (zs := zs) h)
  have HBK := hide (fun h => dec_enc (zs := zs) hby h)
  have HDB := hide (fun (W : World) (hW : Below w.heap.size w W) => decode_any Am nm cm zs W ((hm.below hW).more hW.size) hnm hcm hmx hby (hT.below hW hT.1))
  unfold DecA at HDB
  rw [hdr] at HNO HBK HDB
  simp only [List.append_nil, if_true] at HDEC
  generalize hlp : p.length = lp at *
  generalize hlps : ps.length = lps at *
  have HLS := hide hlps
  have HLZ := hide (show ps = [] → lps = 0 from fun h => by rw [← hlps, h]; rfl)
  unfold EncA at HE
  generalize encR p = ep at *
  obtain ⟨ea, en⟩ := ep
  simp only at HE HDEC HAB HNO HBK HDB
  clear kp hp hT hR hm hnm hby hdr hlp hlps
  go_enter Tryd.func5, Tryd.ntmps5
  go_upto_region 3 with (go_at_call 13; refine (HA.out _ (alloc1 w _)).mono ?_; rintro e w1 ⟨rfl, hb1⟩; have hz1 := hb1.size; simp only [World.size_alloc] at hz1 hb1; have x1 := (hb1.cell (p := ⟨w.heap.size, 0, none⟩) (by show w.heap.size < _; omega)).trans (show _ = some (Value.slice A lp c) by simp); have hc1 := (alloc1 w (.cells #[.slice A lp c] 24)).trans (hb1.mono (by omega)))
  clear hb1
  have HC1 := hide hc1
  clear hc1
  go_upto_region 5 with (go_at_call 14; refine (HG.out w1 HC1.out).mono ?_; rintro e w2 ⟨b1, rfl, hb2⟩; have hz2 := hb2.size; have y1 := (hb2.cell (p := ⟨w.heap.size, 0, none⟩) (by show w.heap.size < _; omega)).trans x1; have HC2 := hide (HC1.out.trans (hb2.mono (by omega))); clear x1; have x1 := y1; clear y1 hb2)
  · go_ret
    exact ⟨rfl, HC2.out⟩
  · go_ret
    exact ⟨rfl, HC2.out⟩
  rcases (show en = 0 ∨ ((en : Int) == 0) = false from by by_cases h : en = 0; exact .inl h; right; simp; omega) with rfl | heb
  focus
    have hdec := HDEC.out rfl
    have HD1 := hide (fun (W : World) (hW : Below w.heap.size w W) (A : Option Addr) (n c : Nat) (hr : Sl W W.heap.size .u8 A ea) (hn : ea.length = n) (hc : n ≤ c) (hmax : c ≤ 9223372036854775807) => HD.out W hW A n c ea hr hn hc hmax HAB.out)
    unfold DecA at HD1
    rw [hdec] at HD1
    obtain ⟨na, hna⟩ : ∃ na, ea.length = na := ⟨_, rfl⟩
    rw [hna] at HE
    have HNA := hide hna
    clear HDEC hdec hna
    go_upto_region 8 with (first
      | (go_at_call 20; refine (HD1.out w3 HC3.out _ _ _ HS3.out HNA.out hl3 hm3).mono ?_; rintro e w4 ⟨v4, rfl, hv4, hb4⟩; obtain ⟨A4, c4, rfl, -, -⟩ := hv4.open'; have HV4 := hide hv4; have hz4 := hb4.size; have z1 := (hb4.cell (p := ⟨w.heap.size, 0, none⟩) (by show w.heap.size < _; omega)).trans y1; have HC4 := hide (HC3.out.trans (hb4.mono (by omega))); clear hb4 hv4 y1)
      | (go_at_call 15; refine (HE.out w2 HC2.out).mono ?_; rintro e w3 ⟨A3, c3, rfl, hs3, hl3, hm3, hr3, hb3⟩; have hz3 := hb3.size; have y1 := (hb3.cell (p := ⟨w.heap.size, 0, none⟩) (by show w.heap.size < _; omega)).trans x1; have HC3 := hide (HC2.out.trans (hb3.mono (by omega))); have HS3 := hide hs3; clear hb3 hs3 x1))
    obtain ⟨w5, hw5⟩ : ∃ w5, w5 = w4.alloc (.cells #[.slice A4 p.length c4] 24) := ⟨_, rfl⟩
    have h5 : w4.heap.size < w5.heap.size := by rw [hw5]; simp
    have HC5 := hide (show Below w.heap.size w w5 by rw [hw5]; exact HC4.out.alloc (by have := HC4.out.size; omega) _)
    have y5 : w5.cell? ⟨w4.heap.size, 0, none⟩ = some (.slice A4 p.length c4) := by rw [hw5]; simp
    have x5 : w5.cell? ⟨w.heap.size, 0, none⟩ = some (.slice A lp c) := by rw [hw5]; exact (World.cell?_alloc_lt _ _ _ (by show w.heap.size < _; omega)).trans z1
    have HV5 := hide (show FunsV w5 (· < w5.heap.size) (.slice A4 p.length c4) p by rw [hw5]; exact HV4.out.keep (Same'.of_below (alloc1 w4 _)) (fun b h => by simp; omega))
    rw [← hw5]
    have HSP := hide ((HSM.out w5 HC5.out _ p HV5.out).mono (R' := fun e w' => e = .returned (.bool true) ∧ Below w5.heap.size w5 w') (fun e w' ⟨h1, h2⟩ => ⟨by rw [h1]; simp, h2⟩))
    clear hw5 HV4 HS3 HD1 z1 HV5
    generalize p.length = lp4 at *
    go_upto_region 10 with (go_at_call 19; refine HSP.out.mono ?_; rintro e wz ⟨rfl, hbz⟩; have HCz := hide (HC5.out.trans (hbz.mono (by have := HC5.out.size; omega))); clear hbz x5 y5)
  rotate_left
  focus
    go_upto_region 10 with (go_at_call 15; refine (HE.out w2 HC2.out).mono ?_; rintro e wz ⟨A3, c3, rfl, -, -, -, -, hbz⟩; have HCz := hide (HC2.out.trans (hbz.mono (by omega))); clear hbz x1)
  all_goals
    go_upto_region 11 with (go_at_call 20; refine (HDB.out wz HCz.out).mono ?_; rintro e w9 ⟨v9, rfl, hv9, hb9⟩; obtain ⟨A9, c9, rfl, -, -⟩ := hv9.open'; have hz9 := hb9.size; have HC9 := hide (HCz.out.trans (hb9.mono HCz.out.size)); have HV9 := hide hv9; clear hb9 hv9)
    rw [HLS.out] at *
    obtain ⟨w10, hw10⟩ : ∃ w10, w10 = w9.alloc (.cells #[.slice A9 lps c9] 24) := ⟨_, rfl⟩
    have h10 : w9.heap.size < w10.heap.size := by rw [hw10]; simp
    have HC10 := hide (show Below w.heap.size w w10 by rw [hw10]; exact HC9.out.alloc (by have := HC9.out.size; omega) _)
    have y10 : w10.cell? ⟨w9.heap.size, 0, none⟩ = some (.slice A9 lps c9) := by rw [hw10]; simp
    have HV10 := hide (show FunsV w10 (· < w10.heap.size) (.slice A9 lps c9) ps by rw [hw10]; exact HV9.out.keep (Same'.of_below (alloc1 w9 _)) (fun b h => by simp; omega))
    rw [← hw10]
    clear hw10 HV9
    by_cases her : er = 0
    · subst her
      have HEP := hide (HEQ.out w10 HC10.out _ _ HV10.out)
      unfold EncA at HEP
      rw [HBK.out rfl] at HEP
      clear HBK HNO HE HEQ HD HSM HLS
      go_upto_region 14 with (go_at_call 15; refine HEP.out.mono ?_; rintro e w11 ⟨A11, c11, rfl, hs11, hl11, hm11, hr11, hb11⟩; have HC11 := hide (HC10.out.trans (hb11.mono HC10.out.size)); have HS11 := hide hs11; have HM11 := hide (HM.out w11 HC11.out); clear hb11 hs11 hm11)
      have HSE := hide (same_any A11 Am nm nm c11 cm zs zs w11 _ _ HS11.out HM11.out HNM.out HNM.out (by have := HNM.out; omega) (by have := HNM.out; omega))
      simp only [decide_true] at HSE
      rw [HNM.out] at *
      go_wp2_with (go_at_call 17; refine HSE.out.mono ?_; rintro e w12 ⟨rfl, q, rfl⟩)
      go_ret
      exact ⟨rfl, below_drewN HC11.out _⟩
    · have hps := HNO.out her
      have hl0 : lps = 0 := HLZ.out hps
      have heb2 : ((er : Int) != 0) = true := by simp; omega
      subst hl0
      clear her hps
      go_wp2
      go_ret
      exact ⟨rfl, HC10.out⟩
end Go.Proofs.YtpgljbjgbjjcnaaDoor
