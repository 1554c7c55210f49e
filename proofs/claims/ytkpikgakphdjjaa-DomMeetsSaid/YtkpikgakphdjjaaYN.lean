/- The statement DomMeets, walked: it answers true. Condition: no slice of the program is longer than any machine's memory. -/
import Derived.Test.YtkpikgakphdjjaaYU
import Derived.Test.YtkpikgakphdjjaaFU
set_option linter.unusedSimpArgs false
set_option linter.unusedVariables false
namespace Go.Proofs.Ytkpikgakphdjjaa
open Go.RowKit
attribute [local go_sem ↓] Go.wp_at_zero Go.wp_at_succ

set_option maxHeartbeats 16000000 in
set_option maxRecDepth 100000 in
theorem meets_law (vp : Value) (p : List FunV) (an bn : Nat) (ha : an < 256) (hb : bn < 256) (w : World) (hp : FunsV w (· < w.heap.size) vp p) (hsz : progSize p) :
    Calls Try.prog 7 #[.agg #[vp], .agg #[.int .u8 (an : Int), .int .u8 (bn : Int)]] w fun e w' => e = .returned (.bool true) ∧ Below w.heap.size w w' := by
  have HKP := hide (fun (W : World) (hW : Below w.heap.size w W) => hp.keep (up hW (Nat.le_refl _)) (fun _ h => h))
  have HOUT := hide (fun (W : World) (hW : Below w.heap.size w W) => out6_any vp p W w.heap.size hW.size (hp.keep (up hW (Nat.le_refl _)) (fun _ h => h)) hsz)
  have HALLOK := hide (fun h => @flowOk_of p h)
  obtain ⟨A, c, rfl, hpc, hpm⟩ := hp.open'
  obtain ⟨lp, hlp⟩ : ∃ lp, p.length = lp := ⟨_, rfl⟩
  have HLP := hide hlp
  rw [hlp] at HKP HOUT hpc ⊢
  clear hp hsz hlp
  go_enter Try.func7, Try.ntmps7
  go_upto_region 1 with (fail)
  obtain ⟨w0, hw0⟩ : ∃ w0, w0 = (w.alloc (.cells #[.slice A lp c] 24)).alloc (.cells #[.int .u8 (an : Int), .int .u8 (bn : Int)] 40) := ⟨_, rfl⟩
  obtain ⟨h2, hh2⟩ : ∃ h2, w.heap.size + 1 = h2 := ⟨_, rfl⟩
  have HX0 := hide (show Box w0 w.heap.size #[.slice A lp c] 24 by rw [hw0]; exact (Box.new w _ _).alloc _)
  have HY0 := hide (show Box w0 h2 #[.int .u8 (an : Int), .int .u8 (bn : Int)] 40 by
    have h := Box.new (w.alloc (.cells #[.slice A lp c] 24)) #[.int .u8 (an : Int), .int .u8 (bn : Int)] 40
    rw [World.size_alloc, hh2] at h
    rw [hw0]; exact h)
  have HB0 := hide (show Below w.heap.size w w0 by rw [hw0]; exact alloc2 w _ _)
  rw [← hw0, hh2]
  clear hw0 hh2
  go_upto_region 3 with (go_at_call 16; refine (alive6_any w0).mono ?_; rintro e w1 ⟨rfl, hb1⟩; have HX1 := hide (HX0.out.below hb1); have HY1 := hide (HY0.out.below hb1); have HC1 := hide (HB0.out.trans (hb1.mono HB0.out.size)); clear hb1)
  have x1 := (HX1.out.cell 0 (v := .slice A lp c) rfl).1
  have l1 := HX1.out.lt
  go_upto_region 5 with (go_at_call 17; refine (HOUT.out w1 HC1.out).mono ?_; rintro e w2 ⟨b1, rfl, hs2, hb2⟩; have HB2 := hide (HC1.out.trans (hb2.mono HC1.out.size)); have HX2 := hide (HX1.out.below hb2); have HY2 := hide (HY1.out.below hb2); have HS2 := hide hs2; clear x1 hb2 hs2)
  all_goals try (go_ret; exact ⟨rfl, HB2.out⟩)
  have hb1f : b1 = false := by assumption
  subst hb1f
  have HOKS := hide (HALLOK.out (HS2.out.out rfl))
  clear HOUT HALLOK HS2 HC1 HX1 HY1 l1
  go_wp2
  go_loopw [5] (fun i wr => ∃ k : Nat, k ≤ lp ∧ i = .int .i64 k ∧ Below w2.heap.size w2 wr) (fun i _ => lp - (intOf i).toNat)
  case atStart => exact ⟨0, Nat.zero_le _, rfl, Below.refl _ _⟩
  case round =>
    obtain ⟨k, hk, rfl, hb'⟩ := hrel
    obtain ⟨wo, rfl⟩ : ∃ wo, wo = wr := ⟨_, rfl⟩
    have hszo := hb'.size
    have HBEL := hide (HB2.out.trans (hb'.mono HB2.out.size))
    have HXO := hide (HX2.out.below hb')
    have HBW := hide hb'
    have HYO := hide (HY2.out.below hb')
    have xp := (HXO.out.cell 0 (v := .slice A lp c) rfl).1
    have lxp := HXO.out.lt
    clear hb'
    by_cases hlt : k < lp
    case neg =>
      go_wp2
      go_ret
      exact ⟨rfl, HBEL.out⟩
    obtain ⟨f, hf⟩ : ∃ f, p[k]? = some f := ⟨_, List.getElem?_eq_getElem (by have := HLP.out; omega)⟩
    obtain ⟨b, o, Ak, ck, Ab, cb, As, cs, hA, hbb, ⟨e0, e1, e2, e3, e4⟩, hi⟩ := (HKP.out wo HBEL.out).get hf
    subst hA
    have hbs : b < wo.heap.size := by have := HBEL.out.size; omega
    obtain ⟨hok, hls1⟩ := HOKS.out f (List.mem_of_getElem? hf)
    have kI := fun (W : World) (hW : Below wo.heap.size wo W) => hi.keep (w := wo) (S := (· < w.heap.size)) (up hW HBEL.out.size) (fun _ h => h)
    obtain ⟨AL, hAL⟩ := AbvOf.ex HBEL.out.size hi hok hls1
    have HAL := hide hAL
    have HALL := hide hAL.len
    have HALT := hide (fun b hb => hAL.lt hls1 b hb)
    have hls40 := hok.1
    obtain ⟨ra, hra⟩ : ∃ r, an % f.blocks.length = r := ⟨_, rfl⟩
    have hral : ra < f.blocks.length := by rw [← hra]; exact Nat.mod_lt _ (by omega)
    obtain ⟨rb, hrb⟩ : ∃ r, bn % f.blocks.length = r := ⟨_, rfl⟩
    have hrbl : rb < f.blocks.length := by rw [← hrb]; exact Nat.mod_lt _ (by omega)
    have HDT := hide (fun (W : World) (hW : Below wo.heap.size wo W) (x y : Int) (h : domQ AL x y) => ((ddom_any _ _ _ f AL hAL x y W w.heap.size (by have := hW.size; have := HBEL.out.size; omega) (kI W hW) hok hls1).mono (R' := fun e w' => e = .returned (.bool true) ∧ Below W.heap.size W w') (fun e w' ⟨d, h1, h2, h3⟩ => ⟨by rw [h1, h2.2 h], h3⟩)))
    have HDF := hide (fun (W : World) (hW : Below wo.heap.size wo W) (x y : Int) (h : ¬ domQ AL x y) => ((ddom_any _ _ _ f AL hAL x y W w.heap.size (by have := hW.size; have := HBEL.out.size; omega) (kI W hW) hok hls1).mono (R' := fun e w' => e = .returned (.bool false) ∧ Below W.heap.size W w') (fun e w' ⟨d, h1, h2, h3⟩ => ⟨by rw [h1, Bool.eq_false_iff.2 (fun h9 => h (h2.1 h9))], h3⟩)))
    have HMT := hide (fun (W : World) (hW : Below wo.heap.size wo W) (x y m : Int) (h : ∀ m', meetZ AL x y m' → m' = m) => ((dmeets_any _ _ _ f AL hAL x y W w.heap.size (by have := hW.size; have := HBEL.out.size; omega) (kI W hW) hok hls1).mono (R' := fun e w' => e = .returned (.int .i64 m) ∧ Below W.heap.size W w') (fun e w' ⟨d, h1, h2, h3⟩ => ⟨by rw [h1, h d h2], h3⟩)))
    have HKX := hide (fun (W : World) (hW : Below wo.heap.size wo W) (x : Int) => dkids_any _ _ _ f AL hAL x W w.heap.size (by have := hW.size; have := HBEL.out.size; omega) (kI W hW) hok hls1)
    have HKE := hide (fun b : Nat => (show kidsL AL (b : Int) = kidsTo AL b f.blocks.length by rw [kidsL_eq hAL hls1, hAL.len]))
    have HD0 := hide (fun x : Nat => dom0 hAL hls1 x)
    have HDN := hide (fun x y : Nat => domQ_nat hAL hls1 x y)
    have HME := hide (fun (x y : Nat) (hx : inA AL x) (hy : inA AL y) => meet_ex hAL hls1 hx hy)
    have HMN := hide (fun (x y : Nat) (hn : ¬ (inA AL x ∧ inA AL y)) => meet_no hAL hls1 hn)
    have HKN := hide (fun (x y m k : Nat) hs hm hk => kid_not (x := x) (y := y) (m := m) (k := k) hAL hls1 hs hm hk)
    generalize f.kinds.length = lk, f.base.length = lb, f.blocks.length = ls, f.params = fp, f.result = fr at *
    have ta1 : (an : Int).tmod (ls : Int) = (ra : Int) := by rw [← hra]; exact (Int.ofNat_tmod an ls).symm
    have ta2 : (an : Int) % (ls : Int) = (ra : Int) := by rw [← hra]; exact (Int.natCast_emod an ls).symm
    have Ta1 := hide ta1; have Ta2 := hide ta2
    have tb1 : (bn : Int).tmod (ls : Int) = (rb : Int) := by rw [← hrb]; exact (Int.ofNat_tmod bn ls).symm
    have tb2 : (bn : Int) % (ls : Int) = (rb : Int) := by rw [← hrb]; exact (Int.natCast_emod bn ls).symm
    have Tb1 := hide tb1; have Tb2 := hide tb2
    have t5 : ((ls : Int) == 0) = false := by simp; omega
    have T5 := hide t5
    clear t5 ta1 ta2 hra tb1 tb2 hrb
    have hki : (0 : Int) ≤ (k : Int) := by omega
    have hkl : (k : Int) < (lp : Int) := by omega
    clear hi hf kI hok hAL
    go_upto_region 9 with (fail)
    obtain ⟨w5, hw5⟩ : ∃ w5, w5 = wo.alloc (.cells #[.slice Ak lk ck, .slice Ab lb cb, .int .i64 fp, .int .i64 fr, .slice As ls cs] 30) := ⟨_, rfl⟩
    obtain ⟨h5, hh5⟩ : ∃ h5, wo.heap.size = h5 := ⟨_, rfl⟩
    have HX5 := hide (show Box w5 h5 #[.slice Ak lk ck, .slice Ab lb cb, .int .i64 fp, .int .i64 fr, .slice As ls cs] 30 by rw [hw5, ← hh5]; exact Box.new wo _ _)
    have HY5 := hide (show Box w5 h2 #[.int .u8 (an : Int), .int .u8 (bn : Int)] 40 by rw [hw5]; exact HYO.out.alloc _)
    have HB5 := hide (show Below wo.heap.size wo w5 by rw [hw5]; exact alloc1 wo _)
    rw [← hw5, hh5]
    clear hw5 hh5 e0 e1 e2 e3 e4 hbs xp lxp
    have l5 := HX5.out.lt
    have hz5 := HB5.out.size
    have ly5 := HY5.out.lt
    have c4 := (HX5.out.cell 4 (v := .slice As ls cs) rfl).1
    have d0 := (HY5.out.cell 0 (v := .int .u8 (an : Int)) rfl).1
    have ta1 := Ta1.out; have ta2 := Ta2.out
    have ea : IntKind.i64.wrap (an : Int) = (an : Int) := IntWalk.i64_in _ ⟨by omega, by omega⟩
    have d1 := (HY5.out.cell 1 (v := .int .u8 (bn : Int)) rfl).1
    have tb1 := Tb1.out; have tb2 := Tb2.out
    have eb : IntKind.i64.wrap (bn : Int) = (bn : Int) := IntWalk.i64_in _ ⟨by omega, by omega⟩
    have t5 := T5.out
    go_quiet (fail)
    obtain ⟨w6, hw6⟩ : ∃ w6, w6 = w5.drewN nq := ⟨_, rfl⟩
    have HX6 := hide (show Box w6 h5 #[.slice Ak lk ck, .slice Ab lb cb, .int .i64 fp, .int .i64 fr, .slice As ls cs] 30 by rw [hw6]; exact HX5.out)
    have HB6 := hide (show Below wo.heap.size wo w6 by rw [hw6]; exact below_drewN HB5.out nq)
    have hs6 : w6.heap.size = w5.heap.size := by rw [hw6]; rfl
    rw [← hw6]
    clear hw6 c4 t5 d0 ta1 ta2 ea d1 tb1 tb2 eb
    have l6 : h5 < w6.heap.size := by omega
    have HK5 := hide (fun (W : World) (hW : Below w6.heap.size w6 W) => And.intro ((HX6.out.below hW).cell 0 (v := .slice Ak lk ck) rfl).1 (And.intro ((HX6.out.below hW).cell 1 (v := .slice Ab lb cb) rfl).1 (And.intro ((HX6.out.below hW).cell 2 (v := .int .i64 fp) rfl).1 (And.intro ((HX6.out.below hW).cell 3 (v := .int .i64 fr) rfl).1 ((HX6.out.below hW).cell 4 (v := .slice As ls cs) rfl).1))))
    have HUP := hide (fun (W : World) (hW : Below w6.heap.size w6 W) => HB6.out.trans (hW.mono HB6.out.size))
    have HC6 := hide (Below.refl w6.heap.size w6)
    obtain ⟨c0, c1, c2, c3, c4⟩ := HK5.out w6 HC6.out
    have hwo6 := HB6.out.size
    by_cases hra : inA AL ra
    case neg =>
      have HM := hide (HMN.out ra rb (fun h => hra h.1))
      have HF := hide (show ¬ domQ AL 0 ra from fun h => hra ((HD0.out ra).1 h))
      clear hra
      go_wp2_with (first
        | (go_at_call 18; refine (HDF.out w7 (HUP.out w7 HC7.out) 0 ra HF.out).mono ?_; rintro e w8 ⟨rfl, hb8⟩; have hc8 := HC7.out.trans (hb8.mono HC7.out.size); obtain ⟨y80, y81, y82, y83, y84⟩ := HK5.out w8 hc8; have HC8 := hide hc8; have lx8 : h5 < w8.heap.size := (by have := hc8.size; omega); clear hb8 hc8)
        | (go_at_call 22; refine (HMT.out w6 (HUP.out w6 HC6.out) ra rb (-1) HM.out).mono ?_; rintro e w7 ⟨rfl, hb7⟩; have hc7 := HC6.out.trans (hb7.mono HC6.out.size); obtain ⟨y70, y71, y72, y73, y74⟩ := HK5.out w7 hc7; have HC7 := hide hc7; have lx7 : h5 < w7.heap.size := (by have := hc7.size; omega); clear hb7 hc7))
      go_roundw
      case rel => exact ⟨k + 1, by omega, by go_num, HBW.out.trans ((HUP.out w8 HC8.out).mono hszo)⟩
      case measure => simp [intOf]; omega
    by_cases hrb : inA AL rb
    case neg =>
      have HM := hide (HMN.out ra rb (fun h => hrb h.2))
      have HT := hide ((HD0.out ra).2 hra)
      have HF := hide (show ¬ domQ AL 0 rb from fun h => hrb ((HD0.out rb).1 h))
      clear hra hrb
      go_wp2_with (first
        | (go_at_call 18; refine (HDF.out w8 (HUP.out w8 HC8.out) 0 rb HF.out).mono ?_; rintro e w9 ⟨rfl, hb9⟩; have hc9 := HC8.out.trans (hb9.mono HC8.out.size); obtain ⟨y90, y91, y92, y93, y94⟩ := HK5.out w9 hc9; have HC9 := hide hc9; have lx9 : h5 < w9.heap.size := (by have := hc9.size; omega); clear hb9 hc9)
        | (go_at_call 18; refine (HDT.out w7 (HUP.out w7 HC7.out) 0 ra HT.out).mono ?_; rintro e w8 ⟨rfl, hb8⟩; have hc8 := HC7.out.trans (hb8.mono HC7.out.size); obtain ⟨y80, y81, y82, y83, y84⟩ := HK5.out w8 hc8; have HC8 := hide hc8; have lx8 : h5 < w8.heap.size := (by have := hc8.size; omega); clear hb8 hc8)
        | (go_at_call 22; refine (HMT.out w6 (HUP.out w6 HC6.out) ra rb (-1) HM.out).mono ?_; rintro e w7 ⟨rfl, hb7⟩; have hc7 := HC6.out.trans (hb7.mono HC6.out.size); obtain ⟨y70, y71, y72, y73, y74⟩ := HK5.out w7 hc7; have HC7 := hide hc7; have lx7 : h5 < w7.heap.size := (by have := hc7.size; omega); clear hb7 hc7))
      go_roundw
      case rel => exact ⟨k + 1, by omega, by go_num, HBW.out.trans ((HUP.out w9 HC9.out).mono hszo)⟩
      case measure => simp [intOf]; omega
    obtain ⟨m, hmI, hms, hm1, hm2⟩ := HME.out ra rb hra hrb
    have HM1 := hide hm1
    have HM2 := hide hm2
    have HTA := hide ((HD0.out ra).2 hra)
    have HTB := hide ((HD0.out rb).2 hrb)
    have HDA := hide ((HDN.out m ra).2 ⟨hmI, hra, ((hms m).1 .refl).1⟩)
    have HDB := hide ((HDN.out m rb).2 ⟨hmI, hrb, ((hms m).1 .refl).2⟩)
    have HKY := hide (fun x hx => HKN.out ra rb m x hms hmI hx)
    have hq1 : ((m : Int) == -1) = false := by first | (simp; done) | (simp; omega)
    clear hm1 hm2 hra hrb hmI hms
    go_wp2_with (first
        | (go_at_call 26; refine (HKX.out w12 (HUP.out w12 HC12.out) (m : Int)).mono ?_; rintro e w13 ⟨v13, rfl, ho13, hb13⟩; rw [HKE.out] at ho13; have HO13 := hide ho13; have HC13 := hide (HC12.out.trans (hb13.mono HC12.out.size)); clear ho13 hb13)
        | (go_at_call 22; refine (HMT.out w11 (HUP.out w11 HC11.out) rb ra m HM2.out).mono ?_; rintro e w12 ⟨rfl, hb12⟩; have hc12 := HC11.out.trans (hb12.mono HC11.out.size); obtain ⟨y120, y121, y122, y123, y124⟩ := HK5.out w12 hc12; have HC12 := hide hc12; have lx12 : h5 < w12.heap.size := (by have := hc12.size; omega); clear hb12 hc12)
        | (go_at_call 18; refine (HDT.out w10 (HUP.out w10 HC10.out) m rb HDB.out).mono ?_; rintro e w11 ⟨rfl, hb11⟩; have hc11 := HC10.out.trans (hb11.mono HC10.out.size); obtain ⟨y110, y111, y112, y113, y114⟩ := HK5.out w11 hc11; have HC11 := hide hc11; have lx11 : h5 < w11.heap.size := (by have := hc11.size; omega); clear hb11 hc11)
        | (go_at_call 18; refine (HDT.out w9 (HUP.out w9 HC9.out) m ra HDA.out).mono ?_; rintro e w10 ⟨rfl, hb10⟩; have hc10 := HC9.out.trans (hb10.mono HC9.out.size); obtain ⟨y100, y101, y102, y103, y104⟩ := HK5.out w10 hc10; have HC10 := hide hc10; have lx10 : h5 < w10.heap.size := (by have := hc10.size; omega); clear hb10 hc10)
        | (go_at_call 18; refine (HDT.out w8 (HUP.out w8 HC8.out) 0 rb HTB.out).mono ?_; rintro e w9 ⟨rfl, hb9⟩; have hc9 := HC8.out.trans (hb9.mono HC8.out.size); obtain ⟨y90, y91, y92, y93, y94⟩ := HK5.out w9 hc9; have HC9 := hide hc9; have lx9 : h5 < w9.heap.size := (by have := hc9.size; omega); clear hb9 hc9)
        | (go_at_call 18; refine (HDT.out w7 (HUP.out w7 HC7.out) 0 ra HTA.out).mono ?_; rintro e w8 ⟨rfl, hb8⟩; have hc8 := HC7.out.trans (hb8.mono HC7.out.size); obtain ⟨y80, y81, y82, y83, y84⟩ := HK5.out w8 hc8; have HC8 := hide hc8; have lx8 : h5 < w8.heap.size := (by have := hc8.size; omega); clear hb8 hc8)
        | (go_at_call 22; refine (HMT.out w6 (HUP.out w6 HC6.out) ra rb m HM1.out).mono ?_; rintro e w7 ⟨rfl, hb7⟩; have hc7 := HC6.out.trans (hb7.mono HC6.out.size); obtain ⟨y70, y71, y72, y73, y74⟩ := HK5.out w7 hc7; have HC7 := hide hc7; have lx7 : h5 < w7.heap.size := (by have := hc7.size; omega); clear hb7 hc7))
    obtain ⟨A7, k7, hv7, hle7, hme7, hs7⟩ := HO13.out.sl
    have HS7 := hide hs7
    obtain ⟨nL, hnL⟩ : ∃ n, (kidsTo AL m ls).length = n := ⟨_, rfl⟩
    have HNL := hide hnL
    rw [hnL] at hv7 hle7
    have hnl40 : nL ≤ 40 := by have := kidsTo_len AL m ls; omega
    subst hv7
    have hs13 := HC13.out.size
    clear hs7 hnL hme7 y70 y71 y72 y73 y74 y80 y81 y82 y83 y84 y90 y91 y92 y93 y94 y100 y101 y102 y103 y104 y110 y111 y112 y113 y114 y120 y121 y122 y123 y124 c0 c1 c2 c3 c4
    go_wp2
    go_loopw [11] (fun i wr => ∃ j : Nat, j ≤ nL ∧ i = .int .i64 j ∧ Below w13.heap.size w13 wr) (fun i _ => nL - (intOf i).toNat)
    case atStart => exact ⟨0, Nat.zero_le _, rfl, Below.refl _ _⟩
    case round =>
      obtain ⟨j, hj, rfl, hbj⟩ := hrel
      obtain ⟨wj, rfl⟩ : ∃ wj, wj = wr := ⟨_, rfl⟩
      have hzj := hbj.size
      have HBJ := hide hbj
      have HCj := hide (HC13.out.trans (hbj.mono HC13.out.size))
      clear hbj
      by_cases hlj : j < nL
      case neg =>
        have HEND := hide (HBW.out.trans ((HUP.out wj HCj.out).mono hszo))
        go_wp2
        go_roundw
        case rel => exact ⟨k + 1, by omega, by go_num, HEND.out⟩
        case measure => simp [intOf]; omega
      obtain ⟨y, hy⟩ : ∃ y, (kidsTo AL m ls)[j]? = some y := ⟨_, List.getElem?_eq_getElem (by have := HNL.out; omega)⟩
      obtain ⟨x, rfl, hxl, hxa⟩ := kids_mem.1 (List.mem_of_getElem? hy)
      obtain ⟨b7, o7, rfl, hb7, hc7⟩ := (HS7.out.below HBJ.out) (by have := HNL.out; omega)
      have cj := hc7 j (by have := HNL.out; omega)
      rw [List.getD_eq_getElem?_getD, hy] at cj
      simp only [Option.getD_some] at cj
      have hb7s : b7 < wj.heap.size := by omega
      have HNO := hide (HKY.out x hxa)
      obtain ⟨c0, c1, c2, c3, c4⟩ := HK5.out wj HCj.out
      have lxj : h5 < wj.heap.size := by have := HCj.out.size; omega
      have hji : (0 : Int) ≤ (j : Int) := by omega
      have hjl : (j : Int) < (nL : Int) := by omega
      have HKJ := hide (fun (W : World) (hW : Below wj.heap.size wj W) => And.intro (HK5.out W (HCj.out.trans (hW.mono HCj.out.size))) ((hW.cell (p := ⟨b7, o7 + j, none⟩) hb7s).trans cj))
      have HUJ := hide (fun (W : World) (hW : Below wj.heap.size wj W) => HUP.out W (HCj.out.trans (hW.mono HCj.out.size)))
      clear hc7 hy hxa
      by_cases hd : domQ AL x ra
      · have HT := hide hd
        have HF := hide (show ¬ domQ AL x rb from fun h => HNO.out ⟨hd, h⟩)
        clear hd
        go_upto_region 20 with (fail)
        go_region_held3 (fun w' => (w'.cell? ⟨h5, 0, none⟩ = some (.slice Ak lk ck) ∧ w'.cell? ⟨h5, 1, none⟩ = some (.slice Ab lb cb) ∧ w'.cell? ⟨h5, 2, none⟩ = some (.int .i64 fp) ∧ w'.cell? ⟨h5, 3, none⟩ = some (.int .i64 fr) ∧ w'.cell? ⟨h5, 4, none⟩ = some (.slice As ls cs)) ∧ w'.cell? ⟨b7, o7 + j, none⟩ = some (.int .i64 (x : Int))) (first | go_keep | (exact qb) | (exact qa))
          (first
            | (go_at_call 18; refine (HDF.out wA (HUJ.out wA HCA.out) x rb HF.out).mono ?_; rintro e wB ⟨rfl, hbB⟩; have hcB := HCA.out.trans (hbB.mono HCA.out.size); have qb := HKJ.out wB hcB; have HCB := hide hcB; clear hbB hcB)
            | (go_at_call 18; refine (HDT.out _ (HUJ.out _ (below_drewN (Below.refl _ _) 1)) x ra HT.out).mono ?_; rintro e wA ⟨rfl, hbA⟩; have hcA : Below wj.heap.size wj wA := ⟨hbA.os, hbA.tape, hbA.output, hbA.size, hbA.block⟩; have qa := HKJ.out wA hcA; have HCA := hide hcA; clear hbA hcA))
        all_goals
          go_wp2
          go_roundw
          case rel => exact ⟨j + 1, by omega, by go_num, HBJ.out.trans (HCB.out.mono hzj)⟩
          case measure => simp [intOf]; omega
      · have HF := hide hd
        clear hd
        go_upto_region 20 with (fail)
        refine wp_region_held_drew (S := (fun w' => (w'.cell? ⟨h5, 0, none⟩ = some (.slice Ak lk ck) ∧ w'.cell? ⟨h5, 1, none⟩ = some (.slice Ab lb cb) ∧ w'.cell? ⟨h5, 2, none⟩ = some (.int .i64 fp) ∧ w'.cell? ⟨h5, 3, none⟩ = some (.int .i64 fr) ∧ w'.cell? ⟨h5, 4, none⟩ = some (.slice As ls cs)) ∧ w'.cell? ⟨b7, o7 + j, none⟩ = some (.int .i64 (x : Int)))) (by kernel_rfl) ⟨⟨c0, c1, c2, c3, c4⟩, cj⟩ (fun hHeld => ?_)
        refine wpAnyH_take (i := 0) (v := ?_) rfl (by kernel_rfl) (by kernel_rfl) (by kernel_rfl) (fun _ _ _ h => h) (Or.inl ⟨by rfl, ?_⟩) (by assumption) ?_
        rotate_left
        focus
          intro w hSw
          try dsimp only at hSw
          go_simp
          try with_reducible rfl
        try simp only [List.getElem_toArray, List.getElem_cons_succ, List.getElem_cons_zero, Act.put, List.setIfInBounds_toArray, List.set_cons_zero, List.set_cons_succ]
        refine wpAnyH_take (i := 1) (v := ?_) rfl (by kernel_rfl) (by kernel_rfl) (by kernel_rfl) (fun _ _ _ h => h) (Or.inl ⟨by rfl, ?_⟩) (by assumption) ?_
        rotate_left
        focus
          intro w hSw
          try dsimp only at hSw
          go_simp
          try with_reducible rfl
        try simp only [List.getElem_toArray, List.getElem_cons_succ, List.getElem_cons_zero, Act.put, List.setIfInBounds_toArray, List.set_cons_zero, List.set_cons_succ]
        refine wpAnyH_take (i := 2) (v := ?_) rfl (by kernel_rfl) (by kernel_rfl) (by kernel_rfl) (fun _ _ _ h => h) (Or.inl ⟨by rfl, ?_⟩) (by assumption) ?_
        rotate_left
        focus
          intro w hSw
          try dsimp only at hSw
          go_simp
          try with_reducible rfl
        try simp only [List.getElem_toArray, List.getElem_cons_succ, List.getElem_cons_zero, Act.put, List.setIfInBounds_toArray, List.set_cons_zero, List.set_cons_succ]
        refine wpAnyH_take (i := 3) (v := ?_) rfl (by kernel_rfl) (by kernel_rfl) (by kernel_rfl) (fun _ _ _ h => h) (Or.inl ⟨by rfl, ?_⟩) (by assumption) ?_
        rotate_left
        focus
          intro w hSw
          try dsimp only at hSw
          go_simp
          try with_reducible rfl
        try simp only [List.getElem_toArray, List.getElem_cons_succ, List.getElem_cons_zero, Act.put, List.setIfInBounds_toArray, List.set_cons_zero, List.set_cons_succ]
        refine wpAnyH_take (i := 4) (v := ?_) rfl (by kernel_rfl) (by kernel_rfl) (by kernel_rfl) (fun _ _ _ h => h) (Or.inl ⟨by rfl, ?_⟩) (by assumption) ?_
        rotate_left
        focus
          intro w hSw
          try dsimp only at hSw
          go_simp
          try with_reducible rfl
        try simp only [List.getElem_toArray, List.getElem_cons_succ, List.getElem_cons_zero, Act.put, List.setIfInBounds_toArray, List.set_cons_zero, List.set_cons_succ]
        refine wpAnyH_take (i := 5) (v := ?_) rfl (by kernel_rfl) (by kernel_rfl) (by kernel_rfl) (fun _ _ _ h => h) (Or.inl ⟨by rfl, ?_⟩) (by assumption) ?_
        rotate_left
        focus
          intro w hSw
          try dsimp only at hSw
          go_simp
          try with_reducible rfl
        try simp only [List.getElem_toArray, List.getElem_cons_succ, List.getElem_cons_zero, Act.put, List.setIfInBounds_toArray, List.set_cons_zero, List.set_cons_succ]
        refine wpAnyH_ready (rs := [6]) (by kernel_rfl) (by simp) ?_
        refine AllReadyH.cons rfl (fun K hK => ?_) AllReadyH.nil
        rw [if_pos (by rfl)]
        go_simp
        go_at_call 18
        refine (HDF.out _ (HUJ.out _ (below_drewN (Below.refl _ _) 1)) x ra HF.out).mono ?_
        rintro e wA ⟨rfl, hbA⟩
        have hcA : Below wj.heap.size wj wA := ⟨hbA.os, hbA.tape, hbA.output, hbA.size, hbA.block⟩
        have qa := HKJ.out wA hcA
        have HCA := hide hcA
        clear hbA hcA hHeld
        try go_wp2_with fail
        refine hK.out _ _ qa (fun hHeld => ?_)
        clear hK K
        try simp only [List.getElem_toArray, List.getElem_cons_succ, List.getElem_cons_zero, Act.put, List.setIfInBounds_toArray, List.set_cons_zero, List.set_cons_succ]
        refine wpAnyH_take (i := 7) (v := ?_) rfl (by kernel_rfl) (by kernel_rfl) (by kernel_rfl) (fun _ _ _ h => h) (Or.inl ⟨by rfl, ?_⟩) (by assumption) ?_
        rotate_left
        focus
          intro w hSw
          try dsimp only at hSw
          go_simp
          try with_reducible rfl
        try simp only [List.getElem_toArray, List.getElem_cons_succ, List.getElem_cons_zero, Act.put, List.setIfInBounds_toArray, List.set_cons_zero, List.set_cons_succ]
        refine wpAnyH_take (i := 8) (v := undef) rfl (by kernel_rfl) (by kernel_rfl) (by kernel_rfl) (fun _ _ _ h => h) (Or.inr ⟨by rfl, rfl⟩) (by assumption) ?_
        try simp only [List.getElem_toArray, List.getElem_cons_succ, List.getElem_cons_zero, Act.put, List.setIfInBounds_toArray, List.set_cons_zero, List.set_cons_succ]
        refine wpAnyH_take (i := 9) (v := undef) rfl (by kernel_rfl) (by kernel_rfl) (by kernel_rfl) (fun _ _ _ h => h) (Or.inr ⟨by rfl, rfl⟩) (by assumption) ?_
        try simp only [List.getElem_toArray, List.getElem_cons_succ, List.getElem_cons_zero, Act.put, List.setIfInBounds_toArray, List.set_cons_zero, List.set_cons_succ]
        refine wpAnyH_take (i := 10) (v := undef) rfl (by kernel_rfl) (by kernel_rfl) (by kernel_rfl) (fun _ _ _ h => h) (Or.inr ⟨by rfl, rfl⟩) (by assumption) ?_
        try simp only [List.getElem_toArray, List.getElem_cons_succ, List.getElem_cons_zero, Act.put, List.setIfInBounds_toArray, List.set_cons_zero, List.set_cons_succ]
        refine wpAnyH_take (i := 11) (v := undef) rfl (by kernel_rfl) (by kernel_rfl) (by kernel_rfl) (fun _ _ _ h => h) (Or.inr ⟨by rfl, rfl⟩) (by assumption) ?_
        try simp only [List.getElem_toArray, List.getElem_cons_succ, List.getElem_cons_zero, Act.put, List.setIfInBounds_toArray, List.set_cons_zero, List.set_cons_succ]
        refine wpAnyH_take (i := 12) (v := undef) rfl (by kernel_rfl) (by kernel_rfl) (by kernel_rfl) (fun _ _ _ h => h) (Or.inr ⟨by rfl, rfl⟩) (by assumption) ?_
        try simp only [List.getElem_toArray, List.getElem_cons_succ, List.getElem_cons_zero, Act.put, List.setIfInBounds_toArray, List.set_cons_zero, List.set_cons_succ]
        refine wpAnyH_take (i := 13) (v := undef) rfl (by kernel_rfl) (by kernel_rfl) (by kernel_rfl) (fun _ _ _ h => h) (Or.inr ⟨by rfl, rfl⟩) (by assumption) ?_
        try simp only [List.getElem_toArray, List.getElem_cons_succ, List.getElem_cons_zero, Act.put, List.setIfInBounds_toArray, List.set_cons_zero, List.set_cons_succ]
        refine wpAnyH_take (i := 14) (v := undef) rfl (by kernel_rfl) (by kernel_rfl) (by kernel_rfl) (fun _ _ _ h => h) (Or.inr ⟨by rfl, rfl⟩) (by assumption) ?_
        try simp only [List.getElem_toArray, List.getElem_cons_succ, List.getElem_cons_zero, Act.put, List.setIfInBounds_toArray, List.set_cons_zero, List.set_cons_succ]
        refine wpAnyH_take (i := 15) (v := ?_) rfl (by kernel_rfl) (by kernel_rfl) (by kernel_rfl) (fun _ _ _ h => h) (Or.inl ⟨by rfl, ?_⟩) (by assumption) ?_
        rotate_left
        focus
          intro w hSw
          try dsimp only at hSw
          go_simp
          try with_reducible rfl
        try simp only [List.getElem_toArray, List.getElem_cons_succ, List.getElem_cons_zero, Act.put, List.setIfInBounds_toArray, List.set_cons_zero, List.set_cons_succ]
        refine wpAnyH_done (by kernel_rfl) ?_ _
        all_goals
          go_wp2
          go_roundw
          case rel => exact ⟨j + 1, by omega, by go_num, HBJ.out.trans (HCA.out.mono hzj)⟩
          case measure => simp [intOf]; omega
end Go.Proofs.Ytkpikgakphdjjaa
