/- The statement LoopNested, walked: it answers true. Condition: no slice of the program is longer than any machine's memory. -/
import Derived.Test.YtlolgahaphmfoaaLU
import Derived.BigQuiet
set_option linter.unusedSimpArgs false
set_option linter.unusedVariables false
namespace Go.Proofs.Ytlolgahaphmfoaa
open Go.RowKit

set_option maxHeartbeats 4000000 in
set_option maxRecDepth 100000 in
theorem nested7_law (vp : Value) (p : List FunV) (w : World) (hp : FunsV w (· < w.heap.size) vp p) (hsz : progSize p) :
    Calls Try.prog 7 #[.agg #[vp]] w fun e w' => e = .returned (.bool true) ∧ Below w.heap.size w w' := by
  have HKP := hide (fun (W : World) (hW : Below w.heap.size w W) => hp.keep (up hW (Nat.le_refl _)) (fun _ h => h))
  have HOUT := hide (fun (W : World) (hW : Below w.heap.size w W) => out7_any vp p W w.heap.size hW.size (hp.keep (up hW (Nat.le_refl _)) (fun _ h => h)) hsz)
  have HALLOK := hide (fun h => @flowOk_of p h)
  obtain ⟨A, c, rfl, hpc, hpm⟩ := hp.open'
  obtain ⟨lp, hlp⟩ : ∃ lp, p.length = lp := ⟨_, rfl⟩
  have HLP := hide hlp
  rw [hlp] at HKP HOUT hpc ⊢
  clear hp hsz hlp
  go_enter Try.func7, Try.ntmps7
  go_upto_region 1 with (fail)
  obtain ⟨w0, hw0⟩ : ∃ w0, w0 = w.alloc (.cells #[.slice A lp c] 24) := ⟨_, rfl⟩
  have HX0 := hide (show Box w0 w.heap.size #[.slice A lp c] 24 by rw [hw0]; exact Box.new w _ _)
  have HB0 := hide (show Below w.heap.size w w0 by rw [hw0]; exact alloc1 w _)
  rw [← hw0]
  clear hw0
  go_upto_region 3 with (go_at_call 8; refine (alive7_any w0).mono ?_; rintro e w1 ⟨rfl, hb1⟩; have HX1 := hide (HX0.out.below hb1); have HC1 := hide (HB0.out.trans (hb1.mono HB0.out.size)); clear hb1)
  have x1 := (HX1.out.cell 0 (v := .slice A lp c) rfl).1
  have l1 := HX1.out.lt
  go_upto_region 5 with (go_at_call 9; refine (HOUT.out w1 HC1.out).mono ?_; rintro e w2 ⟨b1, rfl, hs2, hb2⟩; have HB2 := hide (HC1.out.trans (hb2.mono HC1.out.size)); have HX2 := hide (HX1.out.below hb2); have HS2 := hide hs2; clear x1 hb2 hs2)
  all_goals try (go_ret; exact ⟨rfl, HB2.out⟩)
  have hb1f : b1 = false := by assumption
  subst hb1f
  have HOKS := hide (HALLOK.out (HS2.out.out rfl))
  clear HOUT HALLOK HS2 HC1 HX1 l1
  go_wp2
  go_loopw [3] (fun i wr => ∃ k : Nat, k ≤ lp ∧ i = .int .i64 k ∧ Below w2.heap.size w2 wr) (fun i _ => lp - (intOf i).toNat)
  case atStart => exact ⟨0, Nat.zero_le _, rfl, Below.refl _ _⟩
  case round =>
    obtain ⟨k, hk, rfl, hb'⟩ := hrel
    obtain ⟨wo, rfl⟩ : ∃ wo, wo = wr := ⟨_, rfl⟩
    have hszo := hb'.size
    have HBEL := hide (HB2.out.trans (hb'.mono HB2.out.size))
    have HXO := hide (HX2.out.below hb')
    have HBW := hide hb'
    have xp := (HXO.out.cell 0 (v := .slice A lp c) rfl).1
    have lxp := HXO.out.lt
    clear hb'
    by_cases hlt : k < lp
    case neg =>
      go_wp2
      go_ret
      exact ⟨rfl, HBEL.out⟩
    obtain ⟨f, hf⟩ : ∃ f, p[k]? = some f := ⟨_, List.getElem?_eq_getElem (by have := HLP.out; omega)⟩
    obtain ⟨b, o, Ak, ck, Ab, cb, As, cs, hA, hbb, ⟨e0, e1, e2, e3, e4⟩, hi⟩ := (HKP.out wo HBEL.out).get hf
    subst hA
    have hbs : b < wo.heap.size := by have := HBEL.out.size; omega
    obtain ⟨hok, hls1⟩ := HOKS.out f (List.mem_of_getElem? hf)
    have kI := fun (W : World) (hW : Below wo.heap.size wo W) => hi.keep (w := wo) (S := (· < w.heap.size)) (up hW HBEL.out.size) (fun _ h => h)
    obtain ⟨AL, hAL⟩ := AbvOf.ex HBEL.out.size hi hok hls1
    obtain ⟨ol, hol⟩ : ∃ o, OrderOf f o := by
      obtain ⟨o, ho, -⟩ := hAL
      exact ⟨o, ho⟩
    obtain ⟨pp, hpp⟩ : ∃ p : Int → Int → Bool, ∀ a b, p a b = true ↔ domQ AL a b := ⟨fun a b => @decide (domQ AL a b) (Classical.propDecidable _), fun a b => by simp⟩
    have hsW : ∀ W : World, Below wo.heap.size wo W → w.heap.size ≤ W.heap.size := fun W hW => by have := hW.size; have := HBEL.out.size; omega
    have hAL := hide hAL
    have hls40 := hok.1
    obtain ⟨hs, hhs⟩ := IsHeads.ex (backN f ol pp) f.blocks.length (fun u y hu => by obtain ⟨-, b, -, rfl, -, hb, -⟩ := back_nat hok hu; omega)
    obtain ⟨BB, hBB⟩ := IsBody.ex f (backN f ol pp)
    have HHD := hide (fun (W : World) (hW : Below wo.heap.size wo W) => lheads_any _ _ _ f ol hol AL hAL.out pp hpp hs hhs W w.heap.size (hsW W hW) (kI W hW) hok hls1)
    have HBD := hide (fun (W : World) (hW : Below wo.heap.size wo W) (h : Int) => lbody_any _ _ _ f ol hol AL hAL.out pp hpp h (BB h) (hBB h) W w.heap.size (hsW W hW) (kI W hW) hok hls1)
    have HPL := hide (fun (W : World) (hW : Below wo.heap.size wo W) => lplain_any _ _ _ f ol hol AL hAL.out pp hpp W w.heap.size (hsW W hW) (kI W hW) hok hls1)
    have HND := hide (fun h => (hBB h).nod)
    have HLB := hide (fun h => (show (BB h).length ≤ f.blocks.length from (hBB h).len))
    have hhl := heads_len hok hhs
    have HASC := hide hhs.1
    have HNS := hide (fun (g h : Int) (hne : g ≠ h) (k : Nat) (hk : (BB g).length ≤ k) (h0 : 0 < btT (BB g) (BB h) k 0) => nest_end hok hls1 hAL.out hpp hne (hBB g) (hBB h) hk h0)
    obtain ⟨nh, hnh⟩ : ∃ n, hs.length = n := ⟨_, rfl⟩
    have HNH := hide hnh
    rw [hnh] at hhl
    obtain ⟨PB, hPB⟩ : ∃ b, decide ((turnsN f ol).length = (backN f ol pp).length) = b := ⟨_, rfl⟩
    rw [hPB] at HPL
    generalize f.kinds.length = lk, f.base.length = lb, f.blocks.length = ls, f.params = fp, f.result = fr at *
    have hki : (0 : Int) ≤ (k : Int) := by omega
    have hkl : (k : Int) < (lp : Int) := by omega
    clear hi hf kI hok hol hsW hnh hpp hhs hBB hAL hPB
    go_upto_region 9 with (fail)
    obtain ⟨w5, hw5⟩ : ∃ w5, w5 = wo.alloc (.cells #[.slice Ak lk ck, .slice Ab lb cb, .int .i64 fp, .int .i64 fr, .slice As ls cs] 30) := ⟨_, rfl⟩
    obtain ⟨h5, hh5⟩ : ∃ h5, wo.heap.size = h5 := ⟨_, rfl⟩
    have HX5 := hide (show Box w5 h5 #[.slice Ak lk ck, .slice Ab lb cb, .int .i64 fp, .int .i64 fr, .slice As ls cs] 30 by rw [hw5, ← hh5]; exact Box.new wo _ _)
    have HB5 := hide (show Below wo.heap.size wo w5 by rw [hw5]; exact alloc1 wo _)
    rw [← hw5, hh5]
    clear hw5 hh5 e0 e1 e2 e3 e4 hbs xp lxp
    have l5 := HX5.out.lt
    have hz5 := HB5.out.size
    have HK5 := hide (fun (W : World) (hW : Below w5.heap.size w5 W) => And.intro ((HX5.out.below hW).cell 0 (v := .slice Ak lk ck) rfl).1 (And.intro ((HX5.out.below hW).cell 1 (v := .slice Ab lb cb) rfl).1 (And.intro ((HX5.out.below hW).cell 2 (v := .int .i64 fp) rfl).1 (And.intro ((HX5.out.below hW).cell 3 (v := .int .i64 fr) rfl).1 ((HX5.out.below hW).cell 4 (v := .slice As ls cs) rfl).1))))
    have HUP := hide (fun (W : World) (hW : Below w5.heap.size w5 W) => HB5.out.trans (hW.mono HB5.out.size))
    obtain ⟨c0, c1, c2, c3, c4⟩ := HK5.out w5 (Below.refl _ _)
    cases PB with
    | false =>
      go_wp2_with (go_at_call 15; refine (HPL.out w5 HB5.out).mono ?_; rintro e w6 ⟨rfl, hb6⟩; have HC6 := hide hb6; clear hb6)
      go_roundw
      case rel => exact ⟨k + 1, by omega, by go_num, HBW.out.trans ((HUP.out w6 HC6.out).mono hszo)⟩
      case measure => simp [intOf]; omega
    | true =>
      go_wp2_with (first
        | (go_at_call 18; refine (HHD.out w6 (HUP.out w6 HC6.out)).mono ?_; rintro e w7 ⟨v7, rfl, ho7, hb7⟩; obtain ⟨A7, k7, hv7, hle7, hme7, hs7⟩ := ho7.sl; rw [HNH.out] at hv7 hle7; have HS7 := hide hs7; have HC7 := hide (HC6.out.trans (hb7.mono HC6.out.size)); subst hv7; clear hb7 ho7 hs7)
        | (go_at_call 15; refine (HPL.out w5 HB5.out).mono ?_; rintro e w6 ⟨rfl, hb6⟩; obtain ⟨x0, x1, x2, x3, x4⟩ := HK5.out w6 hb6; have HC6 := hide hb6; have lx := hb6.size; clear hb6))
      clear c0 c1 c2 c3 c4 x0 x1 x2 x3 x4
      have hz7 := HC7.out.size
      have HX7 := hide (HX5.out.below HC7.out)
      go_loopw [6] (fun i wr => ∃ a : Nat, a ≤ nh ∧ i = .int .i64 (a : Int) ∧ Below w7.heap.size w7 wr) (fun i _ => nh - (intOf i).toNat)
      case atStart => exact ⟨0, Nat.zero_le _, rfl, Below.refl _ _⟩
      case round =>
        obtain ⟨a, ha, rfl, hba⟩ := hrel
        obtain ⟨wa, rfl⟩ : ∃ wa, wa = wr := ⟨_, rfl⟩
        have HBA := hide hba
        have hza := hba.size
        clear hba
        by_cases hlta : a < nh
        case neg =>
          have HF := hide (HUP.out wa (HC7.out.trans (HBA.out.mono hz7)))
          go_wp2
          go_roundw
          case rel => exact ⟨k + 1, by omega, by go_num, HBW.out.trans (HF.out.mono hszo)⟩
          case measure => simp [intOf]; omega
        have ha1 : (0 : Int) ≤ (a : Int) := by omega
        have ha2 : (a : Int) < (nh : Int) := by omega
        go_wp2
        go_loopw [7] (fun i wr => ∃ b : Nat, b ≤ a ∧ i = .int .i64 (b : Int) ∧ Below w7.heap.size w7 wr) (fun i _ => a - (intOf i).toNat)
        case atStart => exact ⟨0, Nat.zero_le _, rfl, HBA.out⟩
        case round =>
          obtain ⟨b, hb, rfl, hbb⟩ := hrel
          obtain ⟨wi, rfl⟩ : ∃ wi, wi = wr := ⟨_, rfl⟩
          have HBB := hide hbb
          have hzi := hbb.size
          clear hbb
          by_cases hltb : b < a
          case neg =>
            go_wp2
            go_roundw
            case rel => exact ⟨a + 1, by omega, by go_num, HBB.out⟩
            case measure => simp [intOf]; omega
          obtain ⟨gg, hga⟩ : ∃ h, hs[a]? = some h := ⟨_, List.getElem?_eq_getElem (by have := HNH.out; omega)⟩
          obtain ⟨hh, hgb⟩ : ∃ h, hs[b]? = some h := ⟨_, List.getElem?_eq_getElem (by have := HNH.out; omega)⟩
          have hne : gg ≠ hh := fun e => by
            obtain ⟨p1, e1⟩ := List.getElem?_eq_some_iff.1 hga
            obtain ⟨p2, e2⟩ := List.getElem?_eq_some_iff.1 hgb
            have := List.pairwise_iff_getElem.1 HASC.out b a p2 p1 hltb
            omega
          obtain ⟨be, oe, rfl, hbe, hcc⟩ := (HS7.out.below HBB.out) (by have := HNH.out; omega)
          have d1 := hcc a (by have := HNH.out; omega)
          have d2 := hcc b (by have := HNH.out; omega)
          rw [show hs.getD a 0 = gg by simp [List.getD, hga]] at d1
          rw [show hs.getD b 0 = hh by simp [List.getD, hgb]] at d2
          have hbs : be < wi.heap.size := by omega
          have hb1 : (0 : Int) ≤ (b : Int) := by omega
          have hb2 : (b : Int) < (nh : Int) := by omega
          have HNST := hide (fun k hk h0 => HNS.out gg hh hne k hk h0)
          have HXI := hide (HX7.out.below HBB.out)
          have HFI := hide (HUP.out wi (HC7.out.trans (HBB.out.mono hz7)))
          have HB1 := hide (fun (W : World) (hW : Below wi.heap.size wi W) => HBD.out W (HFI.out.trans (hW.mono HFI.out.size)) gg)
          have HB2 := hide (fun (W : World) (hW : Below wi.heap.size wi W) => HBD.out W (HFI.out.trans (hW.mono HFI.out.size)) hh)
          have HNY := hide (HND.out hh)
          have hx40 := HLB.out gg
          have hy40 := HLB.out hh
          obtain ⟨X, hX⟩ : ∃ X, BB gg = X := ⟨_, rfl⟩
          obtain ⟨Y, hY⟩ : ∃ Y, BB hh = Y := ⟨_, rfl⟩
          rw [hX] at HB1 HNST hx40
          rw [hY] at HB2 HNST HNY hy40
          obtain ⟨nX, hnX⟩ : ∃ n, X.length = n := ⟨_, rfl⟩
          obtain ⟨nY, hnY⟩ : ∃ n, Y.length = n := ⟨_, rfl⟩
          have HNX := hide hnX
          have HNYL := hide hnY
          rw [hnX] at HNST hx40
          rw [hnY] at HNST hy40
          have HK := hide (fun (W : World) (hW : Below wi.heap.size wi W) => And.intro ((HXI.out.below hW).cell 0 (v := .slice Ak lk ck) rfl).1 (And.intro ((HXI.out.below hW).cell 1 (v := .slice Ab lb cb) rfl).1 (And.intro ((HXI.out.below hW).cell 2 (v := .int .i64 fp) rfl).1 (And.intro ((HXI.out.below hW).cell 3 (v := .int .i64 fr) rfl).1 (And.intro ((HXI.out.below hW).cell 4 (v := .slice As ls cs) rfl).1 (And.intro ((hW.cell (p := ⟨be, oe + a, none⟩) hbs).trans d1) ((hW.cell (p := ⟨be, oe + b, none⟩) hbs).trans d2)))))))
          have li := HXI.out.lt
          obtain ⟨c0, c1, c2, c3, c4, -, -⟩ := HK.out wi (Below.refl _ _)
          clear hcc hga hgb hbe hX hY hnX hnY hne
          go_upto_region 17 with (fail)
          go_region_held3 (fun w' => w'.cell? ⟨h5, 0, none⟩ = some (.slice Ak lk ck) ∧ w'.cell? ⟨h5, 1, none⟩ = some (.slice Ab lb cb) ∧ w'.cell? ⟨h5, 2, none⟩ = some (.int .i64 fp) ∧ w'.cell? ⟨h5, 3, none⟩ = some (.int .i64 fr) ∧ w'.cell? ⟨h5, 4, none⟩ = some (.slice As ls cs) ∧ w'.cell? ⟨be, oe + a, none⟩ = some (.int .i64 gg) ∧ w'.cell? ⟨be, oe + b, none⟩ = some (.int .i64 hh)) (first | go_keep | (exact q9) | (exact q8))
            (first
              | (go_at_call 20; refine (HB2.out w8 HC8.out).mono ?_; rintro e w9 ⟨v9, rfl, ho9, hb9⟩; obtain ⟨A9, k9, hv9, hle9, hme9, hs9⟩ := ho9.sl; rw [HNYL.out] at hv9 hle9; have hc9 := HC8.out.trans (hb9.mono HC8.out.size); have q9 := HK.out w9 hc9; have HS9 := hide hs9; have HS89 := hide ((HS8.out.below hb9).more hb9.size); have HC9 := hide hc9; have hz9 := hc9.size; subst hv9; clear hb9 ho9 hs9 hc9)
              | (go_at_call 20; refine (HB1.out _ (below_drewN (Below.refl _ _) 1)).mono ?_; rintro e w8 ⟨v8, rfl, ho8, hb8⟩; obtain ⟨A8, k8, hv8, hle8, hme8, hs8⟩ := ho8.sl; rw [HNX.out] at hv8 hle8; have hc8 : Below wi.heap.size wi w8 := ⟨hb8.os, hb8.tape, hb8.output, hb8.size, hb8.block⟩; have q8 := HK.out w8 hc8; have HS8 := hide hs8; have HC8 := hide hc8; have hz8 := hc8.size; subst hv8; clear hb8 ho8 hs8 hc8))
          all_goals
            clear c0 c1 c2 c3 c4 li q8 q9
            have HBT9 := hide (HBB.out.trans (HC9.out.mono hzi))
            have h7w9 : w7.heap.size ≤ w9.heap.size := by omega
            go_wp2
            go_loopw [10, 11] (fun x i wr => ∃ kx : Nat, kx ≤ nX ∧ x = .int .i64 ((btT X Y kx 0 : Nat) : Int) ∧ i = .int .i64 (kx : Int) ∧ Below w9.heap.size w9 wr) (fun _ i _ => nX - (intOf i).toNat)
            case atStart => exact ⟨0, Nat.zero_le _, by rw [btT_zero]; rfl, rfl, Below.refl _ _⟩
            case round =>
              obtain ⟨kx, hkx, rfl, rfl, hbx⟩ := hrel
              obtain ⟨wx, rfl⟩ : ∃ wx, wx = wr := ⟨_, rfl⟩
              have HBX := hide hbx
              have hzx := hbx.size
              clear hbx
              by_cases hltx : kx < nX
              case neg =>
                have HFX := hide (HBT9.out.trans (HBX.out.mono h7w9))
                have hkn : kx = nX := by omega
                have HE := hide (HNST.out kx (by omega))
                obtain ⟨bt, hbt⟩ : ∃ n, btT X Y kx 0 = n := ⟨_, rfl⟩
                rw [hbt] at HE ⊢
                clear hbt hkn
                by_cases h0 : 0 < bt
                · by_cases hx : bt = nX
                  · have q1 : (0 : Int) < (bt : Int) := by omega
                    have q2 : ((bt : Int) != (nX : Int)) = false := by simp [hx]
                    have q3 : ((bt : Int) == (nX : Int)) = true := by simp [hx]
                    clear hx
                    go_wp2
                    go_roundw
                    case rel => exact ⟨b + 1, by omega, by go_num, HFX.out⟩
                    case measure => simp [intOf]; omega
                  · have hy : bt = nY := (HE.out h0).resolve_left hx
                    have q1 : (0 : Int) < (bt : Int) := by omega
                    have q2 : ((bt : Int) == (nX : Int)) = false := by simp; omega
                    have q3 : ((bt : Int) == (nY : Int)) = true := by simp [hy]
                    have q4 : ((bt : Int) != (nY : Int)) = false := by simp [hy]
                    have q5 : ((bt : Int) != (nX : Int)) = true := by simp; omega
                    clear hx hy
                    go_wp2
                    go_roundw
                    case rel => exact ⟨b + 1, by omega, by go_num, HFX.out⟩
                    case measure => simp [intOf]; omega
                · have q1 : ¬ (0 : Int) < (bt : Int) := by omega
                  go_wp2
                  go_roundw
                  case rel => exact ⟨b + 1, by omega, by go_num, HFX.out⟩
                  case measure => simp [intOf]; omega
              obtain ⟨x, hx⟩ : ∃ x, X[kx]? = some x := ⟨_, List.getElem?_eq_getElem (by have := HNX.out; omega)⟩
              have HX := hide hx
              have kx1 : (0 : Int) ≤ (kx : Int) := by omega
              have kx2 : (kx : Int) < (nX : Int) := by omega
              clear hx
              go_wp2
              go_loopw [10, 12] (fun x i wr => ∃ j : Nat, j ≤ nY ∧ x = .int .i64 ((btT X Y kx j : Nat) : Int) ∧ i = .int .i64 (j : Int) ∧ Below w9.heap.size w9 wr) (fun _ i _ => nY - (intOf i).toNat)
              case atStart => exact ⟨0, Nat.zero_le _, rfl, rfl, HBX.out⟩
              case round =>
                obtain ⟨j, hj, rfl, rfl, hby⟩ := hrel
                obtain ⟨wy, rfl⟩ : ∃ wy, wy = wr := ⟨_, rfl⟩
                have HBY := hide hby
                have hzy := hby.size
                clear hby
                by_cases hlty : j < nY
                case neg =>
                  have HROW := hide (btT_row HX.out (by have := HNYL.out; omega : Y.length ≤ j))
                  go_wp2
                  go_roundw
                  case rel => exact ⟨kx + 1, by omega, by rw [HROW.out], by go_num, HBY.out⟩
                  case measure => simp [intOf]; omega
                obtain ⟨y, hy⟩ : ∃ y, Y[j]? = some y := ⟨_, List.getElem?_eq_getElem (by have := HNYL.out; omega)⟩
                obtain ⟨b8, o8, rfl, hb8, hc8⟩ := (HS89.out.below HBY.out) (by have := HNX.out; omega)
                obtain ⟨b9, o9, rfl, hb9, hc9⟩ := (HS9.out.below HBY.out) (by have := HNYL.out; omega)
                have e1 := hc8 kx (by have := HNX.out; omega)
                have e2 := hc9 j (by have := HNYL.out; omega)
                rw [show X.getD kx 0 = x by simp [List.getD, HX.out]] at e1
                rw [show Y.getD j 0 = y by simp [List.getD, hy]] at e2
                have l8 : b8 < wy.heap.size := by omega
                have l9 : b9 < wy.heap.size := by omega
                have HYY := hide hy
                have hbl := btT_le X Y kx j
                have j1 : (0 : Int) ≤ (j : Int) := by omega
                have j2 : (j : Int) < (nY : Int) := by omega
                clear hc8 hc9 hy hb8 hb9
                by_cases he : x = y
                · have q1 : (x == y) = true := by simpa using he
                  have HST := hide (show btT X Y kx j + 1 = btT X Y kx (j + 1) from btT_yes HNY.out HX.out (by rw [HYY.out, he]))
                  obtain ⟨bt, hbt⟩ : ∃ n, btT X Y kx j = n := ⟨_, rfl⟩
                  rw [hbt] at HST hbl ⊢
                  have w1 : IntKind.i64.wrap ((bt : Int) + 1) = (bt : Int) + 1 := IntWalk.i64_in _ ⟨by omega, by omega⟩
                  clear he hbt
                  go_upto_region 25 with (fail)
                  go_quiet (fail)
                  go_wp2
                  go_roundw
                  case rel => exact ⟨j + 1, by omega, by rw [← HST.out]; go_num, by go_num, below_drewN HBY.out _⟩
                  case measure => simp [intOf]; omega
                · have q1 : (x == y) = false := by simpa using he
                  have HST := hide (show btT X Y kx j = btT X Y kx (j + 1) from btT_no HX.out HYY.out he)
                  clear he
                  go_upto_region 25 with (fail)
                  go_quiet (fail)
                  go_wp2
                  go_roundw
                  case rel => exact ⟨j + 1, by omega, by rw [← HST.out], by go_num, below_drewN HBY.out _⟩
                  case measure => simp [intOf]; omega
end Go.Proofs.Ytlolgahaphmfoaa
