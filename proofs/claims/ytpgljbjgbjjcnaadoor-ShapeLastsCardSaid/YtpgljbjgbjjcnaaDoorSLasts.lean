/- The statement ShapeLasts, walked: it answers true. Conditions: the table of parts reads as listed; no slice of the program is longer than any machine's memory. -/
import Derived.Test.YtpgljbjgbjjcnaaDoorSFirst
import Derived.BigQuiet
set_option linter.unusedSimpArgs false
set_option linter.unusedVariables false
namespace Go.Proofs.YtpgljbjgbjjcnaaDoor
open Go.RowKit

theorem last_case {p : List FunV} {f : FunV} {l : List InsV} {k : Nat} {u : InsV} (h : mayB4 p f u = true) (he : endsB l = true) (hu : l[k]? = some u) (mp : Nat) (hmp : l.length = mp + 1) (nl : Nat) (hnl : (nextL u).length = nl) :
    (lastB u.op = true ∧ ((k : Int) == (mp : Int)) = true ∧ ¬ 0 < nl ∧ ((nl : Int) == 0) = true ∧ (u.op != 23) = false) ∨
    (lastB u.op = true ∧ ((k : Int) == (mp : Int)) = true ∧ 0 < nl ∧ ((nl : Int) == 0) = false ∧ ¬ k < mp) ∨
    (lastB u.op = false ∧ ((k : Int) == (mp : Int)) = false ∧ ¬ 0 < nl ∧ ((nl : Int) == 0) = true) := by
  have hk := ends_at he hu
  rw [hmp] at hk
  by_cases hkm : k = mp
  · have hl : lastB u.op = true := by rw [hk]; simp; omega
    by_cases h23 : u.op = 23
    · left
      have h0 : nl = 0 := by rw [← hnl]; unfold nextL; simp [h23]
      subst h0
      exact ⟨hl, by simp [hkm], by simp, by simp, by simp [h23]⟩
    · right; left
      have h0 : 0 < nl := by
        rw [← hnl]
        unfold nextL
        have h2 : u.op = 21 ∨ u.op = 22 := by
          unfold lastB at hl
          simp only [Bool.or_eq_true, beq_iff_eq] at hl
          omega
        split
        · simp
        · split
          · simp
          · omega
      exact ⟨hl, by simp [hkm], h0, by simp; omega, by omega⟩
  · have hl : lastB u.op = false := by rw [hk]; simp; omega
    have h2 : ¬ u.op = 21 ∧ ¬ u.op = 22 := by
      constructor <;> · intro h3; rw [h3] at hl; simp [lastB] at hl
    have h0 : nl = 0 := by rw [← hnl]; unfold nextL; simp [h2.1, h2.2]
    subst h0
    exact .inr (.inr ⟨hl, by simp; omega, by simp, by simp⟩)
set_option maxHeartbeats 4000000 in
set_option maxRecDepth 100000 in
theorem lasts_law (vp : Value) (p : List FunV) (w : World) (hT : TabP w) (hp : FunsV w (· < w.heap.size) vp p) (hsz : progSize p) :
    Calls Tryd.prog 11 #[.agg #[vp]] w fun e w' => e = .returned (.bool true) ∧ Below w.heap.size w w' := by
  have kp := fun (W : World) (hW : Below w.heap.size w W) => hp.keep (up hW (Nat.le_refl _)) (fun _ h => h)
  obtain ⟨A, c, rfl, hpc, hpm⟩ := hp.open'
  have HKP := hide kp
  have HT := hide (fun (W : World) (hW : Below w.heap.size w W) => hT.below hW hT.1)
  have HA := hide (fun (W : World) (hW : Below w.heap.size w W) => alive4_any W (hT.below hW hT.1))
  have HG := hide (fun (W : World) (hW : Below w.heap.size w W) => great2_any _ p W w.heap.size hW.size (kp W hW) hsz)
  have HCK := hide (fun (W : World) (hW : Below w.heap.size w W) (hf : progFew p) => check_any _ p W w.heap.size hW.size (hT.below hW hT.1) (kp W hW) hf)
  have HTWO := hide (two_chk p)
  have HFEW := hide (fun h : ∀ f ∈ p, smallF f => smallF.few h)
  generalize chkN4 p = ck at *
  obtain ⟨lp, hlp⟩ : ∃ lp, p.length = lp := ⟨_, rfl⟩
  have HLP := hide hlp
  rw [hlp] at HKP HG HCK hpc ⊢
  clear kp hp hT hsz hlp
  go_enter Tryd.func11, Tryd.ntmps11
  go_upto_region 3 with (go_at_call 24; refine (HA.out _ (alloc1 w _)).mono ?_; rintro e w1 ⟨rfl, hb1⟩; have hz1 := hb1.size; simp only [World.size_alloc] at hz1 hb1; have x1 := (hb1.cell (p := ⟨w.heap.size, 0, none⟩) (by show w.heap.size < _; omega)).trans (show _ = some (Value.slice A lp c) by simp); have hc1 := (alloc1 w (.cells #[.slice A lp c] 24)).trans (hb1.mono (by omega)))
  clear hb1
  have HC1 := hide hc1
  clear hc1
  rcases HTWO.out with ⟨rfl, hpb⟩ | rfl
  rotate_left
  focus
    go_wp2_with (first
      | (have q := HC2.out; go_at_call 27; refine (HCK.out w2 HC2.out (HFEW.out (HS2.out (Bool.eq_false_iff.2 (by assumption))))).mono ?_; rintro e w3 ⟨rfl, hb3⟩; have hz3 := hb3.size; have HC3 := hide (HC2.out.trans (hb3.mono (by omega))); clear hb3)
      | (go_at_call 14; refine (HG.out w1 HC1.out).mono ?_; rintro e w2 ⟨b1, rfl, hs2, hb2⟩; have hz2 := hb2.size; have y1 := (hb2.cell (p := ⟨w.heap.size, 0, none⟩) (by show w.heap.size < _; omega)).trans x1; have HC2 := hide (HC1.out.trans (hb2.mono (by omega))); have HS2 := hide hs2; clear x1; have x1 := y1; clear y1 hb2 hs2))
    all_goals
      go_ret
      first
        | exact ⟨rfl, HC3.out⟩
        | exact ⟨rfl, HC2.out⟩
  go_upto_region 5 with (first
      | (have q := HC2.out; go_at_call 27; have few := HFEW.out (HS2.out (Bool.eq_false_iff.2 (by assumption))); refine (HCK.out w2 HC2.out few).mono ?_; rintro e w3 ⟨rfl, hb3⟩; have hz3 := hb3.size; have y1 := (hb3.cell (p := ⟨w.heap.size, 0, none⟩) (by show w.heap.size < _; omega)).trans x1; have HC3 := hide (HC2.out.trans (hb3.mono (by omega))); have HF := hide few; clear hb3 few q)
      | (go_at_call 14; refine (HG.out w1 HC1.out).mono ?_; rintro e w2 ⟨b1, rfl, hs2, hb2⟩; have hz2 := hb2.size; have y1 := (hb2.cell (p := ⟨w.heap.size, 0, none⟩) (by show w.heap.size < _; omega)).trans x1; have HC2 := hide (HC1.out.trans (hb2.mono (by omega))); have HS2 := hide hs2; clear x1; have x1 := y1; clear y1 hb2 hs2))
  all_goals try (go_ret; exact ⟨rfl, HC2.out⟩)
  clear x1 HA HG HCK HTWO HFEW HC2 HS2 HC1
  obtain ⟨hp1, hp8, -, hall⟩ := prog_parts hpb
  rw [HLP.out] at hp1 hp8
  have HALL := hide hall
  have hl3 : w.heap.size < w3.heap.size := by omega
  clear hall hpb
  go_wp2
  go_loopw [3] (fun i wr => ∃ k : Nat, k ≤ lp ∧ i = .int .i64 k ∧ Below w3.heap.size w3 wr) (fun i _ => lp - (intOf i).toNat)
  case atStart => exact ⟨0, Nat.zero_le _, rfl, Below.refl _ _⟩
  case round =>
    obtain ⟨k, hk, rfl, hb⟩ := hrel
    obtain ⟨wo, rfl⟩ : ∃ wo, wo = wr := ⟨_, rfl⟩
    have hsz := hb.size
    have HBEL := hide (HC3.out.trans (hb.mono HC3.out.size))
    have xp := (hb.cell (p := ⟨w.heap.size, 0, none⟩) hl3).trans y1
    by_cases hlt : k < lp
    · obtain ⟨f, hf⟩ : ∃ f, p[k]? = some f := ⟨_, List.getElem?_eq_getElem (by have := HLP.out; omega)⟩
      obtain ⟨b, o, Ak, ck, Ab, cb, As, cs, rfl, hbb, ⟨e0, e1, e2, e3, e4⟩, hi⟩ := (HKP.out wo HBEL.out).get hf
      have hbs : b < wo.heap.size := by omega
      obtain ⟨⟨-, hk48, -⟩, ⟨hq0, hq4, hqk⟩, -, ⟨hb1, hb40, hbl⟩, hmay⟩ := fun_parts (HALL.out f (List.mem_of_getElem? hf))
      have hfew := HF.out f (List.mem_of_getElem? hf)
      have HBK := hide (fun (W : World) (hW : Below w.heap.size w W) => (show BlksV W (· < w.heap.size) (.slice As f.blocks.length cs) f.blocks from hi.2.2.1.keep (fun bb oo hbb => by
        have q1 := hW.cell (p := ⟨bb, oo, none⟩) hbb
        have q2 := HBEL.out.cell (p := ⟨bb, oo, none⟩) hbb
        rw [q1, q2]) (fun _ h => h)))
      have HBL := hide hbl
      have HMAY := hide hmay
      have HAF := hide hfew
      have HBW := hide hb
      obtain ⟨lk, hlk⟩ : ∃ lk, f.kinds.length = lk := ⟨_, rfl⟩
      obtain ⟨lb, hlb⟩ : ∃ lb, f.base.length = lb := ⟨_, rfl⟩
      obtain ⟨ls, hls⟩ : ∃ ls, f.blocks.length = ls := ⟨_, rfl⟩
      have HLS := hide hls
      have HLK := hide hlk
      rw [hlk] at e0 hk48
      rw [hlb] at e1
      rw [hls] at e4 HBK hb1 hb40
      clear hi hf hb hlk hlb hls hbl hmay hfew hqk hq0 hq4
      generalize f.params = fp, f.result = fr at *
      go_upto_region 9 with (fail)
      obtain ⟨w5, hw5⟩ : ∃ w5, w5 = wo.alloc (.cells #[.slice Ak lk ck, .slice Ab lb cb, .int .i64 fp, .int .i64 fr, .slice As ls cs] 44) := ⟨_, rfl⟩
      obtain ⟨h5, hh5⟩ : ∃ h5, wo.heap.size = h5 := ⟨_, rfl⟩
      have HX5 := hide (show Box w5 h5 #[.slice Ak lk ck, .slice Ab lb cb, .int .i64 fp, .int .i64 fr, .slice As ls cs] 44 by rw [hw5, ← hh5]; exact Box.new wo _ _)
      have HB5 := hide (show Below w.heap.size w w5 by rw [hw5]; exact HBEL.out.alloc (by omega) _)
      have HBO5 := hide (show Below w3.heap.size w3 w5 by rw [hw5]; exact HBW.out.alloc hsz _)
      rw [← hw5, hh5]
      clear hw5 hh5 e0 e1 e2 e3 e4 hbs xp hsz
      have l5 := HX5.out.lt
      go_wp2
      go_loopw [5] (fun i wr => ∃ q : Nat, q ≤ ls ∧ i = .int .i64 q ∧ Below w5.heap.size w5 wr) (fun i _ => ls - (intOf i).toNat)
      case atStart => exact ⟨0, Nat.zero_le _, rfl, Below.refl _ _⟩
      case round =>
        obtain ⟨q, hq, rfl, hbq⟩ := hrel
        obtain ⟨wq, rfl⟩ : ∃ wq, wq = wr := ⟨_, rfl⟩
        have hsq := hbq.size
        have HBQ := hide (HB5.out.trans (hbq.mono HB5.out.size))
        have HBR := hide (HBO5.out.trans (hbq.mono HBO5.out.size))
        have c4 := ((HX5.out.below hbq).cell 4 (v := .slice As ls cs) rfl).1
        have HBQ5 := hide hbq
        clear hbq
        by_cases hlq : q < ls
        · obtain ⟨x, hx⟩ : ∃ x, f.blocks[q]? = some x := ⟨_, List.getElem?_eq_getElem (by have := HLS.out; omega)⟩
          obtain ⟨b1, o1, A1, c1, rfl, hbb1, g0, hx1⟩ := (HBK.out wq HBQ.out).get hx
          have hxm := List.mem_of_getElem? hx
          obtain ⟨hm1, hm40, hend⟩ := HBL.out x hxm
          have HEND := hide hend
          have HMX := hide (HMAY.out x hxm)
          have HAX := hide (HAF.out x hxm)
          have HIN := hide (fun (W : World) (hW : Below w.heap.size w W) => (show InssV W (· < w.heap.size) (.slice A1 x.length c1) x from hx1.keep (fun bb oo hbb => by
            have q1 := hW.cell (p := ⟨bb, oo, none⟩) hbb
            have q2 := HBQ.out.cell (p := ⟨bb, oo, none⟩) hbb
            rw [q1, q2]) (fun _ h => h)))
          obtain ⟨m, hm⟩ : ∃ m, x.length = m := ⟨_, rfl⟩
          rw [hm] at g0 hm1 hm40 HIN
          have HM := hide hm
          have hbs1 : b1 < wq.heap.size := by have := HBQ.out.size; omega
          clear hx hx1 hm hend hxm
          go_wp2
          clear g0 c4 hbs1
          go_loopw [7] (fun i wr => ∃ t : Nat, t ≤ m ∧ i = .int .i64 t ∧ Below w5.heap.size w5 wr) (fun i _ => m - (intOf i).toNat)
          case atStart => exact ⟨0, Nat.zero_le _, rfl, HBQ5.out⟩
          case round =>
            obtain ⟨t, ht, rfl, hbt⟩ := hrel
            obtain ⟨wk, rfl⟩ : ∃ wk, wk = wr := ⟨_, rfl⟩
            have hst := hbt.size
            have HBT := hide (HB5.out.trans (hbt.mono HB5.out.size))
            have HBT5 := hide hbt
            clear hbt
            by_cases hltm : t < m
            · obtain ⟨u, hu⟩ : ∃ u, x[t]? = some u := ⟨_, List.getElem?_eq_getElem (by have := HM.out; omega)⟩
              obtain ⟨b2, o2, A2, c2, rfl, hbb2, ⟨i0, i1, i2, i3, i4, i5, i6⟩, -⟩ := (HIN.out wk HBT.out).get hu
              have hum := List.mem_of_getElem? hu
              obtain ⟨mp, hmp⟩ : ∃ mp, m = mp + 1 := ⟨m - 1, by omega⟩
              have hbs2 : b2 < wk.heap.size := by have := HBT.out.size; omega
              have hwr : IntKind.i64.wrap ((m : Int) - 1) = (mp : Int) := by rw [show (m : Int) - 1 = (mp : Int) by omega]; exact IntWalk.i64_in _ ⟨by omega, by omega⟩
              obtain ⟨nl, hnl⟩ : ∃ nl, (nextL u).length = nl := ⟨_, rfl⟩
              have hcase := last_case (HMX.out u hum) HEND.out hu mp (HM.out.trans hmp) nl hnl
              have HL := hide (fun (W : World) => last_any u.op W)
              have HN := hide (fun (W : World) => next_any u A2 u.args.length c2 W)
              have HNX := hide (next_blk (HMX.out u hum))
              have HMY := hide (may_parts (HMX.out u hum))
              have HUU := hide hu
              have HAU := hide (HAX.out u hum)
              rw [HLS.out] at HNX
              have HNL := hide hnl
              rw [hnl] at HN
              obtain ⟨bl, hbl⟩ : ∃ bl, lastB u.op = bl := ⟨_, rfl⟩
              rw [hbl] at hcase HL
              generalize nextL u = nx at *
              clear hum hmp hnl hbl hu
              rcases hcase with ⟨rfl, hk1, hk2, hk3, hk4⟩ | ⟨rfl, hk1, hk2, hk3, hk4⟩ | ⟨rfl, hk1, hk2, hk3⟩
              all_goals
                go_upto_region 19 with (first
                  | (go_at_call 33; refine (HL.out _).mono ?_; rintro e w' ⟨rfl, rfl⟩)
                  | (go_at_call 38; refine (HN.out wk).mono ?_; rintro e w6 ⟨A6, c6, rfl, hs6, hl6, hm6, hb6⟩; have hz6 := hb6.size; have j0 := (hb6.cell (p := ⟨b2, o2 + t * 7, none⟩) hbs2).trans i0; have HS6 := hide hs6; have HB6 := hide (HBT5.out.trans (hb6.mono hst)); clear hb6 hs6))
                clear i0 i1 i2 i3 i4 i5 i6 j0 hwr hk1 hk2 hk3 HL HN
                go_wp2
                go_loopw [9] (fun i wr => ∃ j : Nat, j ≤ nl ∧ i = .int .i64 j ∧ Below w6.heap.size w6 wr) (fun i _ => nl - (intOf i).toNat)
                case atStart => exact ⟨0, Nat.zero_le _, rfl, Below.refl _ _⟩
                case round =>
                  obtain ⟨j, hj, rfl, hbj⟩ := hrel
                  have hsj := hbj.size
                  have c4 := (((HX5.out.below HB6.out).below hbj).cell 4 (v := .slice (some ⟨b1, o1, none⟩) ls cs) rfl).1
                  have l4 := ((HX5.out.below HB6.out).below hbj).lt
                  by_cases hlj : j < nl
                  · obtain ⟨b6, o6, rfl, hb6, hc6⟩ := HS6.out (by have := HNL.out; omega)
                    have cj := (hbj.cell (p := ⟨b6, o6 + j, none⟩) hb6).trans (hc6 j (by have := HNL.out; omega))
                    have hv1 : 1 ≤ nx.getD j 0 ∧ nx.getD j 0 < ls := by
                      rw [List.getD_eq_getElem?_getD, List.getElem?_eq_getElem (by have := HNL.out; omega)]
                      exact HNX.out _ (List.getElem_mem _)
                    clear hc6
                    generalize nx.getD j 0 = v at *
                    obtain ⟨hv1, hv2⟩ := hv1
                    have hd1 : decide (v < 1) = false := by simp; omega
                    have hd2 : decide ((ls : Int) ≤ v) = false := by simp; omega
                    go_wp2
                    go_quiet (fail)
                    go_wp2
                    go_roundw
                    case rel => exact ⟨j + 1, by omega, by go_num, below_drewN hbj _⟩
                    case measure => simp [intOf]; omega
                  · obtain ⟨wn, rfl⟩ : ∃ wn, wn = wr := ⟨_, rfl⟩
                    have HBN := hide (HB6.out.trans (hbj.mono HB6.out.size))
                    have HBNW := hide (HB5.out.trans (HBN.out.mono HB5.out.size))
                    obtain ⟨b3, o3, A3, c3, hA3, hbb3, ⟨j0, j1, j2, j3, j4, j5, j6⟩, hui⟩ := (HIN.out wn HBNW.out).get HUU.out
                    cases hA3
                    have hbs3 : b2 < wn.heap.size := by have := HBNW.out.size; omega
                    have HR := hide (usesL_R hui.2 hui.1.range)
                    have HU := hide (uses_any u (.slice A3 u.args.length c3) wn w.heap.size HBNW.out.size (HT.out wn HBNW.out) hui HAU.out)
                    have HVR := hide (fun z hz => inVar_nn (HMY.out.2.2.2.1 z hz))
                    rw [HLK.out] at HVR
                    generalize usesL u = us at *
                    obtain ⟨nu, hnu⟩ : ∃ nu, us.length = nu := ⟨_, rfl⟩
                    have HNU := hide hnu
                    have hsn := HBN.out.size
                    clear hui c4 l4 hbj hsj hnu
                    go_wp2_with (go_at_call 36; refine HU.out.mono ?_; rintro e w8 ⟨v8, rfl, ho8, hb8⟩; have hiv := ho8.intsV HR.out; obtain ⟨A8, c8, rfl, hh8, hm8⟩ := hiv.open'; have HB8 := hide (HBN.out.trans (hb8.mono hsn)); have HV8 := hide hiv; clear ho8 hb8 hiv)
                    rw [HNU.out] at HV8 hh8 ⊢
                    clear j0 j1 j2 j3 j4 j5 j6
                    go_loopw [11] (fun i wr => ∃ j : Nat, j ≤ nu ∧ i = .int .i64 j ∧ Below w8.heap.size w8 wr) (fun i _ => nu - (intOf i).toNat)
                    case atStart => exact ⟨0, Nat.zero_le _, rfl, Below.refl _ _⟩
                    case round =>
                      obtain ⟨g, hg, rfl, hbg⟩ := hrel
                      have hsg := hbg.size
                      have c0 := (((HX5.out.below HB8.out).below hbg).cell 0 (v := .slice Ak lk ck) rfl).1
                      have l4 := ((HX5.out.below HB8.out).below hbg).lt
                      by_cases hlg : g < nu
                      · obtain ⟨z, hz⟩ : ∃ z, us[g]? = some z := ⟨_, List.getElem?_eq_getElem (by have := HNU.out; omega)⟩
                        obtain ⟨b8, o8, rfl, hb8, g8, -⟩ := (HV8.out.keep (up hbg (Nat.le_refl _)) (fun _ h => h)).get hz
                        obtain ⟨hz0, hz1⟩ := HVR.out z (List.mem_of_getElem? hz)
                        have hb8r : b8 < wr.heap.size := by omega
                        clear hz
                        have hd1 : decide (z < 0) = false := by simp; omega
                        have hd2 : decide ((lk : Int) ≤ z) = false := by simp; omega
                        go_wp2
                        go_quiet (fail)
                        go_wp2
                        go_roundw
                        case rel => exact ⟨g + 1, by omega, by go_num, below_drewN hbg _⟩
                        case measure => simp [intOf]; omega
                      · go_wp2
                        go_roundw
                        case rel => exact ⟨t + 1, by omega, by go_num, HB8.out.trans (hbg.mono HB8.out.size)⟩
                        case measure => simp [intOf]; omega
            · go_wp2
              go_roundw
              case rel => exact ⟨q + 1, by omega, by go_num, HBT5.out⟩
              case measure => simp [intOf]; omega
        · go_wp2
          go_roundw
          case rel => exact ⟨k + 1, by omega, by go_num, HBR.out⟩
          case measure => simp [intOf]; omega
    · go_wp2
      go_ret
      exact ⟨rfl, HBEL.out⟩
end Go.Proofs.YtpgljbjgbjjcnaaDoor
