/- The statement ShapeFirst, walked: it answers true. Conditions: the table of parts reads as listed; no slice of the program is longer than any machine's memory. -/
import Derived.Test.YtpgljbjgbjjcnaaDoorSW
set_option linter.unusedSimpArgs false
set_option linter.unusedVariables false
namespace Go.Proofs.YtpgljbjgbjjcnaaDoor
open Go.RowKit

theorem ends_at {l : List InsV} {k : Nat} {x : InsV} (h : endsB l = true) (hx : l[k]? = some x) : lastB x.op = decide (k = l.length - 1) := by
  have hk := (List.getElem?_eq_some_iff.1 hx).1
  unfold endsB at h
  simp only [Bool.and_eq_true, List.all_eq_true, Bool.not_eq_true'] at h
  by_cases he : k = l.length - 1
  · rw [decide_eq_true he]
    exact h.2 x (List.mem_of_getElem? (i := 0) (by rw [List.getElem?_drop, ← he]; simpa using hx))
  · rw [decide_eq_false he]
    exact h.1 x (List.mem_of_getElem? (i := k) (by rw [List.getElem?_take_of_lt (by omega)]; exact hx))
theorem next_blk {p : List FunV} {f : FunV} {x : InsV} (h : mayB4 p f x = true) : ∀ v ∈ nextL x, 1 ≤ v ∧ v < f.blocks.length := by
  obtain ⟨-, -, -, -, hn⟩ := may_parts h
  unfold numsB at hn
  unfold nextL
  intro v hv
  by_cases h21 : x.op = 21
  · simp [h21] at hn hv
    subst hv
    exact inBlk_nn hn
  · by_cases h22 : x.op = 22
    · simp [h22] at hn hv
      have h1 := inBlk_nn hn.1
      have h2 := inBlk_nn hn.2
      split at hv
      · simp at hv; subst hv; exact h1
      · simp at hv; omega
    · simp [h21, h22] at hv
theorem two_chk (p : List FunV) : (chkN4 p = 0 ∧ progB4 p = true) ∨ chkN4 p = 5 := by
  unfold chkN4
  by_cases h : progB4 p = true
  · left; rw [if_pos h]; exact ⟨rfl, h⟩
  · right; rw [if_neg h]
theorem first_fun {p : List FunV} (h : beginOk p = true) : ∃ f, p[0]? = some f ∧ f.params = 0 := by
  unfold beginOk at h
  cases hf : p[0]? with
  | none => rw [hf] at h; cases h
  | some f =>
    rw [hf] at h
    refine ⟨f, rfl, ?_⟩
    simp only [beginB, Bool.and_eq_true, beq_iff_eq] at h
    exact h.1
set_option maxHeartbeats 2000000 in
set_option maxRecDepth 100000 in
theorem first_law (vp : Value) (p : List FunV) (w : World) (hT : TabP w) (hp : FunsV w (· < w.heap.size) vp p) (hsz : progSize p) :
    Calls Tryd.prog 12 #[.agg #[vp]] w fun e w' => e = .returned (.bool true) ∧ Below w.heap.size w w' := by
  have kp := fun (W : World) (hW : Below w.heap.size w W) => hp.keep (up hW (Nat.le_refl _)) (fun _ h => h)
  obtain ⟨A, c, rfl, hpc, hpm⟩ := hp.open'
  have HKP := hide kp
  have HA := hide (fun (W : World) (hW : Below w.heap.size w W) => alive4_any W (hT.below hW hT.1))
  have HG := hide (fun (W : World) (hW : Below w.heap.size w W) => great2_any _ p W w.heap.size hW.size (kp W hW) hsz)
  have HCK := hide (fun (W : World) (hW : Below w.heap.size w W) (hf : progFew p) => check_any _ p W w.heap.size hW.size (hT.below hW hT.1) (kp W hW) hf)
  have HTWO := hide (two_chk p)
  have HFEW := hide (fun h : ∀ f ∈ p, smallF f => smallF.few h)
  generalize chkN4 p = ck at *
  obtain ⟨lp, hlp⟩ : ∃ lp, p.length = lp := ⟨_, rfl⟩
  have HLP := hide hlp
  rw [hlp] at HKP HG HCK hpc ⊢
  clear kp hp hT hsz hlp
  go_enter Tryd.func12, Tryd.ntmps12
  go_upto_region 3 with (go_at_call 24; refine (HA.out _ (alloc1 w _)).mono ?_; rintro e w1 ⟨rfl, hb1⟩; have hz1 := hb1.size; simp only [World.size_alloc] at hz1 hb1; have x1 := (hb1.cell (p := ⟨w.heap.size, 0, none⟩) (by show w.heap.size < _; omega)).trans (show _ = some (Value.slice A lp c) by simp); have hc1 := (alloc1 w (.cells #[.slice A lp c] 24)).trans (hb1.mono (by omega)))
  clear hb1
  have HC1 := hide hc1
  clear hc1
  rcases HTWO.out with ⟨rfl, hpb⟩ | rfl
  rotate_left
  focus
    go_wp2_with (first
      | (have q := HC2.out; go_at_call 27; refine (HCK.out w2 HC2.out (HFEW.out (HS2.out (Bool.eq_false_iff.2 (by assumption))))).mono ?_; rintro e w3 ⟨rfl, hb3⟩; have hz3 := hb3.size; have HC3 := hide (HC2.out.trans (hb3.mono (by omega))); clear hb3)
      | (go_at_call 14; refine (HG.out w1 HC1.out).mono ?_; rintro e w2 ⟨b1, rfl, hs2, hb2⟩; have hz2 := hb2.size; have y1 := (hb2.cell (p := ⟨w.heap.size, 0, none⟩) (by show w.heap.size < _; omega)).trans x1; have HC2 := hide (HC1.out.trans (hb2.mono (by omega))); have HS2 := hide hs2; clear x1; have x1 := y1; clear y1 hb2 hs2))
    all_goals
      go_ret
      first
        | exact ⟨rfl, HC3.out⟩
        | exact ⟨rfl, HC2.out⟩
  go_upto_region 5 with (first
      | (have q := HC2.out; go_at_call 27; have few := HFEW.out (HS2.out (Bool.eq_false_iff.2 (by assumption))); refine (HCK.out w2 HC2.out few).mono ?_; rintro e w3 ⟨rfl, hb3⟩; have hz3 := hb3.size; have y1 := (hb3.cell (p := ⟨w.heap.size, 0, none⟩) (by show w.heap.size < _; omega)).trans x1; have HC3 := hide (HC2.out.trans (hb3.mono (by omega))); clear hb3 few q)
      | (go_at_call 14; refine (HG.out w1 HC1.out).mono ?_; rintro e w2 ⟨b1, rfl, hs2, hb2⟩; have hz2 := hb2.size; have y1 := (hb2.cell (p := ⟨w.heap.size, 0, none⟩) (by show w.heap.size < _; omega)).trans x1; have HC2 := hide (HC1.out.trans (hb2.mono (by omega))); have HS2 := hide hs2; clear x1; have x1 := y1; clear y1 hb2 hs2))
  all_goals try (go_ret; exact ⟨rfl, HC2.out⟩)
  clear x1 HA HG HCK HTWO HFEW HC2 HS2 HC1
  obtain ⟨hp1, hp8, hbg, hall⟩ := prog_parts hpb
  rw [HLP.out] at hp1 hp8
  have HALL := hide hall
  have HFST := hide (first_fun hbg)
  have hl3 : w.heap.size < w3.heap.size := by omega
  clear hall hbg hpb
  go_wp2
  go_loopw [3] (fun i wr => ∃ k : Nat, k ≤ lp ∧ i = .int .i64 k ∧ Below w3.heap.size w3 wr) (fun i _ => lp - (intOf i).toNat)
  case atStart => exact ⟨0, Nat.zero_le _, rfl, Below.refl _ _⟩
  case round =>
    obtain ⟨k, hk, rfl, hb⟩ := hrel
    obtain ⟨wo, rfl⟩ : ∃ wo, wo = wr := ⟨_, rfl⟩
    have hsz := hb.size
    have HBEL := hide (HC3.out.trans (hb.mono HC3.out.size))
    have xp := (hb.cell (p := ⟨w.heap.size, 0, none⟩) hl3).trans y1
    by_cases hlt : k < lp
    · obtain ⟨f, hf⟩ : ∃ f, p[k]? = some f := ⟨_, List.getElem?_eq_getElem (by have := HLP.out; omega)⟩
      obtain ⟨b, o, Ak, ck, Ab, cb, As, cs, rfl, hbb, ⟨e0, e1, e2, e3, e4⟩, hi⟩ := (HKP.out wo HBEL.out).get hf
      have hbs : b < wo.heap.size := by omega
      obtain ⟨-, ⟨hq0, hq4, hqk⟩, -, ⟨hb1, hb40, hbl⟩, hmay⟩ := fun_parts (HALL.out f (List.mem_of_getElem? hf))
      have HBK := hide (fun (W : World) (hW : Below w.heap.size w W) => (show BlksV W (· < w.heap.size) (.slice As f.blocks.length cs) f.blocks from hi.2.2.1.keep (fun bb oo hbb => by
        have q1 := hW.cell (p := ⟨bb, oo, none⟩) hbb
        have q2 := HBEL.out.cell (p := ⟨bb, oo, none⟩) hbb
        rw [q1, q2]) (fun _ h => h)))
      have HBL := hide hbl
      have HMAY := hide hmay
      have HBW := hide hb
      obtain ⟨lk, hlk⟩ : ∃ lk, f.kinds.length = lk := ⟨_, rfl⟩
      obtain ⟨lb, hlb⟩ : ∃ lb, f.base.length = lb := ⟨_, rfl⟩
      obtain ⟨ls, hls⟩ : ∃ ls, f.blocks.length = ls := ⟨_, rfl⟩
      have HLS := hide hls
      rw [hlk] at e0 hqk
      rw [hlb] at e1
      rw [hls] at e4 HBK hb1 hb40
      clear hi hf hb hlk hlb hls hbl hmay
      generalize f.params = fp, f.result = fr at *
      go_upto_region 9 with (fail)
      obtain ⟨w5, hw5⟩ : ∃ w5, w5 = wo.alloc (.cells #[.slice Ak lk ck, .slice Ab lb cb, .int .i64 fp, .int .i64 fr, .slice As ls cs] 44) := ⟨_, rfl⟩
      obtain ⟨h5, hh5⟩ : ∃ h5, wo.heap.size = h5 := ⟨_, rfl⟩
      have HX5 := hide (show Box w5 h5 #[.slice Ak lk ck, .slice Ab lb cb, .int .i64 fp, .int .i64 fr, .slice As ls cs] 44 by rw [hw5, ← hh5]; exact Box.new wo _ _)
      have HB5 := hide (show Below w.heap.size w w5 by rw [hw5]; exact HBEL.out.alloc (by omega) _)
      have HBO5 := hide (show Below w3.heap.size w3 w5 by rw [hw5]; exact HBW.out.alloc hsz _)
      rw [← hw5, hh5]
      clear hw5 hh5 e0 e1 e2 e3 e4 hbs xp hsz
      have c0 := (HX5.out.cell 0 (v := .slice Ak lk ck) rfl).1
      have c2 := (HX5.out.cell 2 (v := .int .i64 fp) rfl).1
      have c4 := (HX5.out.cell 4 (v := .slice As ls cs) rfl).1
      have l5 := HX5.out.lt
      have hd1 : ((ls : Int) == 0) = false := by simp; omega
      have hd2 : decide ((lk : Int) < fp) = false := by simp; omega
      go_wp2
      clear c0 c2 c4 hd1 hd2
      go_loopw [5] (fun i wr => ∃ q : Nat, q ≤ ls ∧ i = .int .i64 q ∧ Below w5.heap.size w5 wr) (fun i _ => ls - (intOf i).toNat)
      case atStart => exact ⟨0, Nat.zero_le _, rfl, Below.refl _ _⟩
      case round =>
        obtain ⟨q, hq, rfl, hbq⟩ := hrel
        have hsq := hbq.size
        have HBQ := hide (HB5.out.trans (hbq.mono HB5.out.size))
        have HBR := hide (HBO5.out.trans (hbq.mono HBO5.out.size))
        have c4 := ((HX5.out.below hbq).cell 4 (v := .slice As ls cs) rfl).1
        have HBW5 := hide hbq
        clear hbq
        by_cases hlq : q < ls
        · obtain ⟨x, hx⟩ : ∃ x, f.blocks[q]? = some x := ⟨_, List.getElem?_eq_getElem (by have := HLS.out; omega)⟩
          obtain ⟨b1, o1, A1, c1, rfl, hbb1, g0, hx1⟩ := (HBK.out wr HBQ.out).get hx
          have hxm := List.mem_of_getElem? hx
          obtain ⟨hm1, hm40, hend⟩ := HBL.out x hxm
          obtain ⟨mp, hmp⟩ : ∃ mp, x.length = mp + 1 := ⟨x.length - 1, by omega⟩
          obtain ⟨u, hu⟩ : ∃ u, x[mp]? = some u := ⟨_, List.getElem?_eq_getElem (by omega)⟩
          obtain ⟨b2, o2, A2, c2, rfl, hbb2, ⟨i0, i1, i2, i3, i4, i5, i6⟩, -⟩ := hx1.get hu
          have hlast : lastB u.op = true := by rw [ends_at hend hu]; simp; omega
          have HL := hide (fun (W : World) => (last_any u.op W).mono (R' := fun e w' => e = .returned (.bool true) ∧ W = w') (fun e w' ⟨h1, h2⟩ => ⟨by rw [h1, hlast], h2⟩))
          have HN := hide (fun (W : World) => next_any u A2 u.args.length c2 W)
          have HNX := hide (next_blk (HMAY.out x hxm u (List.mem_of_getElem? hu)))
          obtain ⟨m, hm⟩ : ∃ m, x.length = m := ⟨_, rfl⟩
          rw [hm] at g0 hmp hm40
          have hmm : mp < m := by omega
          have hbs1 : b1 < wr.heap.size := by have := HBQ.out.size; omega
          have hbs2 : b2 < wr.heap.size := by have := HBQ.out.size; omega
          have hd1 : ((m : Int) == 0) = false := by simp; omega
          have hwr : IntKind.i64.wrap ((m : Int) - 1) = (mp : Int) := by rw [show (m : Int) - 1 = (mp : Int) by omega]; exact IntWalk.i64_in _ ⟨by omega, by omega⟩
          obtain ⟨nl, hnl⟩ : ∃ nl, (nextL u).length = nl := ⟨_, rfl⟩
          have HNL := hide hnl
          rw [hnl] at HN
          generalize nextL u = nx at *
          generalize u.args.length = la at *
          generalize u.op = xop, u.d = xd, u.a = xa, u.b = xb, u.n = xn, u.m = xm at *
          clear hx hx1 hu hm hmp hnl hlast hend hm1 hxm
          go_upto_region 18 with (first
            | (go_at_call 38; refine (HN.out wr).mono ?_; rintro e w6 ⟨A6, c6, rfl, hs6, hl6, hm6, hb6⟩; have hz6 := hb6.size; have HS6 := hide hs6; have HB6 := hide (HBW5.out.trans (hb6.mono hsq)); clear hb6 hs6)
            | (go_at_call 33; refine (HL.out _).mono ?_; rintro e w' ⟨rfl, rfl⟩))
          clear i0 i1 i2 i3 i4 i5 i6 g0 hd1 hwr c4
          go_wp2
          go_loop [8] (fun i => ∃ j : Nat, j ≤ nl ∧ i = .int .i64 j) (fun i => nl - (intOf i).toNat)
          case atStart => exact ⟨0, Nat.zero_le _, rfl⟩
          case round =>
            obtain ⟨j, hj, rfl⟩ := hrel
            by_cases hlj : j < nl
            · obtain ⟨b6, o6, rfl, hb6, hc6⟩ := HS6.out (by have := HNL.out; omega)
              have cj := hc6 j (by have := HNL.out; omega)
              have hv1 : 1 ≤ nx.getD j 0 := by
                rw [List.getD_eq_getElem?_getD, List.getElem?_eq_getElem (by have := HNL.out; omega)]
                exact (HNX.out _ (List.getElem_mem _)).1
              clear hc6
              generalize nx.getD j 0 = v at *
              have hv0 : (v == 0) = false := by simp; omega
              go_wp2
              go_round
              case rel => exact ⟨j + 1, by omega, by go_num⟩
              case measure => simp [intOf]; omega
            · go_wp2
              go_roundw
              case rel => exact ⟨q + 1, by omega, by go_num, HB6.out⟩
              case measure => simp [intOf]; omega
        · go_wp2
          go_roundw
          case rel => exact ⟨k + 1, by omega, by go_num, HBR.out⟩
          case measure => simp [intOf]; omega
    · obtain ⟨f, hf, hf0⟩ := HFST.out
      obtain ⟨b, o, Ak, ck, Ab, cb, As, cs, rfl, hbb, ⟨e0, e1, e2, e3, e4⟩, -⟩ := (HKP.out wo HBEL.out).get hf
      rw [Nat.zero_mul, Nat.add_zero] at e2
      rw [hf0] at e2
      have hbs : b < wo.heap.size := by omega
      clear e0 e1 e3 e4 hf hf0
      go_wp2
      go_ret
      exact ⟨rfl, HBEL.out⟩
end Go.Proofs.YtpgljbjgbjjcnaaDoor
