/- The contract of the reference's Ins of layer 4, at a function that is there, walked. No condition but on lengths. -/
import Derived.Test.YtkpikgakphdjjaaTI
import Derived.Test.YtkpikgakphdjjaaTG
import Derived.Test.YtkpikgakphdjjaaTB
set_option linter.unusedSimpArgs false
set_option linter.unusedVariables false
namespace Go.Proofs.Ytkpikgakphdjjaa
open Go.RowKit

theorem numsR_at {p : List FunV} {x : InsV} {j : Int} (h : x.op = j) : numsR p x = (if j = 19 then calleeB p x.n x.args.length else if j = 1 then inB (-2147483648) 2147483648 x.n else if j = 16 then inB (-8) 8 x.n else if j = 10 then inB 0 8 x.n && inB 0 8 x.m
  else if j = 11 ∨ j = 12 ∨ j = 13 ∨ j = 14 ∨ j = 15 then inB 0 7 x.n else true) := by subst h; rfl
set_option maxHeartbeats 8000000 in
set_option maxRecDepth 100000 in
theorem ins4_any (vp : Value) (p : List FunV) (k : Nat) (f : FunV) (x : InsV) (va : Value) (w : World) (B : Nat) (hB : B ≤ w.heap.size) (hp : FunsV w (· < B) vp p) (hf : p[k]? = some f) (hx : InsI w (· < B) va x) (hlen : x.args.length ≤ 1099511627000) :
    Calls Try.prog 46 #[.agg #[vp], .int .i64 (k : Int), .agg #[.int .i64 x.op, .int .i64 x.d, .int .i64 x.a, .int .i64 x.b, .int .i64 x.n, .int .i64 x.m, va]] w fun e w' => e = .returned (.bool (mayB4 p f x)) ∧ Below w.heap.size w w' := by
  obtain ⟨q0, hq0, iz0, iz1, iz2⟩ := info_parts info_i64
  have HI := hide hq0
  clear hq0
  have hkl : k < p.length := (List.getElem?_eq_some_iff.1 hf).1
  have KP := hide (fun (W : World) (hW : Below w.heap.size w W) => hp.keep (up hW hB) (fun _ h => h))
  obtain ⟨A, c, rfl, hc, hm⟩ := hp.open'
  have hR : ∀ z ∈ usesD x, i64R z := fun z hz => by
    unfold usesD at hz
    rcases List.mem_append.1 hz with h | h
    · exact usesL_R hx.2 hx.1.range z h
    · split at h
      · simp at h; subst h; exact hx.2.2.1
      · cases h
  have HR := hide hR
  have HU := hide (fun (W : World) (hW : Below w.heap.size w W) => uses4_any x va W B (by have := hW.size; omega) (hx.keep (up hW hB) (fun _ h => h)) hlen)
  obtain ⟨Aa, ca, rfl⟩ := hx.open'
  have HS := hide (fun W => sets4_any x Aa x.args.length ca W)
  have HN := hide (fun W => next4_any x Aa x.args.length ca W)
  have HBr := hide (fun W => bare4_any x Aa ca W)
  have HPt := hide (fun W => rparts_any x.op W)
  have hne : (partsN x.op).isEmpty = false → (!(strOf (partsN x.op)).toList.isEmpty) = true := fun h => by
    have := strOf_nil (l := partsN x.op) (by intro h0; rw [h0] at h; cases h)
    simpa using this
  have hem : (partsN x.op).isEmpty = true → strOf (partsN x.op) = ⟨#[]⟩ := fun h => by
    have : partsN x.op = [] := by simpa using h
    rw [this]; rfl
  obtain ⟨R, hRR⟩ : ∃ R, mayB4 p f x = R := ⟨_, rfl⟩
  have HRR := hide (hRR.symm.trans (may_eq p f x))
  rw [hRR]
  have HUD := hide (show usesD x = usesL x ++ (if hasB4 x.op 68 = true then [x.d] else []) from rfl)
  have hulen : (usesL x).length ≤ 1099511627700 := by
    unfold usesL
    simp only [List.length_append]
    have h1 : (if hasB4 x.op 65 = true then [x.a] else []).length ≤ 1 := by split <;> simp
    have h2 : (if hasB4 x.op 66 = true then [x.b] else []).length ≤ 1 := by split <;> simp
    have h3 : (if hasB4 x.op 76 = true then x.args else []).length ≤ 1099511627000 := by split <;> simp_all
    omega
  have HNR := hide (fun (j : Int) (h : x.op = j) => numsR_at (p := p) h)
  obtain ⟨np, hnp⟩ : ∃ np, p.length = np := ⟨_, rfl⟩
  have HNP := hide hnp
  rw [hnp] at KP hc hkl ⊢
  have hCal : ∀ z a : Int, calleeB p z a = (inB 0 ((np : Int) - 1) z && decide ((p[z.toNat]?).map FunV.params = some a)) := fun z a => by unfold calleeB; rw [hnp]
  have HCal := hide hCal
  generalize strOf (partsN x.op) = t at *
  generalize (partsN x.op).isEmpty = eb at *
  generalize onlyB4 x = b2 at *
  generalize hasB4 x.op 68 = hd at *
  generalize usesL x = ul at *
  generalize usesD x = us at *
  generalize nextL x = nx at *
  generalize numsR p x = nr at *
  obtain ⟨la, hla⟩ : ∃ la, x.args.length = la := ⟨_, rfl⟩
  rw [hla] at HU HS HN HBr HNR hlen ⊢
  have HF := hide hf
  have hxop := hx.2
  unfold InsR at hxop
  generalize x.op = xop, x.d = xd, x.a = xa, x.b = xb, x.n = xn, x.m = xm at *
  have hin : inB 0 ((np : Int) - 1) (k : Int) = true := inB4_iff.2 (by omega)
  have e3 : IntKind.i64.wrap ((np : Int) - 1) = (np : Int) - 1 := IntWalk.i64_in _ ⟨by omega, by omega⟩
  obtain ⟨lk, hlk⟩ : ∃ lk, f.kinds.length = lk := ⟨_, rfl⟩
  obtain ⟨ls, hls⟩ : ∃ ls, f.blocks.length = ls := ⟨_, rfl⟩
  have HIV := hide (show ∀ z, inVar f z = inB 0 ((lk : Int) - 1) z from fun z => by unfold inVar; rw [hlk])
  have HIB := hide (show ∀ z, inBlk f z = inB 1 ((ls : Int) - 1) z from fun z => by unfold inBlk; rw [hls])
  have HLK := hide hlk
  have HLS := hide hls
  clear hp hx hR hf hRR hnp hla hlk hls hCal
  cases eb with
  | true =>
    have ht := hem rfl
    subst ht
    have HF0 := hide (show R = false by rw [HRR.out]; rfl)
    clear hem hne
    go_enter Try.func46, Try.ntmps46
    go_wp2_with (first
      | (go_at_call 44; refine (within4_any _ _ _ _).mono ?_; rintro e w' ⟨rfl, rfl⟩)
      | (go_at_call 59; refine (HPt.out _).mono ?_; rintro e w' ⟨rfl, rfl⟩))
    go_ret
    exact ⟨ret_bool HF0.out.symm, alloc2 w _ _⟩
  | false =>
    have htl := hne rfl
    have htn : (t.toList == []) = false := by simpa using htl
    clear hem hne
    go_enter Try.func46, Try.ntmps46
    go_upto_region 1 with (fail)
    obtain ⟨w1, hw1⟩ : ∃ w1, w1 = (w.alloc (.cells #[.slice A np c] 24)).alloc (.cells #[.int .i64 xop, .int .i64 xd, .int .i64 xa, .int .i64 xb, .int .i64 xn, .int .i64 xm, .slice Aa la ca] 43) := ⟨_, rfl⟩
    obtain ⟨h2, hh2⟩ : ∃ h2, w.heap.size + 1 = h2 := ⟨_, rfl⟩
    have HBP := hide (show Box w1 w.heap.size #[.slice A np c] 24 by rw [hw1]; exact (Box.new w _ _).alloc _)
    have HBX := hide (show Box w1 h2 #[.int .i64 xop, .int .i64 xd, .int .i64 xa, .int .i64 xb, .int .i64 xn, .int .i64 xm, .slice Aa la ca] 43 by
      have h := Box.new (w.alloc (.cells #[.slice A np c] 24)) #[.int .i64 xop, .int .i64 xd, .int .i64 xa, .int .i64 xb, .int .i64 xn, .int .i64 xm, .slice Aa la ca] 43
      rw [World.size_alloc, hh2] at h
      rw [hw1]; exact h)
    have HB1 := hide (show Below w.heap.size w w1 by rw [hw1]; exact alloc2 w _ _)
    have hl1 := HBP.out.lt
    have hl2 := HBX.out.lt
    rw [← hw1, hh2]
    have hwh2 : w.heap.size < h2 := by omega
    clear hw1 hh2
    obtain ⟨x0, x1, x2, x3, x4, x5, x6⟩ := SBoxR.of HBX.out
    have p0 := (HBP.out.cell 0 (v := .slice A np c) rfl).1
    cases b2 with
    | false =>
      have HF0 := hide (show R = false by rw [HRR.out]; rfl)
      go_wp2_with (first
        | (go_at_call 60; refine (HBr.out w1).mono ?_; rintro e w2 ⟨rfl, hb2⟩; have HB2 := hide (HB1.out.trans (hb2.mono HB1.out.size)); clear hb2)
        | (go_at_call 59; refine (HPt.out _).mono ?_; rintro e w' ⟨rfl, rfl⟩)
        | (go_at_call 44; refine (within4_any _ _ _ _).mono ?_; rintro e w' ⟨rfl, rfl⟩))
      go_ret
      exact ⟨ret_bool HF0.out.symm, HB2.out⟩
    | true =>
      go_upto_region 3 with (first
        | (go_at_call 60; refine (HBr.out w1).mono ?_; rintro e w2 ⟨rfl, hb2⟩; have HB2 := hide (HB1.out.trans (hb2.mono HB1.out.size)); have HX2 := hide (HBX.out.below hb2); have HP2 := hide (HBP.out.below hb2); clear hb2)
        | (go_at_call 59; refine (HPt.out _).mono ?_; rintro e w' ⟨rfl, rfl⟩)
        | (go_at_call 44; refine (within4_any _ _ _ _).mono ?_; rintro e w' ⟨rfl, rfl⟩))
      clear x0 x1 x2 x3 x4 x5 x6 p0
      have p0 := (HP2.out.cell 0 (v := .slice A np c) rfl).1
      have lp2 := HP2.out.lt
      obtain ⟨b, o, Ak, ck, Ab, cb, As, cs, rfl, hbb, ⟨e0, e1, e2, e4, e5⟩, hi⟩ := (KP.out w2 HB2.out).get HF.out
      have hbs : b < w2.heap.size := by have := HB2.out.size; omega
      have hlk64 : lk ≤ 9223372036854775807 := by obtain ⟨h, -⟩ := len_le hi.1; rw [HLK.out] at h; exact h
      have hls64 : ls ≤ 9223372036854775807 := by obtain ⟨A', c', heq, h1, h2⟩ := hi.2.2.1.open'; injection heq with _ _ h3; rw [HLS.out] at h1; omega
      rw [HLK.out] at e0
      rw [HLS.out] at e5
      obtain ⟨lb, hlb⟩ : ∃ lb, f.base.length = lb := ⟨_, rfl⟩
      rw [hlb] at e1
      clear hi hlb
      obtain ⟨fp, hfp⟩ : ∃ fp, f.params = fp := ⟨_, rfl⟩
      obtain ⟨fr, hfr⟩ : ∃ fr, f.result = fr := ⟨_, rfl⟩
      rw [hfp] at e2
      rw [hfr] at e4
      clear hfp hfr
      go_upto_region 4 with (fail)
      obtain ⟨w3, hw3⟩ : ∃ w3, w3 = w2.alloc (.cells #[.slice Ak lk ck, .slice Ab lb cb, .int .i64 fp, .int .i64 fr, .slice As ls cs] 30) := ⟨_, rfl⟩
      obtain ⟨h3, hh3⟩ : ∃ h3, w2.heap.size = h3 := ⟨_, rfl⟩
      have HX3 := hide (show Box w3 h2 #[.int .i64 xop, .int .i64 xd, .int .i64 xa, .int .i64 xb, .int .i64 xn, .int .i64 xm, .slice Aa la ca] 43 by rw [hw3]; exact HX2.out.alloc _)
      have HP3 := hide (show Box w3 w.heap.size #[.slice (some ⟨b, o, none⟩) np c] 24 by rw [hw3]; exact HP2.out.alloc _)
      have HF3 := hide (show Box w3 h3 #[.slice Ak lk ck, .slice Ab lb cb, .int .i64 fp, .int .i64 fr, .slice As ls cs] 30 by rw [hw3, ← hh3]; exact Box.new w2 _ _)
      have HB3 := hide (show Below w.heap.size w w3 by rw [hw3]; exact HB2.out.alloc HB2.out.size _)
      rw [← hw3, hh3]
      clear hw3 hh3 e0 e1 e2 e4 e5 hbs p0 lp2
      have lx3 := HX3.out.lt; have lf3 := HF3.out.lt; have lp3 := HP3.out.lt
      obtain ⟨x0, x1, x2, x3, x4, x5, x6⟩ := SBoxR.of HX3.out
      cases hd
      focus
        have HUE := hide (show us = ul by rw [HUD.out]; simp)
        go_upto_region 8 with (first
          | (go_at_call 62; refine (HS.out w4).mono ?_; rintro e wl ⟨rfl, hbl⟩; have HOL := hide (HO4.out.below hbl); have hzl := hbl.size; have HC := hide (HC4.out.trans (hbl.mono HC4.out.size)); clear hbl)
          | (go_at_call 61; refine (HU.out w3 HB3.out).mono ?_; rintro e w4 ⟨v4, rfl, ho4, hb4⟩; have HO4 := hide ho4; have HC4 := hide hb4; have y4 := SBoxR.of (HX3.out.below hb4); obtain ⟨y0, y1, y2, y3, y5, y6, y7⟩ := y4; have l4 := (HX3.out.below hb4).lt; clear ho4 hb4))
        have hOL : Ow wl w3.heap.size 3 .i64 v4 us := by rw [HUE.out]; exact HOL.out
        obtain ⟨vl, hvl⟩ : ∃ vl, vl = v4 := ⟨_, rfl⟩
        rw [← hvl] at hOL ⊢
        have HOS := hide hOL
        clear hOL hvl x0 x1 x2 x3 x4 x5 x6
      rotate_left
      focus
        have HUE := hide (show us = ul ++ [xd] by rw [HUD.out]; simp)
        go_upto_region 8 with (first
          | (at_builtin; refine wpList_append_one _ rfl (.tmp 45) (.tmp 47) _ rfl w3.heap.size 3 .i64 q0 _ 8 Try.underlying27 HI.out iz0 iz1 iz2 rfl (by omega) _ ul rfl HO5.out xd rfl (by omega) (by have := HC5.out.size; omega) ?_; intro vl wl hol hbl; have HOL := hide hol; have HC := hide (HC5.out.trans hbl); clear hol hbl)
          | (go_at_call 62; refine (HS.out w4).mono ?_; rintro e w5 ⟨rfl, hb5⟩; have HO5 := hide (HO4.out.below hb5); have HC5 := hide (HC4.out.trans (hb5.mono HC4.out.size)); clear hb5)
          | (go_at_call 61; refine (HU.out w3 HB3.out).mono ?_; rintro e w4 ⟨v4, rfl, ho4, hb4⟩; have HO4 := hide ho4; have HC4 := hide hb4; have y4 := SBoxR.of (HX3.out.below hb4); obtain ⟨y0, y1, y2, y3, y5, y6, y7⟩ := y4; have l4 := (HX3.out.below hb4).lt; clear ho4 hb4))
        have HOS := hide (show Ow wl w3.heap.size 3 .i64 vl us by rw [HUE.out]; exact HOL.out)
        clear x0 x1 x2 x3 x4 x5 x6
      all_goals
        have HVL := hide (HOS.out.intsV HR.out)
        obtain ⟨Al, cl, rfl, hcl, hml⟩ := HVL.out.open'
        obtain ⟨nl, hnl⟩ : ∃ nl, us.length = nl := ⟨_, rfl⟩
        have HNL := hide hnl
        rw [hnl] at HVL hcl ⊢
        have hzc := HC.out.size
        have HBL := hide (HB3.out.trans (HC.out.mono HB3.out.size))
        have HXL := hide (HX3.out.below HC.out)
        have HPL := hide (HP3.out.below HC.out)
        have HFL := hide (HF3.out.below HC.out)
        clear hnl
        go_wp2
        go_loopw [11] (fun i wr => ∃ j : Nat, j ≤ nl ∧ i = .int .i64 j ∧ Below wl.heap.size wl wr ∧ Hid ((us.take j).all (inVar f) = true)) (fun i _ => nl - (intOf i).toNat)
        case atStart => exact ⟨0, Nat.zero_le _, rfl, Below.refl _ _, hide (by simp)⟩
        case round =>
          obtain ⟨j, hj, rfl, hbj, hall⟩ := hrel
          have hsj := hbj.size
          have HBJ := hide (HBL.out.trans (hbj.mono HBL.out.size))
          have c0 := ((HFL.out.below hbj).cell 0 (v := .slice Ak lk ck) rfl).1
          have l0 := (HFL.out.below hbj).lt
          by_cases hlj : j < nl
          · obtain ⟨z, hz⟩ : ∃ z, us[j]? = some z := ⟨_, List.getElem?_eq_getElem (by have := HNL.out; omega)⟩
            obtain ⟨b8, o8, rfl, hb8, g8, -⟩ := (HVL.out.keep (up hbj (Nat.le_refl _)) (fun _ h => h)).get hz
            have hb8r : b8 < wr.heap.size := by omega
            have HZ := hide hz
            have e5 : IntKind.i64.wrap ((lk : Int) - 1) = (lk : Int) - 1 := IntWalk.i64_in _ ⟨by omega, by omega⟩
            clear hz
            by_cases hiv : inB 0 ((lk : Int) - 1) z = true
            · have hnx := hide (allB_take hall.out HZ.out (by rw [HIV.out]; exact hiv))
              clear hall
              go_wp2
              go_quiet ((go_at_call 44; exact Calls.quiet_of_same (within4_quiet _ _ _ _)))
              go_wp2
              go_roundw
              case rel => exact ⟨j + 1, by omega, by go_num, below_drewN hbj _, hnx⟩
              case measure => simp [intOf]; omega
            · have hiv' : inB 0 ((lk : Int) - 1) z = false := Bool.eq_false_iff.2 hiv
              have HF0 := hide (show R = false by rw [HRR.out, allB_not HZ.out (by rw [HIV.out]; exact hiv')]; simp)
              clear hall hiv
              go_wp2
              go_quiet ((go_at_call 44; exact Calls.quiet_of_same (within4_quiet _ _ _ _)))
              go_wp2
              go_ret
              exact ⟨ret_bool HF0.out.symm, below_drewN HBJ.out _⟩
          · have HUA := hide (show us.all (inVar f) = true by have h := hall.out; rwa [List.take_of_length_le (by have := HNL.out; omega)] at h)
            obtain ⟨wn, rfl⟩ : ∃ wn, wn = wr := ⟨_, rfl⟩
            have HXN := hide (HXL.out.below hbj)
            have HPN := hide (HPL.out.below hbj)
            have HFN := hide (HFL.out.below hbj)
            have lx := HXN.out.lt
            obtain ⟨x0, x1, x2, x3, x4, x5, x6⟩ := SBoxR.of HXN.out
            clear hall hbj hsj c0 l0
            go_wp2_with (go_at_call 63; refine (HN.out wn).mono ?_; rintro e w8 ⟨A8, c8, rfl, hs8, hl8, hm8, hb8⟩; have hz8 := hb8.size; have HS8 := hide hs8; have HB8 := hide (HBJ.out.trans (hb8.mono HBJ.out.size)); have HX8 := hide (HXN.out.below hb8); have HP8 := hide (HPN.out.below hb8); have HF8 := hide (HFN.out.below hb8); clear hb8 hs8)
            clear x0 x1 x2 x3 x4 x5 x6 lx
            obtain ⟨nn, hnn⟩ : ∃ nn, nx.length = nn := ⟨_, rfl⟩
            have HNN := hide hnn
            rw [hnn] at hl8 ⊢
            clear hnn
            go_loopw [13] (fun i wr => ∃ j : Nat, j ≤ nn ∧ i = .int .i64 j ∧ Below w8.heap.size w8 wr ∧ Hid ((nx.take j).all (inBlk f) = true)) (fun i _ => nn - (intOf i).toNat)
            case atStart => exact ⟨0, Nat.zero_le _, rfl, Below.refl _ _, hide (by simp)⟩
            case round =>
              obtain ⟨g, hg, rfl, hbg, hall⟩ := hrel
              have hsg := hbg.size
              have HBG := hide (HB8.out.trans (hbg.mono HB8.out.size))
              have c4 := ((HF8.out.below hbg).cell 4 (v := .slice As ls cs) rfl).1
              have l4 := (HF8.out.below hbg).lt
              by_cases hlg : g < nn
              · obtain ⟨z, hz⟩ : ∃ z, nx[g]? = some z := ⟨_, List.getElem?_eq_getElem (by have := HNN.out; omega)⟩
                obtain ⟨b6, o6, rfl, hb6, hc6⟩ := HS8.out (by have := HNN.out; omega)
                have cj := (hbg.cell (p := ⟨b6, o6 + g, none⟩) hb6).trans (hc6 g (by have := HNN.out; omega))
                rw [List.getD_eq_getElem?_getD, hz] at cj
                simp only [Option.getD_some] at cj
                have hb6r : b6 < wr.heap.size := by omega
                have HZ := hide hz
                have e5 : IntKind.i64.wrap ((ls : Int) - 1) = (ls : Int) - 1 := IntWalk.i64_in _ ⟨by omega, by omega⟩
                clear hz hc6
                by_cases hiv : inB 1 ((ls : Int) - 1) z = true
                · have hnx := hide (allB_take hall.out HZ.out (by rw [HIB.out]; exact hiv))
                  clear hall
                  go_wp2
                  go_quiet ((go_at_call 44; exact Calls.quiet_of_same (within4_quiet _ _ _ _)))
                  go_wp2
                  go_roundw
                  case rel => exact ⟨g + 1, by omega, by go_num, below_drewN hbg _, hnx⟩
                  case measure => simp [intOf]; omega
                · have hiv' : inB 1 ((ls : Int) - 1) z = false := Bool.eq_false_iff.2 hiv
                  have HF0 := hide (show R = false by rw [HRR.out, HUA.out, allB_not HZ.out (by rw [HIB.out]; exact hiv')]; simp)
                  clear hall hiv
                  go_wp2
                  go_quiet ((go_at_call 44; exact Calls.quiet_of_same (within4_quiet _ _ _ _)))
                  go_wp2
                  go_ret
                  exact ⟨ret_bool HF0.out.symm, below_drewN HBG.out _⟩
              · have HNA := hide (show nx.all (inBlk f) = true by have h := hall.out; rwa [List.take_of_length_le (by have := HNN.out; omega)] at h)
                have HRN := hide (show R = nr by rw [HRR.out, HUA.out, HNA.out]; simp)
                obtain ⟨wm, rfl⟩ : ∃ wm, wm = wr := ⟨_, rfl⟩
                have HXM := hide (HX8.out.below hbg)
                have HPM := hide (HP8.out.below hbg)
                have lx := HXM.out.lt
                have lp := HPM.out.lt
                obtain ⟨x0, x1, x2, x3, x4, x5, x6⟩ := SBoxR.of HXM.out
                have p0 := (HPM.out.cell 0 (v := .slice (some ⟨b, o, none⟩) np c) rfl).1
                clear hall hbg hsg c4 l4
                by_cases h19 : xop = 19
                · subst h19
                  have hnr : nr = calleeB p xn la := by have := HNR.out 19 rfl; simpa using this
                  by_cases hci : inB 0 ((np : Int) - 1) xn = true
                  · have HW := hide (fun W => (show Calls Try.prog 44 #[.int .i64 xn, .int .i64 0, .int .i64 ((np : Int) - 1)] W fun e w' => e = .returned (.bool true) ∧ w' = W by have h := within4_quiet xn 0 ((np : Int) - 1) W; rw [hci] at h; exact h))
                    have hci2 := inB4_iff.1 hci
                    obtain ⟨vn, hvn⟩ : ∃ v : Nat, xn = v := ⟨xn.toNat, by omega⟩
                    subst hvn
                    have hvn : vn < np := by omega
                    obtain ⟨gg, hgg⟩ : ∃ y, p[vn]? = some y := ⟨_, List.getElem?_eq_getElem (by have := HNP.out; omega)⟩
                    obtain ⟨b', o', Ak', ck', Ab', cb', As', cs', hA', hbb', ⟨-, -, e2, -, -⟩, -⟩ := (KP.out wm HBG.out).get hgg
                    cases hA'
                    have hbs : b < wm.heap.size := by have := HBG.out.size; omega
                    have hcv := HCal.out (vn : Int) (la : Int)
                    rw [hci, Int.toNat_natCast, hgg] at hcv
                    simp only [Option.map_some, Bool.true_and, Option.some.injEq] at hcv
                    have hi0 : (0 : Int) ≤ (vn : Int) := by omega
                    have hi1 : (vn : Int) < (np : Int) := by omega
                    by_cases hpa : gg.params = (la : Int)
                    · have hq : ((la : Int) == gg.params) = true := by simp [hpa]
                      have HF0 := hide (show R = true by rw [HRN.out, hnr, hcv]; simpa using hpa)
                      clear hgg hnr hcv hci2 hpa hci
                      generalize gg.params = gp at *
                      go_wp2_with fail
                      go_quiet ((go_at_call 44; exact Calls.quiet_of_same (HW.out _)))
                      go_wp2
                      go_ret
                      exact ⟨ret_bool HF0.out.symm, below_drewN HBG.out _⟩
                    · have hq : ((la : Int) == gg.params) = false := by simp; omega
                      have HF0 := hide (show R = false by rw [HRN.out, hnr, hcv]; simpa using hpa)
                      clear hgg hnr hcv hci2 hpa hci
                      generalize gg.params = gp at *
                      go_wp2_with fail
                      go_quiet ((go_at_call 44; exact Calls.quiet_of_same (HW.out _)))
                      go_wp2
                      go_ret
                      exact ⟨ret_bool HF0.out.symm, below_drewN HBG.out _⟩
                  · have hci' : inB 0 ((np : Int) - 1) xn = false := Bool.eq_false_iff.2 hci
                    have HW := hide (fun W => (show Calls Try.prog 44 #[.int .i64 xn, .int .i64 0, .int .i64 ((np : Int) - 1)] W fun e w' => e = .returned (.bool false) ∧ w' = W by have h := within4_quiet xn 0 ((np : Int) - 1) W; rw [hci'] at h; exact h))
                    have HF0 := hide (show R = false by rw [HRN.out, hnr, HCal.out, hci']; rfl)
                    clear hnr hci hci'
                    go_wp2_with fail
                    go_quiet ((go_at_call 44; exact Calls.quiet_of_same (HW.out _)))
                    go_wp2
                    go_ret
                    exact ⟨ret_bool HF0.out.symm, below_drewN HBG.out _⟩
                by_cases h1 : xop = 1
                · subst h1
                  have HF0 := hide (show R = inB (-2147483648) 2147483648 xn by rw [HRN.out]; have := HNR.out 1 rfl; simpa using this)
                  clear h19
                  go_wp2_with (go_at_call 44; refine (within4_any _ _ _ _).mono ?_; rintro e w' ⟨rfl, rfl⟩)
                  go_ret
                  exact ⟨ret_bool HF0.out.symm, HBG.out⟩
                by_cases h16 : xop = 16
                · subst h16
                  have HF0 := hide (show R = inB (-8) 8 xn by rw [HRN.out]; have := HNR.out 16 rfl; simpa using this)
                  clear h19 h1
                  go_wp2_with (go_at_call 44; refine (within4_any _ _ _ _).mono ?_; rintro e w' ⟨rfl, rfl⟩)
                  go_ret
                  exact ⟨ret_bool HF0.out.symm, HBG.out⟩
                by_cases h10 : xop = 10
                · subst h10
                  have HF0 := hide (show R = (inB 0 8 xn && inB 0 8 xm) by rw [HRN.out]; have := HNR.out 10 rfl; simpa using this)
                  clear h19 h1 h16
                  by_cases hb1 : inB 0 8 xn = true
                  · have HF1 := hide (show R = inB 0 8 xm by rw [HF0.out, hb1]; rfl)
                    go_wp2_with (go_at_call 44; refine (within4_any _ _ _ _).mono ?_; rintro e w' ⟨rfl, rfl⟩)
                    go_ret
                    exact ⟨ret_bool HF1.out.symm, HBG.out⟩
                  · have hb1' : inB 0 8 xn = false := Bool.eq_false_iff.2 hb1
                    have HF1 := hide (show R = false by rw [HF0.out, hb1']; rfl)
                    clear hb1
                    go_wp2_with (go_at_call 44; refine (within4_any _ _ _ _).mono ?_; rintro e w' ⟨rfl, rfl⟩)
                    go_ret
                    exact ⟨ret_bool HF1.out.symm, HBG.out⟩
                by_cases h15 : xop = 11 ∨ xop = 12 ∨ xop = 13 ∨ xop = 14 ∨ xop = 15
                · have HF0 := hide (show R = inB 0 7 xn by rw [HRN.out]; have := HNR.out xop rfl; rw [if_neg h19, if_neg h1, if_neg h16, if_neg h10, if_pos h15] at this; exact this)
                  clear h19 h1 h16 h10
                  rcases h15 with rfl | rfl | rfl | rfl | rfl
                  all_goals
                    go_wp2_with (go_at_call 44; refine (within4_any _ _ _ _).mono ?_; rintro e w' ⟨rfl, rfl⟩)
                    go_ret
                    exact ⟨ret_bool HF0.out.symm, HBG.out⟩
                have HF0 := hide (show R = true by rw [HRN.out]; have := HNR.out xop rfl; rw [if_neg h19, if_neg h1, if_neg h16, if_neg h10, if_neg h15] at this; exact this)
                have g1 : (xop == 19) = false := by simpa using h19
                have g2 : (xop == 1) = false := by simpa using h1
                have g3 : (xop == 16) = false := by simpa using h16
                have g4 : (xop == 10) = false := by simpa using h10
                have g5 : (xop == 11) = false := by simp; omega
                have g6 : (xop == 12) = false := by simp; omega
                have g7 : (xop == 13) = false := by simp; omega
                have g8 : (xop == 14) = false := by simp; omega
                have g9 : (xop == 15) = false := by simp; omega
                clear h19 h1 h16 h10 h15
                go_wp2
                go_ret
                exact ⟨ret_bool HF0.out.symm, HBG.out⟩
end Go.Proofs.Ytkpikgakphdjjaa
