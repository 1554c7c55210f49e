/- Layer 17, the program: next. Condition: no more than 1000 moves. -/
import Derived.Test.YtkilfejcohnceaaPaIF
set_option linter.unusedSimpArgs false
set_option linter.unusedVariables false
namespace Go.Proofs.Ytkilfejcohnceaa
open Go.RowKit

theorem ask_erase {l : List MvV} {i : Nat} {m : MvV} (h : l[i]? = some m) : updL (askN l) m.f (askN l m.f - 1) = askN (l.eraseIdx i) := by
  have hi := (List.getElem?_eq_some_iff.1 h).1
  have key : ∀ z, askN l z = askN (l.eraseIdx i) z + (if m.f = z then 1 else 0) := fun z => by
    have e : l = l.take i ++ m :: l.drop (i + 1) := by
      have e2 : l.drop i = m :: l.drop (i + 1) := by
        rw [List.drop_eq_getElem_cons hi]
        congr 1
        exact (List.getElem?_eq_some_iff.1 h).2
      rw [← e2, List.take_append_drop]
    have e3 : l.eraseIdx i = l.take i ++ l.drop (i + 1) := List.eraseIdx_eq_take_drop_succ ..
    rw [e3]
    have : askN l z = askN (l.take i ++ m :: l.drop (i + 1)) z := by rw [← e]
    rw [this]
    unfold askN
    rw [List.filter_append, List.filter_append, List.length_append, List.length_append, List.filter_cons]
    by_cases e : m.f = z
    · simp [e]
      omega
    · simp [e]
  funext y
  unfold updL
  by_cases e : y = m.f
  · rw [if_pos e, ← e, key y, if_pos e.symm]
    omega
  · rw [if_neg e, key y, if_neg (fun h => e h.symm)]
    omega
set_option maxHeartbeats 4000000 in
set_option maxRecDepth 100000 in
theorem inext_any (h base gm n : Nat) (vl vd : Value) (left done : List MvV) (sp : LcV) (w : World) (hq : QuS w h base vl vd gm n left done) (hi : InvO sp left) (hsp : lcR sp) (h0 : 0 < left.length) (hll : left.length ≤ 1000) (hld : done.length ≤ 100000) (hn : n ≤ 100000) :
    Calls Try.prog 25 #[.pointer (some ⟨h, 0, none⟩), lcA sp] w fun e w' => e = .returned (.tuple #[]) ∧ (∃ vl' vd', QuS w' h base vl' vd' gm (n + 4) (stepO sp left).2 (done ++ [(stepO sp left).1])) ∧ Below base w w' := by
  have HSV := hide (fun (W : World) (hW : Below w.heap.size w W) (hf : ¬ freeN left < left.length) => isave_any h base gm n vl vd left done (mvAt left 0).t sp W (hq.below hW) (hq.mr _ (mvAt_mem h0)).1 hsp (hi.own _ (mvAt_mem h0)).2 (ring_spare hi hf) h0 hll hld hn)
  have HN1 := hide (fun (W : World) (hW : Below w.heap.size w W) (hp : Nat) (hb : Box W hp #[.pointer (some ⟨h, 0, none⟩)] 61) (m : MvV) (hm : m ∈ left) => inext1_any hp h gm n vl vd (askN left) m (hq.mr m hm).1 W hb (hq.box.below hW) (hq.map.below hW))
  have HST := hide (show (freeN left < left.length → stepO sp left = (mvAt left (freeN left), left.eraseIdx (freeN left))) ∧ (¬ freeN left < left.length → stepO sp left = (⟨sp, (mvAt left 0).t⟩, saveL (mvAt left 0).t sp left)) from ⟨fun hf => by unfold stepO; rw [if_pos hf], fun hf => by unfold stepO; rw [if_neg hf]⟩)
  have HFA := hide (free_ask left)
  have HAP := hide hq.apart
  have HQ := hide hq
  obtain ⟨hbx, hown, hmap, hout, hsep, hmr, hlo⟩ := hq
  obtain ⟨gl, cl, rfl, hgl1, hgl2, hgl3, hgl4, -⟩ := hown.blk h0
  obtain ⟨Ad, cd, rfl, hcd, hcdm⟩ := hout.sl
  obtain ⟨nl, hnl⟩ := letl left.length
  obtain ⟨nd, hnd⟩ := letl done.length
  have HIX := hide (fun (W : World) (hp : Nat) (hW : MvsV W (· < W.heap.size) (.slice (some ⟨gl, 0, none⟩) left.length cl) left) => iidxN_any hp (fun m => decide (askN left m.t = 0)) left (some ⟨gl, 0, none⟩) cl W hll hW)
  rw [hnl] at hown hll h0 hgl3 HAP hsep hbx HIX HST
  rw [hnd] at hout hld hcd HAP hsep hbx
  simp only [hnl, hnd] at HN1 HSV HQ
  have HNL := hide hnl
  have HND := hide hnd
  have HBX := hide hbx
  have HOWN := hide hown
  have HMAP := hide hmap
  have HOUT := hide hout
  have HSEP := hide hsep
  have HMR := hide hmr
  have HLO := hide hlo
  have HSP := hide hsp
  have HLD := hide hld
  have HLN := hide hn
  have HLL := hide hll
  have lh := hbx.lt
  obtain ⟨i0, hi0, iz0, iz1, iz2⟩ := info_parts info_mv
  have HI := hide hi0
  obtain ⟨x, hx⟩ : ∃ x, left[0]? = some x := ⟨_, List.getElem?_eq_getElem (by omega)⟩
  rw [mvAt_of hx] at HSV HST
  have HX0 := hide hx
  obtain ⟨⟨xk, xn⟩, ⟨yk, yn⟩⟩ := x
  obtain ⟨sk, sn⟩ := sp
  unfold lcA at HSV ⊢
  obtain ⟨st, hst⟩ := letl (stepO ⟨sk, sn⟩ left)
  rw [hst] at HST ⊢
  obtain ⟨st1, st2⟩ := st
  clear hbx hown hmap hout hsep hmr hlo hsp hnl hnd hi0 hi hx hst hgl1 hgl2 hgl4 hld hn
  simp only at HSV HST ⊢
  go_enter Try.func25, Try.ntmps25
  go_upto_region 1 with (fail)
  obtain ⟨w1, hw1⟩ := letr ((w.alloc (.cells #[.pointer (some ⟨h, 0, none⟩)] 61)).alloc (.cells #[.int .i64 sk, .int .i64 sn] 24))
  obtain ⟨hp, hhp⟩ := letl w.heap.size
  have HXP := lY2 hw1 hhp
  have HXS := lX2 hw1 hhp
  have HB1 := lB2 hw1
  have HWP := hide hhp
  obtain ⟨hs, hhs⟩ := letl (hp + 1)
  rw [hhs] at HXS
  rw [← hw1, hhp, hhs]
  clear hw1 hhp hhs
  have HL1 := hide (HOWN.out.below HB1.out)
  have x0 := (HXP.out.cell 0 (v := .pointer (some ⟨h, 0, none⟩)) rfl).1
  have x1 := ((HBX.out.below HB1.out).cell 0 (v := .slice (some ⟨gl, 0, none⟩) nl cl) rfl).1
  have lp := HXP.out.lt
  have lq := (HBX.out.below HB1.out).lt
  go_upto_region 2 with (go_at_call 29; (with_reducible refine (HIX.out w1 hp (by have t := mvs_own HL1.out HMR.out; exact t) (fun W hW m hm => HN1.out W (HB1.out.trans (hW.mono HB1.out.size)) hp (HXP.out.below hW) m hm)).mono ?_); rintro e w2 ⟨z, rfl, hb2, hz⟩; have HB2 := hide hb2; have HZ := hide hz; clear hb2 hz)
  clear x0 x1 lp lq
  have HC2 := hide (HB1.out.trans (HB2.out.mono HB1.out.size))
  have HXP2 := hide (HXP.out.below HB2.out)
  have HXS2 := hide (HXS.out.below HB2.out)
  have HQ2 := hide (HBX.out.below HC2.out)
  have HL2 := hide (HOWN.out.below HC2.out)
  have HM2 := hide (HMAP.out.below HC2.out)
  have HO2 := hide (HOUT.out.below HC2.out)
  rw [HFA.out, HNL.out] at HZ
  have HAPP := hide (And.intro (show some gm ≠ some hp from fun e => by
    injection e with e
    have t := HXP2.out
    rw [← e] at t
    exact HM2.out.noBox t) (And.intro (show some gm ≠ some hs from fun e => by
    injection e with e
    have t := HXS2.out
    rw [← e] at t
    exact HM2.out.noBox t) (And.intro (show some gm ≠ some h from fun e => HAP.out.1 (by injection e with e; exact e.symm)) (show some gm ≠ some gl from fun e => by injection e with e; exact HAP.out.2.2.1 (by rw [e]; rfl)))))
  clear HXP HXS HL1 HMAP HOUT HOWN HBX HIX HN1 HQ
  by_cases hf : freeN left < nl
  rotate_left
  · have hz : z = -1 := by have t := HZ.out; rw [if_neg hf] at t; exact t
    subst hz
    have HE := hide (HST.out.2 hf)
    have HSV2 := hide (fun (W : World) (hW : Below w.heap.size w W) => HSV.out W hW hf)
    obtain ⟨⟨d1, -⟩, ⟨d2, -⟩, -, -⟩ := mv_cells HL2.out HNL.out HX0.out
    simp only at d1 d2
    rw [Nat.zero_mul] at d1 d2
    have HD := hide (And.intro d1 d2)
    clear d1 d2 hf HST HZ HSV HO2 HM2
    go_upto_region 3 with (fail)
    have HKS := hide (fun (W : World) (hW : Below w2.heap.size w2 W) => (show W.cell? ⟨hp, 0, none⟩ = some (.pointer (some ⟨h, 0, none⟩)) ∧ W.cell? ⟨h, 0, none⟩ = some (.slice (some ⟨gl, 0, none⟩) nl cl) ∧ W.cell? ⟨gl, 0, none⟩ = some (.int .i64 xk) ∧ W.cell? ⟨gl, 1, none⟩ = some (.int .i64 xn) ∧ W.cell? ⟨hs, 0, none⟩ = some (.int .i64 sk) ∧ W.cell? ⟨hs, 1, none⟩ = some (.int .i64 sn) ∧ hp < W.heap.size ∧ h < W.heap.size ∧ gl < W.heap.size ∧ hs < W.heap.size from ⟨((HXP2.out.below hW).cell 0 (v := .pointer (some ⟨h, 0, none⟩)) rfl).1, ((HQ2.out.below hW).cell 0 (v := .slice (some ⟨gl, 0, none⟩) nl cl) rfl).1, ((hW.cell (p := ⟨gl, 0, none⟩) (HL2.out.lt gl rfl).2).trans HD.out.1), ((hW.cell (p := ⟨gl, 1, none⟩) (HL2.out.lt gl rfl).2).trans (by have t := HD.out.2; simpa using t)), ((HXS2.out.below hW).cell 0 (v := .int .i64 sk) rfl).1, ((HXS2.out.below hW).cell 1 (v := .int .i64 sn) rfl).1, Nat.lt_of_lt_of_le HXP2.out.lt hW.size, Nat.lt_of_lt_of_le HQ2.out.lt hW.size, Nat.lt_of_lt_of_le (HL2.out.lt gl rfl).2 hW.size, Nat.lt_of_lt_of_le HXS2.out.lt hW.size⟩))
    have BE0 := hide (show Below w2.heap.size w2 w2.drew from below_drewN (Below.refl _ _) 1)
    refine wp_region_til (fun w' => w'.cell? ⟨hp, 0, none⟩ = some (.pointer (some ⟨h, 0, none⟩)) ∧ w'.cell? ⟨h, 0, none⟩ = some (.slice (some ⟨gl, 0, none⟩) nl cl) ∧ w'.cell? ⟨gl, 0, none⟩ = some (.int .i64 xk) ∧ w'.cell? ⟨gl, 1, none⟩ = some (.int .i64 xn) ∧ w'.cell? ⟨hs, 0, none⟩ = some (.int .i64 sk) ∧ w'.cell? ⟨hs, 1, none⟩ = some (.int .i64 sn) ∧ hp < w'.heap.size ∧ h < w'.heap.size ∧ gl < w'.heap.size ∧ hs < w'.heap.size) 9 (by kernel_rfl) (HKS.out _ BE0.out) ?_
    obtain ⟨w100, hw100⟩ : ∃ w100, w100 = w2.drew := ⟨_, rfl⟩
    have BE100 := hide (show Below w2.heap.size w2 w100 by rw [hw100]; exact BE0.out)
    rw [← hw100]
    have hSd := HKS.out w100 BE100.out
    clear hw100
    refine tilT 0 hSd ?_
    refine tilD 1 [9, 7, 6, 5, 4, 3, 2] hSd ?_
    refine tilM 2 (Or.inr hSd) ?_
    refine tilM 3 (Or.inr hSd) ?_
    refine tilD 4 [9, 7, 6, 5] hSd ?_
    refine tilM 5 (Or.inr hSd) ?_
    refine tilM 6 (Or.inr hSd) ?_
    refine tilT 7 hSd ?_
    refine tilT 8 hSd ?_
    refine wpTil_ready (rs := [9]) (by kernel_rfl) (by simp) ?_
    refine AllTil.last rfl (by rfl) (fun K hK => ?_)
    rw [if_pos (by rfl)]
    go_simp
    go_at_call 34
    (with_reducible refine (HSV2.out w100 (HC2.out.trans (BE100.out.mono HC2.out.size))).mono ?_)
    rintro e w101 ⟨rfl, hq3, hb3⟩
    have HQ3 := hide hq3
    have HB3 := hide (show Below base w w101 from ((HC2.out.trans (BE100.out.mono HC2.out.size)).mono HLO.out.2.2).trans hb3)
    clear hq3 hb3
    refine hK.out _ _ ?_
    clear hK K hSd
    try simp only [tilS, Act.put]
    refine wpTil_done (by kernel_rfl) ?_ _
    go_wp2_with fail
    refine bodyPost_ret (results_none rfl _ _ _) rfl ?_
    injection HE.out with e1 e2
    subst e1
    subst e2
    obtain ⟨vd', hq'⟩ := HQ3.out
    exact ⟨rfl, ⟨_, vd', hq'⟩, HB3.out⟩
  have hz : z = ((freeN left : Nat) : Int) := by have t := HZ.out; rw [if_pos hf] at t; exact t
  have HE := hide (HST.out.1 hf)
  obtain ⟨i, hi⟩ := letl (freeN left)
  rw [hi] at hz hf HE
  subst hz
  obtain ⟨m, hm⟩ : ∃ x, left[i]? = some x := ⟨_, List.getElem?_eq_getElem (by have := HNL.out; omega)⟩
  rw [mvAt_of hm] at HE
  have HM := hide hm
  have HTS := hide (ask_erase hm)
  have HTB := hide (ask_bnd left m.f)
  have HTP := hide (show 1 ≤ askN left m.f from by
    have := ask_bnd left m.f
    rcases (show askN left m.f = 0 ∨ 1 ≤ askN left m.f by omega) with e | e
    · have t := ask_zero left m.f
      rw [decide_eq_true e, ask_of (List.mem_of_getElem? hm)] at t
      cases t
    · exact e)
  obtain ⟨tv, htv⟩ := letl (askN left m.f)
  rw [htv] at HTB HTS HTP
  have HTV := hide htv
  have htv0 : 1 ≤ tv := HTP.out
  have htv1 : tv ≤ 1000 := by have := HTB.out.2; have := HNL.out; have := HLL.out; omega
  have hwr : IntKind.i64.wrap (tv - 1) = tv - 1 := IntWalk.i64_in _ ⟨by omega, by omega⟩
  have HXF := hide (HMR.out m (List.mem_of_getElem? hm)).2
  have HME := hide (show mvR (left.eraseIdx i) from fun q hq => HMR.out q (List.mem_of_mem_eraseIdx hq))
  have hf0 : (0 : Int) ≤ (i : Int) := by omega
  have hf1 : (i : Int) < (nl : Int) := by omega
  have HFI := hide hf
  obtain ⟨⟨tk, tn⟩, ⟨fk, fn⟩⟩ := m
  simp only at HTS HTV HE
  obtain ⟨⟨d1, -⟩, ⟨d2, -⟩, ⟨d3, -⟩, ⟨d4, -⟩⟩ := mv_cells HL2.out HNL.out hm
  simp only at d1 d2 d3 d4
  have HD := hide (And.intro d1 (And.intro d2 (And.intro d3 d4)))
  have hil : ¬ (i : Int) < 0 := by omega
  have hnl9 : nl ≤ 1000 := HLL.out
  clear d1 d2 d3 d4 hm hi hf htv HST HZ HSV HFA
  go_upto_region 4 with (fail)
  go_cut [] from 23 to 38 (fun wx => FrG (some gm) w2 wx ∧ Hid (MapL wx gm (n + 2) (askN (left.eraseIdx i))))
  case first =>
    have HKS := hide (fun (W : World) (hW : FrG (some gm) w2 W) => (show W.cell? ⟨hp, 0, none⟩ = some (.pointer (some ⟨h, 0, none⟩)) ∧ W.cell? ⟨h, 0, none⟩ = some (.slice (some ⟨gl, 0, none⟩) nl cl) ∧ W.cell? ⟨h, 1, none⟩ = some (.map (some gm)) ∧ W.cell? ⟨gl, i * 4 + 2, none⟩ = some (.int .i64 fk) ∧ W.cell? ⟨gl, i * 4 + 3, none⟩ = some (.int .i64 fn) ∧ hp < W.heap.size ∧ h < W.heap.size ∧ gl < W.heap.size from ⟨((hW.box HXP2.out HAPP.out.1).cell 0 (v := .pointer (some ⟨h, 0, none⟩)) rfl).1, ((hW.box HQ2.out HAPP.out.2.2.1).cell 0 (v := .slice (some ⟨gl, 0, none⟩) nl cl) rfl).1, ((hW.box HQ2.out HAPP.out.2.2.1).cell 1 (v := .map (some gm)) rfl).1, ((World.cell?_of_block (a := ⟨gl, i * 4 + 2, none⟩) (hW.block gl (HL2.out.lt gl rfl).2 HAPP.out.2.2.2)).trans HD.out.2.2.1), ((World.cell?_of_block (a := ⟨gl, i * 4 + 3, none⟩) (hW.block gl (HL2.out.lt gl rfl).2 HAPP.out.2.2.2)).trans HD.out.2.2.2), Nat.lt_of_lt_of_le HXP2.out.lt hW.size, Nat.lt_of_lt_of_le HQ2.out.lt hW.size, Nat.lt_of_lt_of_le (HL2.out.lt gl rfl).2 hW.size⟩))
    have BE0 := hide (show FrG (some gm) w2 w2.drew from FrG.of_below (below_drewN (Below.refl _ _) 1))
    refine wp_region_til (fun w' => w'.cell? ⟨hp, 0, none⟩ = some (.pointer (some ⟨h, 0, none⟩)) ∧ w'.cell? ⟨h, 0, none⟩ = some (.slice (some ⟨gl, 0, none⟩) nl cl) ∧ w'.cell? ⟨h, 1, none⟩ = some (.map (some gm)) ∧ w'.cell? ⟨gl, i * 4 + 2, none⟩ = some (.int .i64 fk) ∧ w'.cell? ⟨gl, i * 4 + 3, none⟩ = some (.int .i64 fn) ∧ hp < w'.heap.size ∧ h < w'.heap.size ∧ gl < w'.heap.size) 16 (by kernel_rfl) (HKS.out _ BE0.out) ?_
    obtain ⟨w100, hw100⟩ : ∃ w100, w100 = w2.drew := ⟨_, rfl⟩
    have BE100 := hide (show FrG (some gm) w2 w100 by rw [hw100]; exact BE0.out)
    have HM100 := hide (show MapL w100 gm n (askN left) by rw [hw100]; exact HM2.out)
    rw [← hw100]
    have hSd := HKS.out w100 BE100.out
    clear hw100
    refine tilM 8 (Or.inr hSd) ?_
    refine tilT 0 hSd ?_
    refine tilM 1 (Or.inr hSd) ?_
    refine tilM 2 (Or.inr hSd) ?_
    refine tilT 3 hSd ?_
    refine tilT 4 hSd ?_
    refine tilM 5 (Or.inr hSd) ?_
    refine tilM 6 (Or.inr hSd) ?_
    refine tilT 7 hSd ?_
    refine tilM 9 (Or.inr hSd) ?_
    refine tilM 10 (Or.inr hSd) ?_
    refine tilT 11 hSd ?_
    refine wpTil_ready (rs := [12, 14]) (by kernel_rfl) (by simp) ?_
    refine AllTil.cons rfl (fun K hK => ?_) ?_
    · skip
      have hlk := HM100.out.look HXF.out
      rw [HTV.out] at hlk
      simp only at hlk
      rw [if_pos (by rfl)]
      go_simp
      clear hlk
      refine hK.out _ _ (HKS.out w100 BE100.out) ?_
      clear hK K
      try clear hSd
      have hSd := HKS.out w100 BE100.out
      try simp only [tilS, Act.put]
      refine tilM 13 (Or.inr hSd) ?_
      refine wpTil_ready (rs := [14]) (by kernel_rfl) (by simp) ?_
      refine AllTil.cons rfl (fun K hK => ?_) ?_
      · skip
        obtain ⟨v1, st', w101, hen, hm, hg, he, -⟩ := HM100.out.entry HXF.out (by have := HLN.out; omega)
        simp only at hen
        have HM101 := hide hm
        have BE101 := hide (BE100.out.trans (FrG.of_grown hg))
        have HE1 := hide he
        clear hm hg he
        rw [if_pos (by rfl)]
        go_simp
        clear hen
        refine hK.out _ _ (HKS.out w101 BE101.out) ?_
        clear hK K
        try clear hSd
        have hSd := HKS.out w101 BE101.out
        try simp only [tilS, Act.put]
        refine tilM 15 (Or.inr hSd) ?_
        refine wpTil_ready (rs := [16]) (by kernel_rfl) (by simp) ?_
        refine AllTil.last rfl (by rfl) (fun K hK => ?_)
        obtain ⟨w102, hst, hm, hg, -⟩ := HM101.out.store HE1.out HXF.out (v := tv - 1) ⟨by omega, by omega⟩ (by have := HLN.out; omega)
        have HM102 := hide hm
        have BE102 := hide (BE101.out.trans (FrG.of_grown hg))
        clear hm hg
        rw [if_pos (by rfl)]
        go_simp
        clear hst
        refine hK.out _ _ ?_
        clear hK K hSd
        try simp only [tilS, Act.put]
        refine wpTil_done (by kernel_rfl) ?_ _
        go_wp2_with fail
        go_meet
        exact ⟨BE102.out, hide ((HM102.out.mono (by omega)).cast HTS.out)⟩
      exact AllTil.nil
    refine AllTil.cons rfl (fun K hK => ?_) ?_
    · skip
      obtain ⟨v1, st', w103, hen, hm, hg, he, -⟩ := HM100.out.entry HXF.out (by have := HLN.out; omega)
      simp only at hen
      have HM103 := hide hm
      have BE103 := hide (BE100.out.trans (FrG.of_grown hg))
      have HE1 := hide he
      clear hm hg he
      rw [if_pos (by rfl)]
      go_simp
      clear hen
      refine hK.out _ _ (HKS.out w103 BE103.out) ?_
      clear hK K
      try clear hSd
      have hSd := HKS.out w103 BE103.out
      try simp only [tilS, Act.put]
      refine tilM 15 (Or.inr hSd) ?_
      refine wpTil_ready (rs := [12]) (by kernel_rfl) (by simp) ?_
      refine AllTil.cons rfl (fun K hK => ?_) ?_
      · skip
        have hlk := HM103.out.look HXF.out
        rw [HTV.out] at hlk
        simp only at hlk
        rw [if_pos (by rfl)]
        go_simp
        clear hlk
        refine hK.out _ _ (HKS.out w103 BE103.out) ?_
        clear hK K
        try clear hSd
        have hSd := HKS.out w103 BE103.out
        try simp only [tilS, Act.put]
        refine tilM 13 (Or.inr hSd) ?_
        refine wpTil_ready (rs := [16]) (by kernel_rfl) (by simp) ?_
        refine AllTil.last rfl (by rfl) (fun K hK => ?_)
        obtain ⟨w104, hst, hm, hg, -⟩ := HM103.out.store HE1.out HXF.out (v := tv - 1) ⟨by omega, by omega⟩ (by have := HLN.out; omega)
        have HM104 := hide hm
        have BE104 := hide (BE103.out.trans (FrG.of_grown hg))
        clear hm hg
        rw [if_pos (by rfl)]
        go_simp
        clear hst
        refine hK.out _ _ ?_
        clear hK K hSd
        try simp only [tilS, Act.put]
        refine wpTil_done (by kernel_rfl) ?_ _
        go_wp2_with fail
        go_meet
        exact ⟨BE104.out, hide ((HM104.out.mono (by omega)).cast HTS.out)⟩
      exact AllTil.nil
    exact AllTil.nil
  case rest =>
    obtain ⟨hfr, HM3⟩ := hcut
    obtain ⟨w3, rfl⟩ : ∃ w3, w3 = wc := ⟨_, rfl⟩
    have HQ3 := hide (hfr.box HQ2.out HAPP.out.2.2.1)
    have HXP3 := hide (hfr.box HXP2.out HAPP.out.1)
    have HL3 := hide (show OwC mvC 38 4 w3 base (.slice (some ⟨gl, 0, none⟩) nl cl) left from HL2.out.kept fun g hg => hfr.block g (HL2.out.lt g hg).2 (fun e => HAP.out.2.2.1 (by rw [hg, e])))
    have HO3 := hide (show OwC mvC 38 4 w3 base (.slice Ad nd cd) done from HO2.out.kept fun g hg => hfr.block g (HO2.out.lt g hg).2 (fun e => HAP.out.2.2.2.2 (by rw [hg, e])))
    have HB3 := hide (show Below base w w3 from (HC2.out.mono HLO.out.2.2).trans (hfr.below (by have := HC2.out.size; have := HLO.out.2.2; omega) (fun g hg => by injection hg with hg; have := HLO.out.2.1; omega)))
    have HDP := hide (show (Value.slice Ad nd cd).ownBlock ≠ some hp from HO3.out.apart HXP3.out.tb (by decide))
    have HDH := hide (show (Value.slice Ad nd cd).ownBlock ≠ some h from HAP.out.2.2.2.1)
    have HDG := hide (show (Value.slice Ad nd cd).ownBlock ≠ some gl from HSEP.out gl rfl)
    have HDM := hide (show (Value.slice Ad nd cd).ownBlock ≠ some gm from HAP.out.2.2.2.2)
    have HD3 := hide (show (w3.cell? ⟨gl, i * 4, none⟩ = some (.int .i64 tk) ∧ w3.cell? ⟨gl, i * 4 + 1, none⟩ = some (.int .i64 tn) ∧ w3.cell? ⟨gl, i * 4 + 2, none⟩ = some (.int .i64 fk) ∧ w3.cell? ⟨gl, i * 4 + 3, none⟩ = some (.int .i64 fn)) from by
      obtain ⟨⟨d1, -⟩, ⟨d2, -⟩, ⟨d3, -⟩, ⟨d4, -⟩⟩ := mv_cells HL3.out HNL.out HM.out
      exact ⟨d1, d2, d3, d4⟩)
    clear hfr HQ2 HXP2 HL2 HO2 HM2 HD HXS2
    go_upto_region 5 with (fail)
    go_cut [] from 39 to 54 (fun wx => ∃ g5 k5, Hid (∀ b, b < w3.heap.size → b ≠ h → (Value.slice Ad nd cd).ownBlock ≠ some b → wx.heap[b]? = w3.heap[b]?) ∧ Hid (Box wx h #[.slice (some ⟨gl, 0, none⟩) nl cl, .map (some gm), .slice (some ⟨g5, 0, none⟩) (nd + 1) k5] 47) ∧ Hid (OwC mvC 38 4 wx base (.slice (some ⟨g5, 0, none⟩) (nd + 1) k5) (done ++ [⟨⟨tk, tn⟩, ⟨fk, fn⟩⟩])) ∧ Hid (Below base w wx) ∧ Hid (w3.heap.size ≤ wx.heap.size) ∧ Hid ((Value.slice Ad nd cd).ownBlock = some g5 ∨ w3.heap.size ≤ g5))
    case first =>
      have HKS := hide (fun (W : World) (hW : FrG (Value.slice Ad nd cd).ownBlock w3 W) => (show W.cell? ⟨hp, 0, none⟩ = some (.pointer (some ⟨h, 0, none⟩)) ∧ W.cell? ⟨h, 0, none⟩ = some (.slice (some ⟨gl, 0, none⟩) nl cl) ∧ W.cell? ⟨h, 2, none⟩ = some (.slice Ad nd cd) ∧ W.cell? ⟨gl, i * 4, none⟩ = some (.int .i64 tk) ∧ W.cell? ⟨gl, i * 4 + 1, none⟩ = some (.int .i64 tn) ∧ W.cell? ⟨gl, i * 4 + 2, none⟩ = some (.int .i64 fk) ∧ W.cell? ⟨gl, i * 4 + 3, none⟩ = some (.int .i64 fn) ∧ hp < W.heap.size ∧ h < W.heap.size ∧ gl < W.heap.size from ⟨((hW.box HXP3.out HDP.out).cell 0 (v := .pointer (some ⟨h, 0, none⟩)) rfl).1, ((hW.box HQ3.out HDH.out).cell 0 (v := .slice (some ⟨gl, 0, none⟩) nl cl) rfl).1, ((hW.box HQ3.out HDH.out).cell 2 (v := .slice Ad nd cd) rfl).1, ((World.cell?_of_block (a := ⟨gl, i * 4, none⟩) (hW.block gl (HL3.out.lt gl rfl).2 HDG.out)).trans HD3.out.1), ((World.cell?_of_block (a := ⟨gl, i * 4 + 1, none⟩) (hW.block gl (HL3.out.lt gl rfl).2 HDG.out)).trans HD3.out.2.1), ((World.cell?_of_block (a := ⟨gl, i * 4 + 2, none⟩) (hW.block gl (HL3.out.lt gl rfl).2 HDG.out)).trans HD3.out.2.2.1), ((World.cell?_of_block (a := ⟨gl, i * 4 + 3, none⟩) (hW.block gl (HL3.out.lt gl rfl).2 HDG.out)).trans HD3.out.2.2.2), Nat.lt_of_lt_of_le HXP3.out.lt hW.size, Nat.lt_of_lt_of_le HQ3.out.lt hW.size, Nat.lt_of_lt_of_le (HL3.out.lt gl rfl).2 hW.size⟩))
      have BE0 := hide (show FrG (Value.slice Ad nd cd).ownBlock w3 w3.drew from FrG.of_below (below_drewN (Below.refl _ _) 1))
      refine wp_region_til (fun w' => w'.cell? ⟨hp, 0, none⟩ = some (.pointer (some ⟨h, 0, none⟩)) ∧ w'.cell? ⟨h, 0, none⟩ = some (.slice (some ⟨gl, 0, none⟩) nl cl) ∧ w'.cell? ⟨h, 2, none⟩ = some (.slice Ad nd cd) ∧ w'.cell? ⟨gl, i * 4, none⟩ = some (.int .i64 tk) ∧ w'.cell? ⟨gl, i * 4 + 1, none⟩ = some (.int .i64 tn) ∧ w'.cell? ⟨gl, i * 4 + 2, none⟩ = some (.int .i64 fk) ∧ w'.cell? ⟨gl, i * 4 + 3, none⟩ = some (.int .i64 fn) ∧ hp < w'.heap.size ∧ h < w'.heap.size ∧ gl < w'.heap.size) 16 (by kernel_rfl) (HKS.out _ BE0.out) ?_
      obtain ⟨w100, hw100⟩ : ∃ w100, w100 = w3.drew := ⟨_, rfl⟩
      have BE100 := hide (show FrG (Value.slice Ad nd cd).ownBlock w3 w100 by rw [hw100]; exact BE0.out)
      have BL100 := hide (show Below w3.heap.size w3 w100 by rw [hw100]; exact below_drewN (Below.refl _ _) 1)
      rw [← hw100]
      have hSd := HKS.out w100 BE100.out
      clear hw100
      refine tilM 9 (Or.inr hSd) ?_
      refine tilT 0 hSd ?_
      refine tilT 1 hSd ?_
      refine tilM 2 (Or.inr hSd) ?_
      refine tilM 3 (Or.inr hSd) ?_
      refine tilT 4 hSd ?_
      refine tilT 5 hSd ?_
      refine tilM 6 (Or.inr hSd) ?_
      refine tilM 7 (Or.inr hSd) ?_
      refine tilT 8 hSd ?_
      refine tilM 10 (Or.inr hSd) ?_
      refine tilT 11 hSd ?_
      refine wpTil_ready (rs := [12]) (by kernel_rfl) (by simp) ?_
      refine AllTil.cons rfl (fun K hK => ?_) ?_
      · skip
        rw [if_pos (by rfl)]
        go_simp
        obtain ⟨Hb, hHb⟩ := letl w100.heap.size
        obtain ⟨w101, hw101⟩ := letr (w100.alloc (.cells #[.int .i64 tk, .int .i64 tn, .int .i64 fk, .int .i64 fn] 38))
        have BXb := lBox hw101 hHb
        have BL101 := hide (BL100.out.trans ((lBel hw101).out.mono BL100.out.size))
        have BE101 := hide (show FrG (Value.slice Ad nd cd).ownBlock w3 w101 from FrG.of_below BL101.out)
        rw [← hw101, hHb]
        clear hw101 hHb
        refine hK.out _ _ (HKS.out w101 BE101.out) ?_
        clear hK K
        try clear hSd
        have hSd := HKS.out w101 BE101.out
        try simp only [tilS, Act.put]
        refine wpTil_ready (rs := [13]) (by kernel_rfl) (by simp) ?_
        refine AllTil.cons rfl (fun K hK => ?_) ?_
        · skip
          refine step_append_cn (c := mvC) (sz := 4) (T := 38) w101 (by rfl) _ _ _ (by rfl) base i0 _ 32 Try.underlying22 HI.out iz0 iz1 iz2 rfl (by omega) (by omega) (.slice Ad nd cd) done nd HND.out (by rfl) (HO3.out.below BL101.out) ⟨⟨tk, tn⟩, ⟨fk, fn⟩⟩ rfl (fun u hu => by simp only [mvC, List.mem_cons, List.mem_nil_iff, or_false] at hu; rcases hu with rfl | rfl | rfl | rfl <;> rfl) Hb _ BXb.out rfl (by rfl) (by have := HLD.out; omega) (by have := BL101.out.size; have := HB3.out.size; have := HLO.out.2.2; omega) ?_
          intro g5 k5 w102 ho5 hg5 hv5 hl5
          have BE102 := hide (show FrG (Value.slice Ad nd cd).ownBlock w3 w102 from BE101.out.trans ⟨hg5.os, hg5.tape, hg5.output, hg5.size, fun k hk ho => hg5.block k hk (fun e => ho e.symm)⟩)
          have HO5 := hide ho5
          have HV5 := hide (show (Value.slice Ad nd cd).ownBlock = some g5 ∨ w3.heap.size ≤ g5 from hv5.imp id (fun e => by rw [e]; exact BL101.out.size))
          clear ho5 hg5 hv5
          refine hK.out _ _ (HKS.out w102 BE102.out) ?_
          clear hK K
          try clear hSd
          have hSd := HKS.out w102 BE102.out
          try simp only [tilS, Act.put]
          refine tilM 14 (Or.inr hSd) ?_
          refine tilM 15 (Or.inr hSd) ?_
          refine wpTil_ready (rs := [16]) (by kernel_rfl) (by simp) ?_
          refine AllTil.last rfl (by rfl) (fun K hK => ?_)
          obtain ⟨z0, f0⟩ := (BE102.out.box HQ3.out HDH.out).cell 2 (v := .slice Ad nd cd) rfl
          rw [if_pos (by rfl)]
          go_simp
          clear z0 f0
          refine hK.out _ _ ?_
          clear hK K hSd
          try simp only [tilS, Act.put]
          refine wpTil_done (by kernel_rfl) ?_ _
          go_wp2_with fail
          go_meet
          obtain ⟨w4, hw4⟩ := letr (w102.setCell ⟨h, 2, none⟩ (.slice (some ⟨g5, 0, none⟩) (nd + 1) k5))
          rw [← hw4]
          exact ⟨g5, k5, hide (fun b hb hn ho => by rw [hw4]; exact (heap_setCell_other _ _ _ _ hn).trans (BE102.out.block b hb ho)),
            hide (by rw [hw4]; have t := (BE102.out.box HQ3.out HDH.out).set 2 (.slice (some ⟨g5, 0, none⟩) (nd + 1) k5); simpa using t),
            hide (by rw [hw4]; exact HO5.out.kept fun g hg => heap_setCell_other _ _ _ _ (fun e => HO5.out.apart (BE102.out.box HQ3.out HDH.out).tb (by decide) (by rw [hg, e]))),
            hide (by rw [hw4]; exact ((HB3.out.trans (BE102.out.below (by have := HB3.out.size; have := HLO.out.2.2; omega) (fun g hg => (HO3.out.lt g hg).1))).setCell (p := ⟨h, 2, none⟩) HLO.out.1 _)),
            hide (by rw [hw4, World.size_setCell]; exact BE102.out.size), HV5⟩
        exact AllTil.nil
      exact AllTil.nil
    case rest =>
      obtain ⟨g5, k5, HF4, HQ4, HO4, HB4, HS4, HV5⟩ := hcut
      obtain ⟨w4, rfl⟩ : ∃ w4, w4 = wc := ⟨_, rfl⟩
      have HXP4 := hide (show Box w4 hp #[.pointer (some ⟨h, 0, none⟩)] 61 from (HF4.out hp HXP3.out.lt (fun e => by
        have t := HQ3.out
        rw [← e] at t
        have := t.tb.one HXP3.out.tb
        exact absurd this (by decide)) HDP.out).trans HXP3.out)
      have HM4 := hide (show MapL w4 gm (n + 2) (askN (left.eraseIdx i)) from HM3.out.kept (HF4.out gm HM3.out.lt (fun e => HAP.out.1 e.symm) HDM.out))
      have HL4 := hide (show OwC mvC 38 4 w4 base (.slice (some ⟨gl, 0, none⟩) nl cl) left from HL3.out.kept fun g hg => HF4.out g (HL3.out.lt g hg).2 (fun e => HAP.out.2.1 (by rw [hg, e])) (HSEP.out g hg))
      have HS53 := hide (show some g5 ≠ some gl from fun e => by
        injection e with e
        rcases HV5.out with h | h
        · exact HDG.out (by rw [h, e])
        · have := (HL3.out.lt gl rfl).2
          omega)
      have HGP := hide (And.intro (show some gl ≠ some hp from fun e => by injection e with e; exact HL4.out.apart HXP4.out.tb (by decide) (by rw [← e]; rfl)) (And.intro (show some gl ≠ some h from fun e => by injection e with e; exact HAP.out.2.1 (by rw [← e]; rfl)) (show some gl ≠ some gm from fun e => HAPP.out.2.2.2 e.symm)))
      have HCLM := hide (show cl ≤ maxLen from by
        obtain ⟨g', c', hv, -, -, -, hc, -⟩ := HL4.out.blk (by have := HNL.out; have := HFI.out; omega)
        injection hv with _ _ hv
        rw [hv]
        exact hc)
      have HDEL := hide (fun (W : World) (h : OwC mvC 38 4 W base (.slice (some ⟨gl, 0, none⟩) nl cl) left) => idel_any base gl nl cl i left W HNL.out HFI.out HLL.out hgl3 HCLM.out h)
      clear HF4 HQ3 HXP3 HL3 HO3 HM3 HD3
      have hi9 : IntKind.i64.wrap ((i : Int) + 1) = (i : Int) + 1 := IntWalk.i64_in _ ⟨by omega, by omega⟩
      go_upto_region 6 with (fail)
      have HKS := hide (fun (W : World) (hW : FrG (some gl) w4 W) => (show W.cell? ⟨hp, 0, none⟩ = some (.pointer (some ⟨h, 0, none⟩)) ∧ W.cell? ⟨h, 0, none⟩ = some (.slice (some ⟨gl, 0, none⟩) nl cl) ∧ hp < W.heap.size ∧ h < W.heap.size from ⟨((hW.box HXP4.out HGP.out.1).cell 0 (v := .pointer (some ⟨h, 0, none⟩)) rfl).1, ((hW.box HQ4.out HGP.out.2.1).cell 0 (v := .slice (some ⟨gl, 0, none⟩) nl cl) rfl).1, Nat.lt_of_lt_of_le HXP4.out.lt hW.size, Nat.lt_of_lt_of_le HQ4.out.lt hW.size⟩))
      have BE0 := hide (show FrG (some gl) w4 w4.drew from FrG.of_below (below_drewN (Below.refl _ _) 1))
      refine wp_region_til (fun w' => w'.cell? ⟨hp, 0, none⟩ = some (.pointer (some ⟨h, 0, none⟩)) ∧ w'.cell? ⟨h, 0, none⟩ = some (.slice (some ⟨gl, 0, none⟩) nl cl) ∧ hp < w'.heap.size ∧ h < w'.heap.size) 11 (by kernel_rfl) (HKS.out _ BE0.out) ?_
      obtain ⟨w100, hw100⟩ : ∃ w100, w100 = w4.drew := ⟨_, rfl⟩
      have BE100 := hide (show FrG (some gl) w4 w100 by rw [hw100]; exact BE0.out)
      have BL100 := hide (show Below w4.heap.size w4 w100 by rw [hw100]; exact below_drewN (Below.refl _ _) 1)
      rw [← hw100]
      have hSd := HKS.out w100 BE100.out
      clear hw100
      refine tilM 5 (Or.inr hSd) ?_
      refine tilM 6 (Or.inr hSd) ?_
      refine tilM 7 (Or.inr hSd) ?_
      refine tilT 0 hSd ?_
      refine tilT 1 hSd ?_
      refine tilM 2 (Or.inr hSd) ?_
      refine tilM 3 (Or.inr hSd) ?_
      refine tilT 4 hSd ?_
      refine wpTil_ready (rs := [8]) (by kernel_rfl) (by simp) ?_
      refine AllTil.cons rfl (fun K hK => ?_) ?_
      · skip
        rw [if_pos (by rfl)]
        go_simp
        go_at_call 35
        (with_reducible refine (HDEL.out w100 (HL4.out.below BL100.out)).mono ?_)
        rintro e w101 ⟨rfl, ho9, hf9⟩
        have HO9 := hide ho9
        have BE101 := hide (show FrG (some gl) w4 w101 from BE100.out.trans hf9)
        clear ho9 hf9
        refine hK.out _ _ (HKS.out w101 BE101.out) ?_
        clear hK K
        try clear hSd
        have hSd := HKS.out w101 BE101.out
        try simp only [tilS, Act.put]
        refine tilM 9 (Or.inr hSd) ?_
        refine tilM 10 (Or.inr hSd) ?_
        refine wpTil_ready (rs := [11]) (by kernel_rfl) (by simp) ?_
        refine AllTil.last rfl (by rfl) (fun K hK => ?_)
        obtain ⟨z0, f0⟩ := (BE101.out.box HQ4.out HGP.out.2.1).cell 0 (v := .slice (some ⟨gl, 0, none⟩) nl cl) rfl
        rw [if_pos (by rfl)]
        go_simp
        clear z0 f0
        refine hK.out _ _ ?_
        clear hK K hSd
        try simp only [tilS, Act.put]
        refine wpTil_done (by kernel_rfl) ?_ _
        go_wp2_with fail
        go_end0
        obtain ⟨w9, hw9⟩ := letr (w101.setCell ⟨h, 0, none⟩ (.slice (some ⟨gl, 0, none⟩) (nl - 1) cl))
        rw [← hw9]
        injection HE.out with e1 e2
        subst e1
        subst e2
        have hk : ∀ b, b ≠ h → w9.heap[b]? = w101.heap[b]? := fun b hb => by rw [hw9]; exact heap_setCell_other _ _ _ _ hb
        have hbe : Below base w w9 := by rw [hw9]; exact (HB4.out.trans (BE101.out.below (by have := HB4.out.size; have := HLO.out.2.2; omega) (fun g hg => by injection hg with hg; have := (HL4.out.lt gl rfl).1; omega))).setCell (p := ⟨h, 0, none⟩) HLO.out.1 _
        exact ⟨rfl, ⟨_, _, by rw [hw9]; have t := (BE101.out.box HQ4.out HGP.out.2.1).set 0 (.slice (some ⟨gl, 0, none⟩) (nl - 1) cl); simpa using t,
          HO9.out.kept fun g hg => hk g (fun e => HAP.out.2.1 (by rw [← e]; exact hg)),
          ((HM4.out.kept (BE101.out.block gm HM4.out.lt HGP.out.2.2)).kept (hk gm (fun e => HAP.out.1 e.symm))).mono (by omega),
          HO4.out.kept fun g hg => (hk g (fun e => HO4.out.apart HQ4.out.tb (by decide) (by rw [hg, e]))).trans (BE101.out.block g (HO4.out.lt g hg).2 (fun e => HS53.out (by rw [e]; exact hg))),
          fun g hg e => HS53.out (by rw [show some g5 = some g from e, ← show some gl = some g from hg]),
          HME.out, HLO.out.1, HLO.out.2.1, by have := hbe.size; have := HLO.out.2.2; omega⟩, hbe⟩
      exact AllTil.nil
end Go.Proofs.Ytkilfejcohnceaa
