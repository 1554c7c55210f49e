/- Layer 17, the program: save. Condition: no more than 1000 moves. -/
import Derived.Test.YtkilfejcohnceaaPaIE
set_option linter.unusedSimpArgs false
set_option linter.unusedVariables false
namespace Go.Proofs.Ytkilfejcohnceaa
open Go.RowKit

theorem ask_save {l : List MvV} {x sp : LcV} (hne : x ≠ sp) (hno : askB l sp = false) : updL (updL (askN l) sp (askN l x)) x 0 = askN (saveL x sp l) := by
  have hno' : ∀ m ∈ l, m.f ≠ sp := fun m hm e => by rw [← e, ask_of hm] at hno; cases hno
  clear hno
  funext y
  unfold updL
  induction l with
  | nil => simp [askN, saveL]
  | cons m l ih =>
    have ih := ih (fun m hm => hno' m (List.mem_cons_of_mem _ hm))
    have hm := hno' m List.mem_cons_self
    have e1 : ∀ z, askN (m :: l) z = askN l z + (if m.f = z then 1 else 0) := fun z => by
      unfold askN
      rw [List.filter_cons]
      by_cases e : m.f = z
      · simp [e]
      · simp [e]
    have e2 : askN (saveL x sp (m :: l)) y = askN (saveL x sp l) y + (if (if m.f = x then sp else m.f) = y then 1 else 0) := by
      unfold askN saveL
      rw [List.map_cons, List.filter_cons]
      by_cases e : m.f = x
      · rw [if_pos e, if_pos e]
        by_cases e3 : sp = y
        · simp [e3]
        · simp [e3]
      · rw [if_neg e, if_neg e]
        by_cases e3 : m.f = y
        · simp [e3]
        · simp [e3]
    rw [e2, ← ih, e1, e1]
    by_cases hy : y = x
    · subst hy
      rw [if_pos rfl, if_pos rfl]
      by_cases e : m.f = y
      · rw [if_pos e, if_neg (fun h => hne h.symm)]
        rfl
      · rw [if_neg e, if_neg e]
        rfl
    · rw [if_neg hy, if_neg hy]
      by_cases hs : y = sp
      · subst hs
        rw [if_pos rfl, if_pos rfl]
        by_cases e : m.f = x
        · rw [if_pos e, if_pos e, if_pos rfl]
        · rw [if_neg e, if_neg e, if_neg hm]
      · rw [if_neg hs, if_neg hs]
        by_cases e : m.f = x
        · rw [if_pos e, if_neg (show ¬ m.f = y from fun h => hy (by rw [← h, e])), if_neg (show ¬ sp = y from fun h => hs h.symm)]
        · rw [if_neg e]
def mixL (x sp : LcV) (l : List MvV) (k : Nat) : List MvV := saveL x sp (l.take k) ++ l.drop k
theorem mix_zero (x sp : LcV) (l : List MvV) : mixL x sp l 0 = l := by simp [mixL, saveL]
theorem mix_end {x sp : LcV} {l : List MvV} {k : Nat} (h : l.length ≤ k) : mixL x sp l k = saveL x sp l := by
  unfold mixL
  rw [List.take_of_length_le h, List.drop_of_length_le h, List.append_nil]
theorem mix_len (x sp : LcV) (l : List MvV) (k : Nat) : (mixL x sp l k).length = l.length := by
  unfold mixL
  rw [List.length_append, save_len, List.length_take, List.length_drop]
  omega
theorem mix_at {x sp : LcV} {l : List MvV} {k : Nat} {m : MvV} (h : l[k]? = some m) : (mixL x sp l k)[k]? = some m := by
  have hk := (List.getElem?_eq_some_iff.1 h).1
  unfold mixL
  have hl : (saveL x sp (l.take k)).length = k := by rw [save_len, List.length_take]; omega
  rw [List.getElem?_append_right (by omega), hl, Nat.sub_self, List.getElem?_drop, Nat.add_zero]
  exact h
theorem mix_step {x sp : LcV} {l : List MvV} {k : Nat} {m : MvV} (h : l[k]? = some m) : mixL x sp l (k + 1) = (mixL x sp l k).set k (if m.f = x then ⟨m.t, sp⟩ else m) := by
  have hk := (List.getElem?_eq_some_iff.1 h).1
  unfold mixL
  have hl : (saveL x sp (l.take k)).length = k := by rw [save_len, List.length_take]; omega
  have e1 : saveL x sp (l.take (k + 1)) = saveL x sp (l.take k) ++ [if m.f = x then ⟨m.t, sp⟩ else m] := by
    unfold saveL
    rw [List.take_add_one, h, List.map_append]
    rfl
  have e2 : l.drop k = m :: l.drop (k + 1) := by
    rw [List.drop_eq_getElem_cons hk]
    congr 1
    exact (List.getElem?_eq_some_iff.1 h).2
  rw [e1, e2, List.set_append, if_neg (show ¬ k < (saveL x sp (l.take k)).length by omega), hl, Nat.sub_self, List.set_cons_zero, List.append_assoc]
  rfl
theorem mix_keep {x sp : LcV} {l : List MvV} {k : Nat} {m : MvV} (h : l[k]? = some m) (hf : m.f ≠ x) : mixL x sp l (k + 1) = mixL x sp l k := by
  rw [mix_step h, if_neg hf]
  exact List.ext_getElem? fun j => by
    rw [List.getElem?_set]
    split
    · rename_i e
      subst e
      have hk := (List.getElem?_eq_some_iff.1 (mix_at (x := x) (sp := sp) h)).1
      rw [if_pos hk, mix_at h]
    · rfl
theorem mvR_save {x sp : LcV} {l : List MvV} (h : mvR l) (hs : lcR sp) : mvR (saveL x sp l) := fun m hm => by
  obtain ⟨q, hq, rfl⟩ := List.mem_map.1 hm
  split
  · exact ⟨(h q hq).1, hs⟩
  · exact h q hq
set_option maxHeartbeats 4000000 in
set_option maxRecDepth 100000 in
theorem isave_any (h base gm n : Nat) (vl vd : Value) (left done : List MvV) (x sp : LcV) (w : World) (hq : QuS w h base vl vd gm n left done) (hx : lcR x) (hsp : lcR sp) (hne : x ≠ sp) (hno : askB left sp = false) (h0 : 0 < left.length) (hll : left.length ≤ 1000) (hld : done.length ≤ 100000) (hn : n ≤ 100000) :
    Calls Try.prog 34 #[.pointer (some ⟨h, 0, none⟩), lcA x, lcA sp] w fun e w' => e = .returned (.tuple #[]) ∧ (∃ vd', QuS w' h base vl vd' gm (n + 4) (saveL x sp left) (done ++ [⟨sp, x⟩])) ∧ Below base w w' := by
  obtain ⟨hbx, hown, hmap, hout, hsep, hmr, hlo⟩ := hq
  have HAP := hide (QuS.apart ⟨hbx, hown, hmap, hout, hsep, hmr, hlo⟩)
  obtain ⟨gl, cl, rfl, hgl1, hgl2, hgl3, hgl4, -⟩ := hown.blk h0
  obtain ⟨Ad, cd, rfl, hcd, hcdm⟩ := hout.sl
  obtain ⟨nl, hnl⟩ := letl left.length
  obtain ⟨nd, hnd⟩ := letl done.length
  rw [hnl] at hown hll h0 hgl3 HAP hsep ⊢
  rw [hnd] at hout hld hcd HAP hsep hbx
  rw [hnl] at hbx
  have HNL := hide hnl
  have HND := hide hnd
  have HBX := hide hbx
  have HOWN := hide hown
  have HMAP := hide hmap
  have HOUT := hide hout
  have HSEP := hide hsep
  have HMR := hide hmr
  have HLO := hide hlo
  have HTS := hide (ask_save hne hno)
  have HX := hide hx
  have HSP := hide hsp
  have HTB := hide (ask_bnd left x)
  obtain ⟨tv, htv⟩ := letl (askN left x)
  rw [htv] at HTB HTS
  have htv0 : 0 ≤ tv := HTB.out.1
  have htv1 : tv ≤ 1000 := by have := HTB.out.2; omega
  have HTV := hide htv
  have HMV := hide (mvR_save (x := x) hmr hsp)
  have lh := hbx.lt
  obtain ⟨i0, hi0, iz0, iz1, iz2⟩ := info_parts info_mv
  have HI := hide hi0
  obtain ⟨xk, xn⟩ := x
  obtain ⟨sk, sn⟩ := sp
  unfold lcA
  clear hbx hown hmap hout hsep hmr hlo hx hsp hno hnl hnd htv hi0 hgl1 hgl2 hgl4
  go_enter Try.func34, Try.ntmps34
  go_upto_region 1 with (fail)
  obtain ⟨w1, hw1⟩ := letr ((w.alloc (.cells #[.int .i64 xk, .int .i64 xn] 24)).alloc (.cells #[.int .i64 sk, .int .i64 sn] 24))
  obtain ⟨h4, hh4⟩ := letl w.heap.size
  have HX4 := lY2 hw1 hh4
  have HX5 := lX2 hw1 hh4
  have HB1 := lB2 hw1
  have HW4 := hide hh4
  obtain ⟨h5, hh5⟩ := letl (h4 + 1)
  rw [hh5] at HX5
  rw [← hw1, hh4, hh5]
  have HGE := hide (And.intro (show h < h4 by omega) (show h4 < h5 by omega))
  clear hw1 hh4 hh5
  have HB4 := hide (show base ≤ h4 from by have := HLO.out.2.2; have := HW4.out; omega)
  have HQ1 := hide (HBX.out.below HB1.out)
  have HO1 := hide (HOUT.out.below HB1.out)
  have hnd1 : ∀ b, TB w1 24 b → (Value.slice Ad nd cd).ownBlock ≠ some b := fun b hb => HO1.out.apart hb (by decide)
  have HD4 := hide (hnd1 h4 HX4.out.tb)
  have HD5 := hide (hnd1 h5 HX5.out.tb)
  have HDH := hide (show (Value.slice Ad nd cd).ownBlock ≠ some h from HAP.out.2.2.2.1)
  have HLD := hide hld
  have HLN := hide hn
  have HLL := hide hll
  have HTR := hide (show i64R tv from ⟨by omega, by omega⟩)
  clear hnd1 hll hld hn h0 htv0 htv1
  go_cut [] from 8 to 19 (fun wx => ∃ g5 k5, Hid (∀ b, b < w1.heap.size → b ≠ h → (Value.slice Ad nd cd).ownBlock ≠ some b → wx.heap[b]? = w1.heap[b]?) ∧ Hid (Box wx h #[.slice (some ⟨gl, 0, none⟩) nl cl, .map (some gm), .slice (some ⟨g5, 0, none⟩) (nd + 1) k5] 47) ∧ Hid (OwC mvC 38 4 wx base (.slice (some ⟨g5, 0, none⟩) (nd + 1) k5) (done ++ [⟨⟨sk, sn⟩, ⟨xk, xn⟩⟩])) ∧ Hid (Below base w wx) ∧ Hid (w1.heap.size ≤ wx.heap.size) ∧ Hid ((Value.slice Ad nd cd).ownBlock = some g5 ∨ w1.heap.size ≤ g5))
  case first =>
    have HKS := hide (fun (W : World) (hW : FrG (Value.slice Ad nd cd).ownBlock w1 W) => (show W.cell? ⟨h, 2, none⟩ = some (.slice Ad nd cd) ∧ W.cell? ⟨h5, 0, none⟩ = some (.int .i64 sk) ∧ W.cell? ⟨h5, 1, none⟩ = some (.int .i64 sn) ∧ W.cell? ⟨h4, 0, none⟩ = some (.int .i64 xk) ∧ W.cell? ⟨h4, 1, none⟩ = some (.int .i64 xn) ∧ h < W.heap.size ∧ h4 < W.heap.size ∧ h5 < W.heap.size from ⟨((hW.box HQ1.out HDH.out).cell 2 (v := .slice Ad nd cd) rfl).1, ((hW.box HX5.out HD5.out).cell 0 (v := .int .i64 sk) rfl).1, ((hW.box HX5.out HD5.out).cell 1 (v := .int .i64 sn) rfl).1, ((hW.box HX4.out HD4.out).cell 0 (v := .int .i64 xk) rfl).1, ((hW.box HX4.out HD4.out).cell 1 (v := .int .i64 xn) rfl).1, Nat.lt_of_lt_of_le HQ1.out.lt hW.size, Nat.lt_of_lt_of_le HX4.out.lt hW.size, Nat.lt_of_lt_of_le HX5.out.lt hW.size⟩))
    have BE0 := hide (show FrG (Value.slice Ad nd cd).ownBlock w1 w1.drew from FrG.of_below (below_drewN (Below.refl _ _) 1))
    refine wp_region_til (fun w' => w'.cell? ⟨h, 2, none⟩ = some (.slice Ad nd cd) ∧ w'.cell? ⟨h5, 0, none⟩ = some (.int .i64 sk) ∧ w'.cell? ⟨h5, 1, none⟩ = some (.int .i64 sn) ∧ w'.cell? ⟨h4, 0, none⟩ = some (.int .i64 xk) ∧ w'.cell? ⟨h4, 1, none⟩ = some (.int .i64 xn) ∧ h < w'.heap.size ∧ h4 < w'.heap.size ∧ h5 < w'.heap.size) 12 (by kernel_rfl) (HKS.out _ BE0.out) ?_
    obtain ⟨w100, hw100⟩ : ∃ w100, w100 = w1.drew := ⟨_, rfl⟩
    have BE100 := hide (show FrG (Value.slice Ad nd cd).ownBlock w1 w100 by rw [hw100]; exact BE0.out)
    have BL100 := hide (show Below w1.heap.size w1 w100 by rw [hw100]; exact below_drewN (Below.refl _ _) 1)
    rw [← hw100]
    have hSd := HKS.out w100 BE100.out
    clear hw100
    refine tilM 0 (Or.inr hSd) ?_
    refine tilM 1 (Or.inr hSd) ?_
    refine tilM 2 (Or.inr hSd) ?_
    refine tilM 3 (Or.inr hSd) ?_
    refine tilT 4 hSd ?_
    refine tilT 5 hSd ?_
    refine tilT 6 hSd ?_
    refine tilM 7 (Or.inr hSd) ?_
    refine wpTil_ready (rs := [8]) (by kernel_rfl) (by simp) ?_
    refine AllTil.cons rfl (fun K hK => ?_) ?_
    · skip
      rw [if_pos (by rfl)]
      go_simp
      obtain ⟨Hb, hHb⟩ := letl w100.heap.size
      obtain ⟨w101, hw101⟩ := letr (w100.alloc (.cells #[.int .i64 sk, .int .i64 sn, .int .i64 xk, .int .i64 xn] 38))
      have BXb := lBox hw101 hHb
      have BL101 := hide (BL100.out.trans ((lBel hw101).out.mono BL100.out.size))
      have BE101 := hide (show FrG (Value.slice Ad nd cd).ownBlock w1 w101 from FrG.of_below BL101.out)
      rw [← hw101, hHb]
      clear hw101 hHb
      refine hK.out _ _ (HKS.out w101 BE101.out) ?_
      clear hK K
      try clear hSd
      have hSd := HKS.out w101 BE101.out
      try simp only [tilS, Act.put]
      refine wpTil_ready (rs := [9]) (by kernel_rfl) (by simp) ?_
      refine AllTil.cons rfl (fun K hK => ?_) ?_
      · skip
        refine step_append_cn (c := mvC) (sz := 4) (T := 38) w101 (by rfl) _ _ _ (by rfl) base i0 _ 32 Try.underlying22 HI.out iz0 iz1 iz2 rfl (by omega) (by omega) (.slice Ad nd cd) done nd HND.out (by rfl) (HO1.out.below BL101.out) ⟨⟨sk, sn⟩, ⟨xk, xn⟩⟩ rfl (fun u hu => by simp only [mvC, List.mem_cons, List.mem_nil_iff, or_false] at hu; rcases hu with rfl | rfl | rfl | rfl <;> rfl) Hb _ BXb.out rfl (by rfl) (by have := HLD.out; omega) (by have := BL101.out.size; have := HB1.out.size; have := HLO.out.2.2; omega) ?_
        intro g5 k5 w102 ho5 hg5 hv5 hl5
        have BE102 := hide (show FrG (Value.slice Ad nd cd).ownBlock w1 w102 from BE101.out.trans ⟨hg5.os, hg5.tape, hg5.output, hg5.size, fun k hk ho => hg5.block k hk (fun e => ho e.symm)⟩)
        have HO5 := hide ho5
        have HV5 := hide (show (Value.slice Ad nd cd).ownBlock = some g5 ∨ w1.heap.size ≤ g5 from hv5.imp id (fun e => by rw [e]; exact BL101.out.size))
        clear ho5 hg5 hv5
        refine hK.out _ _ (HKS.out w102 BE102.out) ?_
        clear hK K
        try clear hSd
        have hSd := HKS.out w102 BE102.out
        try simp only [tilS, Act.put]
        refine tilM 10 (Or.inr hSd) ?_
        refine tilM 11 (Or.inr hSd) ?_
        refine wpTil_ready (rs := [12]) (by kernel_rfl) (by simp) ?_
        refine AllTil.last rfl (by rfl) (fun K hK => ?_)
        obtain ⟨z0, f0⟩ := (BE102.out.box HQ1.out HDH.out).cell 2 (v := .slice Ad nd cd) rfl
        rw [if_pos (by rfl)]
        go_simp
        clear z0 f0
        refine hK.out _ _ ?_
        clear hK K hSd
        try simp only [tilS, Act.put]
        refine wpTil_done (by kernel_rfl) ?_ _
        go_wp2_with fail
        go_meet
        obtain ⟨w3, hw3⟩ := letr (w102.setCell ⟨h, 2, none⟩ (.slice (some ⟨g5, 0, none⟩) (nd + 1) k5))
        rw [← hw3]
        exact ⟨g5, k5, hide (fun b hb hn ho => by rw [hw3]; exact (heap_setCell_other _ _ _ _ hn).trans (BE102.out.block b hb ho)),
          hide (by rw [hw3]; have t := (BE102.out.box HQ1.out HDH.out).set 2 (.slice (some ⟨g5, 0, none⟩) (nd + 1) k5); simpa using t),
          hide (by rw [hw3]; exact HO5.out.kept fun g hg => heap_setCell_other _ _ _ _ (fun e => HO5.out.apart (BE102.out.box HQ1.out HDH.out).tb (by decide) (by rw [hg, e]))),
          hide (by rw [hw3]; exact (((HB1.out.mono HLO.out.2.2).trans (BE102.out.below (by have := HB1.out.size; have := HLO.out.2.2; omega) (fun g hg => (HO1.out.lt g hg).1))).setCell (p := ⟨h, 2, none⟩) HLO.out.1 _)),
          hide (by rw [hw3, World.size_setCell]; exact BE102.out.size), HV5⟩
      exact AllTil.nil
    exact AllTil.nil
  case rest =>
    obtain ⟨g5, k5, HF3, HQ3, HO3, HB3, HS3, HV5⟩ := hcut
    obtain ⟨w3, rfl⟩ : ∃ w3, w3 = wc := ⟨_, rfl⟩
    have HX43 := hide (show Box w3 h4 #[.int .i64 xk, .int .i64 xn] 24 from (HF3.out h4 HX4.out.lt (fun e => by have := HGE.out.1; omega) HD4.out).trans HX4.out)
    have HX53 := hide (show Box w3 h5 #[.int .i64 sk, .int .i64 sn] 24 from (HF3.out h5 HX5.out.lt (fun e => by have := HGE.out; omega) HD5.out).trans HX5.out)
    have HM3 := hide (show MapL w3 gm n (askN left) from (HMAP.out.below HB1.out).kept (HF3.out gm (HMAP.out.below HB1.out).lt (fun e => HAP.out.1 e.symm) HAP.out.2.2.2.2))
    have HL3 := hide (show OwC mvC 38 4 w3 base (.slice (some ⟨gl, 0, none⟩) nl cl) left from (HOWN.out.below HB1.out).kept fun g hg => HF3.out g ((HOWN.out.below HB1.out).lt g hg).2 (fun e => HAP.out.2.1 (by rw [hg, e])) (fun e => HSEP.out g hg e))
    have HS53 := hide (show ∀ g, (Value.slice (some ⟨gl, 0, none⟩) nl cl).ownBlock = some g → (Value.slice (some ⟨g5, 0, none⟩) (nd + 1) k5).ownBlock ≠ some g from fun g hg e => by
      have e1 : g5 = g := by simpa [Value.ownBlock] using e
      rcases HV5.out with h | h
      · exact HSEP.out g hg (by rw [h, e1])
      · have := (HOWN.out.lt g hg).2
        have := HB1.out.size
        omega)
    have HN4 := hide (show some gm ≠ some h4 from fun e => by
      injection e with e
      have t := HX43.out
      rw [← e] at t
      exact HM3.out.noBox t)
    have HN5 := hide (show some gm ≠ some h5 from fun e => by
      injection e with e
      have t := HX53.out
      rw [← e] at t
      exact HM3.out.noBox t)
    have HNH := hide (show some gm ≠ some h from fun e => HAP.out.1 (by injection e with e; exact e.symm))
    clear HF3 HX4 HX5 HO1 HV5 HQ1 HMAP HOUT HOWN HBX
    go_upto_region 2 with (fail)
    go_cut [] from 20 to 39 (fun wx => FrG (some gm) w3 wx ∧ Hid (MapL wx gm (n + 4) (askN (saveL ⟨xk, xn⟩ ⟨sk, sn⟩ left))))
    case first =>
      have HKS := hide (fun (W : World) (hW : FrG (some gm) w3 W) => (show W.cell? ⟨h, 1, none⟩ = some (.map (some gm)) ∧ W.cell? ⟨h5, 0, none⟩ = some (.int .i64 sk) ∧ W.cell? ⟨h5, 1, none⟩ = some (.int .i64 sn) ∧ W.cell? ⟨h4, 0, none⟩ = some (.int .i64 xk) ∧ W.cell? ⟨h4, 1, none⟩ = some (.int .i64 xn) ∧ h < W.heap.size ∧ h4 < W.heap.size ∧ h5 < W.heap.size from ⟨((hW.box HQ3.out HNH.out).cell 1 (v := .map (some gm)) rfl).1, ((hW.box HX53.out HN5.out).cell 0 (v := .int .i64 sk) rfl).1, ((hW.box HX53.out HN5.out).cell 1 (v := .int .i64 sn) rfl).1, ((hW.box HX43.out HN4.out).cell 0 (v := .int .i64 xk) rfl).1, ((hW.box HX43.out HN4.out).cell 1 (v := .int .i64 xn) rfl).1, Nat.lt_of_lt_of_le HQ3.out.lt hW.size, Nat.lt_of_lt_of_le HX43.out.lt hW.size, Nat.lt_of_lt_of_le HX53.out.lt hW.size⟩))
      have BE0 := hide (show FrG (some gm) w3 w3.drew from FrG.of_below (below_drewN (Below.refl _ _) 1))
      refine wp_region_til (fun w' => w'.cell? ⟨h, 1, none⟩ = some (.map (some gm)) ∧ w'.cell? ⟨h5, 0, none⟩ = some (.int .i64 sk) ∧ w'.cell? ⟨h5, 1, none⟩ = some (.int .i64 sn) ∧ w'.cell? ⟨h4, 0, none⟩ = some (.int .i64 xk) ∧ w'.cell? ⟨h4, 1, none⟩ = some (.int .i64 xn) ∧ h < w'.heap.size ∧ h4 < w'.heap.size ∧ h5 < w'.heap.size) 21 (by kernel_rfl) (HKS.out _ BE0.out) ?_
      obtain ⟨w100, hw100⟩ : ∃ w100, w100 = w3.drew := ⟨_, rfl⟩
      have BE100 := hide (show FrG (some gm) w3 w100 by rw [hw100]; exact BE0.out)
      have HM100 := hide (show MapL w100 gm n (askN left) by rw [hw100]; exact HM3.out)
      rw [← hw100]
      have hSd := HKS.out w100 BE100.out
      clear hw100
      refine tilM 0 (Or.inr hSd) ?_
      refine tilM 1 (Or.inr hSd) ?_
      refine tilM 2 (Or.inr hSd) ?_
      refine tilM 5 (Or.inr hSd) ?_
      refine tilM 6 (Or.inr hSd) ?_
      refine tilM 7 (Or.inr hSd) ?_
      refine tilM 10 (Or.inr hSd) ?_
      refine tilM 11 (Or.inr hSd) ?_
      refine tilM 12 (Or.inr hSd) ?_
      refine tilT 3 hSd ?_
      refine tilT 4 hSd ?_
      refine tilT 8 hSd ?_
      refine tilT 9 hSd ?_
      refine tilT 13 hSd ?_
      refine tilT 14 hSd ?_
      refine wpTil_ready (rs := [15, 16]) (by kernel_rfl) (by simp) ?_
      refine AllTil.cons rfl (fun K hK => ?_) ?_
      · skip
        have hlk := HM100.out.look HX.out
        rw [HTV.out] at hlk
        simp only at hlk
        rw [if_pos (by rfl)]
        go_simp
        clear hlk
        refine hK.out _ _ (HKS.out w100 BE100.out) ?_
        clear hK K
        try clear hSd
        have hSd := HKS.out w100 BE100.out
        try simp only [tilS, Act.put]
        refine wpTil_ready (rs := [16]) (by kernel_rfl) (by simp) ?_
        refine AllTil.cons rfl (fun K hK => ?_) ?_
        · skip
          obtain ⟨v1, st1, w101, hen, hm, hg, he, -⟩ := HM100.out.entry HSP.out (by have := HLN.out; omega)
          simp only at hen
          have HM101 := hide hm
          have BE101 := hide (BE100.out.trans (FrG.of_grown hg))
          have HE1 := hide he
          clear hm hg he
          rw [if_pos (by rfl)]
          go_simp
          clear hen
          refine hK.out _ _ (HKS.out w101 BE101.out) ?_
          clear hK K
          try clear hSd
          have hSd := HKS.out w101 BE101.out
          try simp only [tilS, Act.put]
          refine tilM 17 (Or.inr hSd) ?_
          refine wpTil_ready (rs := [18]) (by kernel_rfl) (by simp) ?_
          refine AllTil.cons rfl (fun K hK => ?_) ?_
          · skip
            obtain ⟨w102, hst, hm, hg, -⟩ := HM101.out.store HE1.out HSP.out (v := tv) HTR.out (by have := HLN.out; omega)
            have HM102 := hide hm
            have BE102 := hide (BE101.out.trans (FrG.of_grown hg))
            clear hm hg
            rw [if_pos (by rfl)]
            go_simp
            clear hst
            refine hK.out _ _ (HKS.out w102 BE102.out) ?_
            clear hK K
            try clear hSd
            have hSd := HKS.out w102 BE102.out
            try simp only [tilS, Act.put]
            refine wpTil_ready (rs := [19]) (by kernel_rfl) (by simp) ?_
            refine AllTil.cons rfl (fun K hK => ?_) ?_
            · skip
              obtain ⟨v2, st2, w103, hen, hm, hg, he, -⟩ := HM102.out.entry HX.out (by have := HLN.out; omega)
              simp only at hen
              have HM103 := hide hm
              have BE103 := hide (BE102.out.trans (FrG.of_grown hg))
              have HE2 := hide he
              clear hm hg he
              rw [if_pos (by rfl)]
              go_simp
              clear hen
              refine hK.out _ _ (HKS.out w103 BE103.out) ?_
              clear hK K
              try clear hSd
              have hSd := HKS.out w103 BE103.out
              try simp only [tilS, Act.put]
              refine tilM 20 (Or.inr hSd) ?_
              refine wpTil_ready (rs := [21]) (by kernel_rfl) (by simp) ?_
              refine AllTil.last rfl (by rfl) (fun K hK => ?_)
              obtain ⟨w104, hst, hm, hg, -⟩ := HM103.out.store HE2.out HX.out (v := 0) ⟨by omega, by omega⟩ (by have := HLN.out; omega)
              have HM104 := hide hm
              have BE104 := hide (BE103.out.trans (FrG.of_grown hg))
              clear hm hg
              rw [if_pos (by rfl)]
              go_simp
              clear hst
              refine hK.out _ _ ?_
              clear hK K hSd
              try simp only [tilS, Act.put]
              refine wpTil_done (by kernel_rfl) ?_ _
              go_wp2_with fail
              go_meet
              exact ⟨BE104.out, hide ((HM104.out.mono (by omega)).cast HTS.out)⟩
            exact AllTil.nil
          exact AllTil.nil
        exact AllTil.nil
      refine AllTil.cons rfl (fun K hK => ?_) ?_
      · skip
        obtain ⟨v1, st1, w105, hen, hm, hg, he, -⟩ := HM100.out.entry HSP.out (by have := HLN.out; omega)
        simp only at hen
        have HM105 := hide hm
        have BE105 := hide (BE100.out.trans (FrG.of_grown hg))
        have HE1 := hide he
        clear hm hg he
        rw [if_pos (by rfl)]
        go_simp
        clear hen
        refine hK.out _ _ (HKS.out w105 BE105.out) ?_
        clear hK K
        try clear hSd
        have hSd := HKS.out w105 BE105.out
        try simp only [tilS, Act.put]
        refine tilM 17 (Or.inr hSd) ?_
        refine wpTil_ready (rs := [15]) (by kernel_rfl) (by simp) ?_
        refine AllTil.cons rfl (fun K hK => ?_) ?_
        · skip
          have hlk := HM105.out.look HX.out
          rw [HTV.out] at hlk
          simp only at hlk
          rw [if_pos (by rfl)]
          go_simp
          clear hlk
          refine hK.out _ _ (HKS.out w105 BE105.out) ?_
          clear hK K
          try clear hSd
          have hSd := HKS.out w105 BE105.out
          try simp only [tilS, Act.put]
          refine wpTil_ready (rs := [18]) (by kernel_rfl) (by simp) ?_
          refine AllTil.cons rfl (fun K hK => ?_) ?_
          · skip
            obtain ⟨w106, hst, hm, hg, -⟩ := HM105.out.store HE1.out HSP.out (v := tv) HTR.out (by have := HLN.out; omega)
            have HM106 := hide hm
            have BE106 := hide (BE105.out.trans (FrG.of_grown hg))
            clear hm hg
            rw [if_pos (by rfl)]
            go_simp
            clear hst
            refine hK.out _ _ (HKS.out w106 BE106.out) ?_
            clear hK K
            try clear hSd
            have hSd := HKS.out w106 BE106.out
            try simp only [tilS, Act.put]
            refine wpTil_ready (rs := [19]) (by kernel_rfl) (by simp) ?_
            refine AllTil.cons rfl (fun K hK => ?_) ?_
            · skip
              obtain ⟨v2, st2, w107, hen, hm, hg, he, -⟩ := HM106.out.entry HX.out (by have := HLN.out; omega)
              simp only at hen
              have HM107 := hide hm
              have BE107 := hide (BE106.out.trans (FrG.of_grown hg))
              have HE2 := hide he
              clear hm hg he
              rw [if_pos (by rfl)]
              go_simp
              clear hen
              refine hK.out _ _ (HKS.out w107 BE107.out) ?_
              clear hK K
              try clear hSd
              have hSd := HKS.out w107 BE107.out
              try simp only [tilS, Act.put]
              refine tilM 20 (Or.inr hSd) ?_
              refine wpTil_ready (rs := [21]) (by kernel_rfl) (by simp) ?_
              refine AllTil.last rfl (by rfl) (fun K hK => ?_)
              obtain ⟨w108, hst, hm, hg, -⟩ := HM107.out.store HE2.out HX.out (v := 0) ⟨by omega, by omega⟩ (by have := HLN.out; omega)
              have HM108 := hide hm
              have BE108 := hide (BE107.out.trans (FrG.of_grown hg))
              clear hm hg
              rw [if_pos (by rfl)]
              go_simp
              clear hst
              refine hK.out _ _ ?_
              clear hK K hSd
              try simp only [tilS, Act.put]
              refine wpTil_done (by kernel_rfl) ?_ _
              go_wp2_with fail
              go_meet
              exact ⟨BE108.out, hide ((HM108.out.mono (by omega)).cast HTS.out)⟩
            exact AllTil.nil
          exact AllTil.nil
        exact AllTil.nil
      exact AllTil.nil
    case rest =>
      obtain ⟨hfr, HM6⟩ := hcut
      obtain ⟨w6, rfl⟩ : ∃ w6, w6 = wc := ⟨_, rfl⟩
      have HF6 := hide hfr
      have HQ6 := hide (hfr.box HQ3.out HNH.out)
      have HX4 := hide (hfr.box HX43.out HN4.out)
      have HX5 := hide (hfr.box HX53.out HN5.out)
      have HL6 := hide (show OwC mvC 38 4 w6 base (.slice (some ⟨gl, 0, none⟩) nl cl) left from HL3.out.kept fun g hg => hfr.block g (HL3.out.lt g hg).2 (fun e => HAP.out.2.2.1 (by rw [hg, e])))
      have HO6 := hide (show OwC mvC 38 4 w6 base (.slice (some ⟨g5, 0, none⟩) (nd + 1) k5) (done ++ [⟨⟨sk, sn⟩, ⟨xk, xn⟩⟩]) from HO3.out.kept fun g hg => hfr.block g (HO3.out.lt g hg).2 (fun e => by
        injection e with e
        obtain ⟨cc, f, hcc⟩ := HO3.out.row g hg
        rw [← e] at hcc
        exact HM3.out.noBox hcc))
      have HB6 := hide (show Below base w w6 from HB3.out.trans (hfr.below (by have := HB3.out.size; have := HLO.out.2.2; omega) (fun g hg => by injection hg with hg; have := HLO.out.2.1; omega)))
      have HLN2 := hide HLN.out
      clear hfr HQ3 HX43 HX53 HL3 HO3 HB3 HM3
      have z6 := (HQ6.out.cell 0 (v := .slice (some ⟨gl, 0, none⟩) nl cl) rfl).1
      have l6 := HQ6.out.lt
      go_upto_region 4 with (fail)
      clear z6 l6
      have HGL := hide (HL6.out.lt gl rfl)
      have HNG := hide (And.intro (show some gl ≠ some h from fun e => by injection e with e; exact HAP.out.2.1 (by rw [← e]; rfl)) (And.intro (show some gl ≠ some h4 from fun e => by injection e with e; exact HL6.out.apart HX4.out.tb (by decide) (by rw [← e]; rfl)) (And.intro (show some gl ≠ some h5 from fun e => by injection e with e; exact HL6.out.apart HX5.out.tb (by decide) (by rw [← e]; rfl)) (show some gl ≠ some gm from fun e => by injection e with e; exact HAP.out.2.2.1 (by rw [← e]; rfl)))))
      go_loopw [45] (fun i wr => ∃ k : Nat, k ≤ nl ∧ i = .int .i64 (k : Int) ∧ FrG (some gl) w6 wr ∧ Hid (OwC mvC 38 4 wr base (.slice (some ⟨gl, 0, none⟩) nl cl) (mixL ⟨xk, xn⟩ ⟨sk, sn⟩ left k))) (fun i _ => nl - (intOf i).toNat)
      case atStart => exact ⟨0, Nat.zero_le _, rfl, FrG.refl _ _, by rw [mix_zero]; exact HL6⟩
      case round =>
        obtain ⟨k, hk, rfl, hfr, HK⟩ := hrel
        obtain ⟨wo, rfl⟩ : ∃ wo, wo = wr := ⟨_, rfl⟩
        have HFR := hide hfr
        clear hfr
        by_cases hlt : k < nl
        case neg =>
          obtain rfl : nl = k := by omega
          have hnn : ¬ ((nl : Int) < (nl : Int)) := by omega
          have HE := hide (show OwC mvC 38 4 wo base (.slice (some ⟨gl, 0, none⟩) nl cl) (saveL ⟨xk, xn⟩ ⟨sk, sn⟩ left) from by have t := HK.out; rwa [mix_end (by have := HNL.out; omega)] at t)
          have HME := hide (show MapL wo gm (n + 4) (askN (saveL ⟨xk, xn⟩ ⟨sk, sn⟩ left)) from HM6.out.kept (HFR.out.block gm HM6.out.lt HNG.out.2.2.2))
          have HOE := hide (show OwC mvC 38 4 wo base (.slice (some ⟨g5, 0, none⟩) (nd + 1) k5) (done ++ [⟨⟨sk, sn⟩, ⟨xk, xn⟩⟩]) from HO6.out.kept fun g hg => HFR.out.block g (HO6.out.lt g hg).2 (fun e => by
            injection e with e
            exact HS53.out gl rfl (by rw [hg, e])))
          have HQE := hide (HFR.out.box HQ6.out HNG.out.1)
          have HBE := hide (show Below base w wo from HB6.out.trans (HFR.out.below (by have := HB6.out.size; have := HLO.out.2.2; omega) (fun g hg => by injection hg with hg; have := HGL.out.1; omega)))
          go_wp2
          go_end0
          exact ⟨rfl, ⟨_, HQE.out, HE.out, HME.out, HOE.out, HS53.out, HMV.out, HLO.out.1, HLO.out.2.1, by have := HBE.out.size; have := HLO.out.2.2; omega⟩, HBE.out⟩
        have HLT := hide hlt
        obtain ⟨y, hy⟩ : ∃ y, left[k]? = some y := ⟨_, List.getElem?_eq_getElem (by have := HNL.out; omega)⟩
        have HLM := hide (show (mixL ⟨xk, xn⟩ ⟨sk, sn⟩ left k).length = nl by rw [mix_len]; exact HNL.out)
        obtain ⟨⟨d1, -⟩, ⟨d2, -⟩, ⟨d3, -⟩, ⟨d4, -⟩⟩ := mv_cells HK.out HLM.out (mix_at hy)
        have HQO := hide (HFR.out.box HQ6.out HNG.out.1)
        have HX4O := hide (HFR.out.box HX4.out HNG.out.2.1)
        have HX5O := hide (HFR.out.box HX5.out HNG.out.2.2.1)
        have lgl : gl < wo.heap.size := (HK.out.lt gl rfl).2
        have HYS := hide (fun (e : y.f = ⟨xk, xn⟩) => (show mixL ⟨xk, xn⟩ ⟨sk, sn⟩ left (k + 1) = (mixL ⟨xk, xn⟩ ⟨sk, sn⟩ left k).set k ⟨y.t, ⟨sk, sn⟩⟩ by rw [mix_step hy, if_pos e]))
        have HYN := hide (fun (e : y.f ≠ ⟨xk, xn⟩) => mix_keep (sp := ⟨sk, sn⟩) hy e)
        have HMA := hide (mix_at (x := ⟨xk, xn⟩) (sp := ⟨sk, sn⟩) hy)
        have e1 := lc_cases y.f ⟨xk, xn⟩
        have hk0 : (0 : Int) ≤ (k : Int) := by omega
        have hk1 : (k : Int) < (nl : Int) := by omega
        have hnl9 : nl ≤ 1000 := HLL.out
        obtain ⟨⟨tk, tn⟩, ⟨fk, fn⟩⟩ := y
        simp only at d1 d2 d3 d4 e1 HYS HYN
        clear hy
        go_upto_region 6 with (fail)
        obtain ⟨w7, hw7⟩ := letr (wo.alloc (.cells #[.int .i64 tk, .int .i64 tn, .int .i64 fk, .int .i64 fn] 38))
        obtain ⟨h7, hh7⟩ := letl wo.heap.size
        have HX7 := lBox hw7 hh7
        have HB7 := lBel hw7
        rw [← hw7, hh7]
        clear hw7 hh7 d1 d2 d3 d4 lgl
        have HK7 := hide (HK.out.below HB7.out)
        have HF7 := hide (HFR.out.trans (FrG.of_below (own := some gl) HB7.out))
        have a2 := (HX7.out.cell 2 (v := .int .i64 fk) rfl).1
        have a3 := (HX7.out.cell 3 (v := .int .i64 fn) rfl).1
        have b0 := ((HX4O.out.below HB7.out).cell 0 (v := .int .i64 xk) rfl).1
        have b1 := ((HX4O.out.below HB7.out).cell 1 (v := .int .i64 xn) rfl).1
        have l7 := HX7.out.lt
        have l4 := (HX4O.out.below HB7.out).lt
        rcases e1 with e1 | e1
        · have HS := hide (HYS.out e1)
          injection e1 with e1 e2
          subst e1
          subst e2
          have c0 := ((HQO.out.below HB7.out).cell 0 (v := .slice (some ⟨gl, 0, none⟩) nl cl) rfl).1
          have s0 := ((HX5O.out.below HB7.out).cell 0 (v := .int .i64 sk) rfl).1
          have s1 := ((HX5O.out.below HB7.out).cell 1 (v := .int .i64 sn) rfl).1
          have lq := (HQO.out.below HB7.out).lt
          have l5 := (HX5O.out.below HB7.out).lt
          obtain ⟨-, -, ⟨d3, z3⟩, ⟨d4, z4⟩⟩ := mv_cells HK7.out HLM.out HMA.out
          simp only at d3 d4
          have lg := (HK7.out.lt gl rfl).2
          have HP := hide (show OwC mvC 38 4 ((w7.setCell ⟨gl, k * 4 + 2, none⟩ (.int .i64 sk)).setCell ⟨gl, k * 4 + 3, none⟩ (.int .i64 sn)) base (.slice (some ⟨gl, 0, none⟩) nl cl) (mixL ⟨fk, fn⟩ ⟨sk, sn⟩ left (k + 1)) from by
            have t1 := HK7.out.putE HLM.out (fun _ => rfl) (i := 2) (y' := ⟨⟨tk, tn⟩, ⟨sk, fn⟩⟩) (u := .int .i64 sk) HMA.out (by omega) rfl
            have t2 := t1.putE (by rw [List.length_set]; exact HLM.out) (fun _ => rfl) (j := k) (i := 3) (y := ⟨⟨tk, tn⟩, ⟨sk, fn⟩⟩) (y' := ⟨⟨tk, tn⟩, ⟨sk, sn⟩⟩) (u := .int .i64 sn) (by rw [List.getElem?_set, if_pos rfl, if_pos (by have := HLM.out; have := HLT.out; omega)]) (by omega) rfl
            rw [List.set_set] at t2
            rw [HS.out]
            exact t2)
          go_wp2
          go_region
          go_wp2
          go_roundw
          case rel => exact ⟨k + 1, by have := HLT.out; omega, by go_num, FrG.trans HF7.out.set.set (FrG.of_below (below_drewN (Below.refl _ _) 1)), hide HP.out⟩
          case measure => have := HLT.out; simp [intOf]; omega
        · have HS := hide (HYN.out (fun e => by rcases e1 with h | h <;> simp_all))
          have HP := hide (show OwC mvC 38 4 w7 base (.slice (some ⟨gl, 0, none⟩) nl cl) (mixL ⟨xk, xn⟩ ⟨sk, sn⟩ left (k + 1)) from by rw [HS.out]; exact HK7.out)
          rcases e1 with e1 | ⟨e0, e1⟩
          all_goals
            try subst e0
            go_wp2
            go_roundw
            case rel => exact ⟨k + 1, by have := HLT.out; omega, by go_num, HF7.out, HP⟩
            case measure => have := HLT.out; simp [intOf]; omega
end Go.Proofs.Ytkilfejcohnceaa
