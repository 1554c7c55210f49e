/- Layer 17, the program: the queue in memory; wait. Condition: no more than 1000 moves. -/
import Derived.Test.YtkilfejcohnceaaPaID
import Derived.Test.YtkilfejcohnceaaPaTIL
import Derived.Sort.Grow
import Derived.Deep.Cut
import Derived.Deep.CutRange
set_option linter.unusedSimpArgs false
set_option linter.unusedVariables false
namespace Go.Proofs.Ytkilfejcohnceaa
open Go.RowKit

def askN (l : List MvV) (x : LcV) : Int := ((l.filter (fun m => decide (m.f = x))).length : Int)
theorem ask_take {l : List MvV} {k : Nat} {m : MvV} (h : l[k]? = some m) : askN (l.take (k + 1)) = updL (askN (l.take k)) m.f (askN (l.take k) m.f + 1) := by
  funext x
  unfold askN updL
  rw [List.take_add_one, h, Option.toList_some, List.filter_append, List.length_append]
  by_cases e : x = m.f
  · subst e
    simp
  · have e2 : ¬ m.f = x := fun h => e h.symm
    rw [if_neg e, List.filter_cons_of_neg (by simpa using e2)]
    simp
theorem ask_bnd (l : List MvV) (x : LcV) : 0 ≤ askN l x ∧ askN l x ≤ l.length := by
  unfold askN
  have := List.length_filter_le (fun m => decide (m.f = x)) l
  omega
theorem ask_zero (l : List MvV) (x : LcV) : decide (askN l x = 0) = !askB l x := by
  unfold askN askB
  rw [Bool.eq_iff_iff]
  simp
theorem free_ask (l : List MvV) : l.findIdx (fun m => decide (askN l m.t = 0)) = freeN l := by
  unfold freeN
  congr 1
  funext m
  exact ask_zero l m.t
theorem FrG.of_grown {g : Nat} {w w' : World} (h : w.grownBy w' (some g)) : FrG (some g) w w' := ⟨h.os, h.tape, h.output, h.size, fun k hk ho => h.block k hk (fun e => ho e.symm)⟩
theorem MapL.cast {w : World} {b n : Nat} {T U : LcV → Int} (h : MapL w b n T) (e : T = U) : MapL w b n U := e ▸ h
/-- The queue in memory. -/
structure QuS (w : World) (h base : Nat) (vl vd : Value) (gm n : Nat) (left done : List MvV) : Prop where
  box : Box w h #[vl, .map (some gm), vd] 47
  own : OwC mvC 38 4 w base vl left
  map : MapL w gm n (askN left)
  out : OwC mvC 38 4 w base vd done
  sep : ∀ g, vl.ownBlock = some g → vd.ownBlock ≠ some g
  mr : mvR left
  lo : base ≤ h ∧ base ≤ gm ∧ base ≤ w.heap.size
theorem QuS.below {w w' : World} {h base gm n : Nat} {vl vd : Value} {left done : List MvV} (q : QuS w h base vl vd gm n left done) (hb : Below w.heap.size w w') : QuS w' h base vl vd gm n left done :=
  ⟨q.box.below hb, q.own.below hb, q.map.below hb, q.out.below hb, q.sep, q.mr, q.lo.1, q.lo.2.1, Nat.le_trans q.lo.2.2 hb.size⟩
theorem QuS.apart {w : World} {h base gm n : Nat} {vl vd : Value} {left done : List MvV} (q : QuS w h base vl vd gm n left done) : h ≠ gm ∧ vl.ownBlock ≠ some h ∧ vl.ownBlock ≠ some gm ∧ vd.ownBlock ≠ some h ∧ vd.ownBlock ≠ some gm := by
  refine ⟨fun e => ?_, q.own.apart q.box.tb (by decide), fun e => ?_, q.out.apart q.box.tb (by decide), fun e => ?_⟩
  · have := q.box
    rw [e] at this
    exact q.map.noBox this
  · obtain ⟨c, f, hc⟩ := q.own.row _ e
    exact q.map.noBox hc
  · obtain ⟨c, f, hc⟩ := q.out.row _ e
    exact q.map.noBox hc
theorem size_queue : (Try.prog.info? 47).map (·.size) = some 3 := by kernel_rfl
set_option maxHeartbeats 2000000 in
set_option maxRecDepth 100000 in
theorem iwait_any (v : Value) (l : List MvV) (w : World) (hl : MvsV w (· < w.heap.size) v l) (hm : l.length ≤ 1000) :
    Calls Try.prog 24 #[v] w fun e w' => ∃ vl gm, e = .returned (.agg #[vl, .map (some gm), .slice none 0 0]) ∧ OwC mvC 38 4 w' w.heap.size vl (leftO l) ∧ MapL w' gm 2000 (askN (leftO l)) ∧ w.heap.size ≤ gm ∧ Below w.heap.size w w' := by
  have hmm := @run_makeMap Try.prog
  have HCL := hide (fun (W : World) (hW : Below w.heap.size w W) => iclone17_any v l W (hl.up hW) (by omega))
  have HR := hide hl.range
  have HLM := hide hm
  obtain ⟨A, c, rfl, -, -⟩ := hl.open'
  clear hl hm
  go_enter Try.func24, Try.ntmps24
  go_upto_region 2 with (fail)
  obtain ⟨w1, hw1⟩ := letr (((w.alloc (.cells #[.slice none 0 0, .map none, .slice none 0 0] 47)).alloc (.map #[] 0)).alloc (.cells #[.slice none 0 0, .map (some (w.heap.size + 1)), .slice none 0 0] 47))
  obtain ⟨h2, hh2⟩ := letl w.heap.size
  have HX2 := lY3 hw1 hh2
  have HX3 := hide (show Box w1 (h2 + 1 + 1) #[.slice none 0 0, .map (some (h2 + 1)), .slice none 0 0] 47 from by have t := (lX3 hw1 hh2).out; rw [hh2] at t; exact t)
  have HM1 := hide (show MapL w1 (h2 + 1) 0 (fun _ => 0) from by
    rw [hw1, ← hh2]
    have t := MapL.start (w.alloc (.cells #[.slice none 0 0, .map none, .slice none 0 0] 47))
    simp only [World.size_alloc] at t
    exact t.below (alloc1 _ _))
  have HB1 := lB3 hw1
  have HW2 := hide hh2
  obtain ⟨gm, hgm⟩ := letl (h2 + 1)
  obtain ⟨h3, hh3⟩ := letl (gm + 1)
  rw [hgm] at HX3 HM1
  rw [hh3] at HX3
  have HGE := hide (And.intro (show h2 ≤ gm by omega) (show h2 ≤ h3 by omega))
  rw [← hw1, hh2, hgm, hh3]
  have HNE := hide (show h2 ≠ h3 by omega)
  clear hw1 hh2 hgm hh3 hmm
  obtain ⟨x0, z0⟩ := HX3.out.cell 0 (v := .slice none 0 0) rfl
  have l3 := HX3.out.lt
  go_upto_region 3 with (first
    | (go_at_call 30; (with_reducible refine (idelf_any w1.heap.size _ l w2 HLM.out HR.out HO2.out HB2.out.size).mono ?_); rintro e w3 ⟨v3, rfl, ho3, hb3⟩; obtain ⟨A3, c3, rfl, hc3, hcm3⟩ := ho3.sl; have HO3 := hide ho3; have HB3 := hide (HB2.out.trans hb3); have x0 := (hb3.cell (p := ⟨h3, 0, none⟩) l3).trans y0; have z0 := (show w3.frozen? ⟨h3, 0, none⟩ = false from ((HX3.out.belowB (HB2.out.trans hb3) l3).cell 0 (v := .slice none 0 0) rfl).2); have k3 : h3 < w3.heap.size := Nat.lt_of_lt_of_le l3 HB3.out.size; clear ho3 hb3 y0 l3)
    | (go_at_call 31; (with_reducible refine (HCL.out w1 HB1.out).mono ?_); rintro e w2 ⟨v2, rfl, ho2, hb2⟩; have HO2 := hide ho2; have HB2 := hide hb2; have y0 := (hb2.cell (p := ⟨h3, 0, none⟩) l3).trans x0; clear ho2 hb2 x0 z0))
  obtain ⟨n3, hn3⟩ := letl (leftO l).length
  have HLL := hide (show n3 ≤ 1000 from by have := HLM.out; rw [← hn3]; exact Nat.le_trans (List.length_filter_le _ _) this)
  have HMR := hide (show mvR (leftO l) from fun m hm => HR.out m (List.mem_filter.1 hm).1)
  rw [hn3] at HO3 hc3 ⊢
  obtain ⟨ls, hls⟩ := letl (leftO l)
  rw [hls] at HO3 hn3 HMR
  have HLS := hide hls
  clear hls
  obtain ⟨w4, hw4⟩ := letr (w3.setCell ⟨h3, 0, none⟩ (.slice A3 n3 c3))
  have HX4 := hide (show Box w4 h3 #[.slice A3 n3 c3, .map (some gm), .slice none 0 0] 47 by rw [hw4]; exact (HX3.out.belowB HB3.out HX3.out.lt).set 0 _)
  have HY4 := hide (show Box w4 h2 #[.slice none 0 0, .map none, .slice none 0 0] 47 by rw [hw4]; exact (HX2.out.belowB HB3.out HX2.out.lt).other HNE.out)
  have HM4 := hide (show MapL w4 gm 0 (fun _ => 0) by
    rw [hw4]
    refine (HM1.out.kept (HB3.out.block gm HM1.out.lt)).kept (heap_setCell_other _ _ _ _ (show gm ≠ h3 from fun e => ?_))
    have t := HX3.out
    rw [← e] at t
    exact HM1.out.noBox t)
  have HO4 := hide (show OwC mvC 38 4 w4 w1.heap.size (.slice A3 n3 c3) ls by
    rw [hw4]
    exact HO3.out.kept fun g hg => heap_setCell_other _ _ _ _ (show g ≠ h3 from fun e => HO3.out.apart (HX3.out.belowB HB3.out HX3.out.lt).tb (by decide) (by rw [hg, e])))
  have HB4 := hide (show Below h2 w w4 by
    rw [hw4]
    have t := HB1.out.trans (HB3.out.mono HB1.out.size)
    rw [HW2.out] at t
    exact t.setCell (p := ⟨h3, 0, none⟩) HGE.out.2 _)
  have HBS := hide (show h2 ≤ w1.heap.size from by have := HB1.out.size; have := HW2.out; omega)
  have HN3 := hide hn3
  rw [← hw4]
  clear hw4 x0 z0 k3 hn3 HO3 HX3 HX2 HM1 HCL HB3
  obtain ⟨x0, -⟩ := HX4.out.cell 0 (v := .slice A3 n3 c3) rfl
  have l4 := HX4.out.lt
  go_upto_region 4 with (fail)
  clear x0 l4
  have hcm4 : c3 ≤ 9223372036854775807 := by simpa [maxLen] using hcm3
  go_loopw [15] (fun i wr => ∃ k : Nat, k ≤ n3 ∧ i = .int .i64 (k : Int) ∧ FrG (some gm) w4 wr ∧ Hid (MapL wr gm (2 * k) (askN (ls.take k)))) (fun i _ => n3 - (intOf i).toNat)
  case atStart => exact ⟨0, Nat.zero_le _, rfl, FrG.refl _ _, HM4⟩
  case round =>
    obtain ⟨k, hk, rfl, hfr, HM⟩ := hrel
    obtain ⟨wo, rfl⟩ : ∃ wo, wo = wr := ⟨_, rfl⟩
    have HFR := hide hfr
    clear hfr
    have HNX := hide (show some gm ≠ some h3 from fun e => by
      injection e with e
      have t := HX4.out
      rw [← e] at t
      exact HM4.out.noBox t)
    have HNY := hide (show some gm ≠ some h2 from fun e => by
      injection e with e
      have t := HY4.out
      rw [← e] at t
      exact HM4.out.noBox t)
    have HNO := hide (show ∀ g, (Value.slice A3 n3 c3).ownBlock = some g → some gm ≠ some g from fun g hg e => by
      injection e with e
      obtain ⟨cc, f, hcc⟩ := HO4.out.row g hg
      rw [← e] at hcc
      exact HM4.out.noBox hcc)
    have HXO := hide (HFR.out.box HX4.out HNX.out)
    have HYO := hide (HFR.out.box HY4.out HNY.out)
    have HOO := hide (show OwC mvC 38 4 wo w1.heap.size (.slice A3 n3 c3) ls from HO4.out.kept fun g hg => HFR.out.block g (HO4.out.lt g hg).2 (HNO.out g hg))
    by_cases hlt : k < n3
    case neg =>
      obtain rfl : n3 = k := by omega
      have hnl : ¬ ((n3 : Int) < (n3 : Int)) := by omega
      have HME := hide (show MapL wo gm 2000 (askN ls) from by
        have t := HM.out
        rw [List.take_of_length_le (by have := HN3.out; omega)] at t
        exact t.mono (by have := HLL.out; omega))
      obtain ⟨x0, -⟩ := HXO.out.cell 0 (v := .slice A3 n3 c3) rfl
      obtain ⟨x1, -⟩ := HXO.out.cell 1 (v := .map (some gm)) rfl
      obtain ⟨x2, -⟩ := HXO.out.cell 2 (v := .slice none 0 0) rfl
      obtain ⟨y0, f0⟩ := HYO.out.cell 0 (v := .slice none 0 0) rfl
      obtain ⟨y1, f1⟩ := HYO.out.cell 1 (v := .map none) rfl
      obtain ⟨y2, f2⟩ := HYO.out.cell 2 (v := .slice none 0 0) rfl
      have lx := HXO.out.lt
      have ly := HYO.out.lt
      have HZ := hide (show Box (((wo.setCell ⟨h2, 0, none⟩ (.slice A3 n3 c3)).setCell ⟨h2, 1, none⟩ (.map (some gm))).setCell ⟨h2, 2, none⟩ (.slice none 0 0)) h2 #[.slice A3 n3 c3, .map (some gm), .slice none 0 0] 47 from by
        have t := ((HYO.out.set 0 (.slice A3 n3 c3)).set 1 (.map (some gm))).set 2 (.slice none 0 0)
        simpa using t)
      go_wp2
      refine bodyPost_ret (results_cell_row rfl _ _ h2 47 #[.slice A3 n3 c3, .map (some gm), .slice none 0 0] (0, 0) _ (by rfl) HZ.out Try.underlying47 rfl size_queue) rfl ?_
      rw [HLS.out, HW2.out]
      refine ⟨_, gm, rfl, ?_, ?_, HGE.out.1, ?_⟩
      · refine OwC.lower (OwC.kept HOO.out fun g hg => ?_) HBS.out
        have hne : g ≠ h2 := fun e => HOO.out.apart HYO.out.tb (by decide) (by rw [hg, e])
        rw [heap_setCell_other _ _ _ _ hne, heap_setCell_other _ _ _ _ hne, heap_setCell_other _ _ _ _ hne]
      · have hne : gm ≠ h2 := fun e => HNY.out (by rw [e])
        refine HME.out.kept ?_
        rw [heap_setCell_other _ _ _ _ hne, heap_setCell_other _ _ _ _ hne, heap_setCell_other _ _ _ _ hne]
      · have t := HB4.out.trans (HFR.out.below (base := h2) (by have := HB4.out.size; have := HW2.out; omega) (fun g hg => by injection hg with hg; have := HGE.out.1; omega))
        exact ((t.setCell (p := ⟨h2, 0, none⟩) (Nat.le_refl _) _).setCell (p := ⟨h2, 1, none⟩) (Nat.le_refl _) _).setCell (p := ⟨h2, 2, none⟩) (Nat.le_refl _) _
    have HLT := hide hlt
    obtain ⟨y, hy⟩ : ∃ y, ls[k]? = some y := ⟨_, List.getElem?_eq_getElem (by have := HN3.out; omega)⟩
    obtain ⟨g3, cap3, hv3, -⟩ := HOO.out.blk (by have := HN3.out; omega)
    rw [HN3.out] at hv3
    injection hv3 with hA _ hcc
    subst hA
    subst hcc
    obtain ⟨⟨d1, -⟩, ⟨d2, -⟩, ⟨d3, -⟩, ⟨d4, -⟩⟩ := mv_cells HOO.out HN3.out hy
    have lg3 : g3 < wo.heap.size := (HOO.out.lt g3 rfl).2
    have HXR := hide (HMR.out y (List.mem_of_getElem? hy)).2
    have HTK := hide (ask_take hy)
    have HTB := hide (ask_bnd (ls.take k) y.f)
    obtain ⟨tv, htv⟩ := letl (askN (ls.take k) y.f)
    rw [htv] at HTK HTB
    have HTV := hide htv
    have htv0 : 0 ≤ tv := HTB.out.1
    have htv1 : tv ≤ 1000 := by have := HTB.out.2; have := HLL.out; rw [List.length_take] at *; omega
    have hwr : IntKind.i64.wrap (tv + 1) = tv + 1 := IntWalk.i64_in _ ⟨by omega, by omega⟩
    obtain ⟨⟨tk, tn⟩, ⟨fk, fn⟩⟩ := y
    simp only at d1 d2 d3 d4 HTV
    have hk0 : (0 : Int) ≤ (k : Int) := by omega
    have hk1 : (k : Int) < (n3 : Int) := by omega
    clear hy htv
    go_upto_region 6 with (fail)
    obtain ⟨w5, hw5⟩ := letr (wo.alloc (.cells #[.int .i64 tk, .int .i64 tn, .int .i64 fk, .int .i64 fn] 38))
    obtain ⟨h5, hh5⟩ := letl wo.heap.size
    have HX5 := lBox hw5 hh5
    have HB5 := lBel hw5
    rw [← hw5, hh5]
    clear hw5 hh5 d1 d2 d3 d4 lg3
    have HM5 := hide (HM.out.below HB5.out)
    have HXB := hide (HXO.out.below HB5.out)
    have HN5 := hide (show some gm ≠ some h5 from fun e => by
      injection e with e
      have t := HX5.out
      rw [← e] at t
      exact HM5.out.noBox t)
    have HKS := hide (fun (W : World) (hW : FrG (some gm) w5 W) => (show W.cell? ⟨h3, 1, none⟩ = some (.map (some gm)) ∧ W.cell? ⟨h5, 2, none⟩ = some (.int .i64 fk) ∧ W.cell? ⟨h5, 3, none⟩ = some (.int .i64 fn) ∧ h3 < W.heap.size ∧ h5 < W.heap.size from ⟨((hW.box HXB.out HNX.out).cell 1 (v := .map (some gm)) rfl).1, ((hW.box HX5.out HN5.out).cell 2 (v := .int .i64 fk) rfl).1, ((hW.box HX5.out HN5.out).cell 3 (v := .int .i64 fn) rfl).1, Nat.lt_of_lt_of_le HXB.out.lt hW.size, Nat.lt_of_lt_of_le HX5.out.lt hW.size⟩))
    have BE0 := hide (show FrG (some gm) w5 w5.drew from FrG.of_below (below_drewN (Below.refl _ _) 1))
    refine wp_region_til (fun w' => w'.cell? ⟨h3, 1, none⟩ = some (.map (some gm)) ∧ w'.cell? ⟨h5, 2, none⟩ = some (.int .i64 fk) ∧ w'.cell? ⟨h5, 3, none⟩ = some (.int .i64 fn) ∧ h3 < w'.heap.size ∧ h5 < w'.heap.size) 8 (by kernel_rfl) (HKS.out _ BE0.out) ?_
    obtain ⟨w100, hw100⟩ : ∃ w100, w100 = w5.drew := ⟨_, rfl⟩
    have BE100 := hide (show FrG (some gm) w5 w100 by rw [hw100]; exact BE0.out)
    have HM100 := hide (show MapL w100 gm (2 * k) (askN (ls.take k)) by rw [hw100]; exact HM5.out)
    rw [← hw100]
    have hSd := HKS.out w100 BE100.out
    clear hw100
    refine tilM 0 (Or.inr hSd) ?_
    refine tilM 2 (Or.inr hSd) ?_
    refine tilT 1 hSd ?_
    refine tilT 3 hSd ?_
    refine wpTil_ready (rs := [4, 6]) (by kernel_rfl) (by simp) ?_
    refine AllTil.cons rfl (fun K hK => ?_) ?_
    · skip
      have hlk := HM100.out.look HXR.out
      rw [HTV.out] at hlk
      simp only at hlk
      rw [if_pos (by rfl)]
      go_simp
      clear hlk
      refine hK.out _ _ (HKS.out w100 BE100.out) ?_
      clear hK K
      try clear hSd
      have hSd := HKS.out w100 BE100.out
      try simp only [tilS, Act.put]
      refine tilM 5 (Or.inr hSd) ?_
      refine wpTil_ready (rs := [6]) (by kernel_rfl) (by simp) ?_
      refine AllTil.cons rfl (fun K hK => ?_) ?_
      · skip
        obtain ⟨v0, st, w101, hen, hm, hg, he, -⟩ := HM100.out.entry HXR.out (by have := HLL.out; omega)
        simp only at hen
        have HM101 := hide hm
        have BE101 := hide (BE100.out.trans (FrG.of_grown hg))
        have HE := hide he
        clear hm hg he
        rw [if_pos (by rfl)]
        go_simp
        clear hen
        refine hK.out _ _ (HKS.out w101 BE101.out) ?_
        clear hK K
        try clear hSd
        have hSd := HKS.out w101 BE101.out
        try simp only [tilS, Act.put]
        refine tilM 7 (Or.inr hSd) ?_
        refine wpTil_ready (rs := [8]) (by kernel_rfl) (by simp) ?_
        refine AllTil.last rfl (by rfl) (fun K hK => ?_)
        obtain ⟨w102, hst, hm, hg, -⟩ := HM101.out.store HE.out HXR.out (v := tv + 1) ⟨by omega, by omega⟩ (by have := HLL.out; omega)
        have HM102 := hide hm
        have BE102 := hide (BE101.out.trans (FrG.of_grown hg))
        clear hm hg
        rw [if_pos (by rfl)]
        go_simp
        clear hst
        refine hK.out _ _ ?_
        clear hK K hSd
        try simp only [tilS, Act.put]
        refine wpTil_done (by kernel_rfl) ?_ _
        go_wp2
        go_roundw
        case rel => exact ⟨k + 1, by have := HLT.out; omega, by go_num, (HFR.out.trans (FrG.of_below HB5.out)).trans BE102.out, hide ((HM102.out.mono (by omega)).cast HTK.out.symm)⟩
        case measure => have := HLT.out; simp [intOf]; omega
      exact AllTil.nil
    refine AllTil.cons rfl (fun K hK => ?_) ?_
    · skip
      obtain ⟨v0, st, w103, hen, hm, hg, he, -⟩ := HM100.out.entry HXR.out (by have := HLL.out; omega)
      simp only at hen
      have HM103 := hide hm
      have BE103 := hide (BE100.out.trans (FrG.of_grown hg))
      have HE := hide he
      clear hm hg he
      rw [if_pos (by rfl)]
      go_simp
      clear hen
      refine hK.out _ _ (HKS.out w103 BE103.out) ?_
      clear hK K
      try clear hSd
      have hSd := HKS.out w103 BE103.out
      try simp only [tilS, Act.put]
      refine tilM 7 (Or.inr hSd) ?_
      refine wpTil_ready (rs := [4]) (by kernel_rfl) (by simp) ?_
      refine AllTil.cons rfl (fun K hK => ?_) ?_
      · skip
        have hlk := HM103.out.look HXR.out
        rw [HTV.out] at hlk
        simp only at hlk
        rw [if_pos (by rfl)]
        go_simp
        clear hlk
        refine hK.out _ _ (HKS.out w103 BE103.out) ?_
        clear hK K
        try clear hSd
        have hSd := HKS.out w103 BE103.out
        try simp only [tilS, Act.put]
        refine tilM 5 (Or.inr hSd) ?_
        refine wpTil_ready (rs := [8]) (by kernel_rfl) (by simp) ?_
        refine AllTil.last rfl (by rfl) (fun K hK => ?_)
        obtain ⟨w104, hst, hm, hg, -⟩ := HM103.out.store HE.out HXR.out (v := tv + 1) ⟨by omega, by omega⟩ (by have := HLL.out; omega)
        have HM104 := hide hm
        have BE104 := hide (BE103.out.trans (FrG.of_grown hg))
        clear hm hg
        rw [if_pos (by rfl)]
        go_simp
        clear hst
        refine hK.out _ _ ?_
        clear hK K hSd
        try simp only [tilS, Act.put]
        refine wpTil_done (by kernel_rfl) ?_ _
        go_wp2
        go_roundw
        case rel => exact ⟨k + 1, by have := HLT.out; omega, by go_num, (HFR.out.trans (FrG.of_below HB5.out)).trans BE104.out, hide ((HM104.out.mono (by omega)).cast HTK.out.symm)⟩
        case measure => have := HLT.out; simp [intOf]; omega
      exact AllTil.nil
    exact AllTil.nil
end Go.Proofs.Ytkilfejcohnceaa
