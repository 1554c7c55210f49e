/- Layer 9, the program: contract of Reach. No condition but on lengths. -/
import Derived.Test.YtjlndibeaklcdaaHJ
import Derived.Deep.RegionHeld3
import Derived.StillTailTactics
set_option linter.unusedSimpArgs false
set_option linter.unusedVariables false
namespace Go.Proofs.Ytjlndibeaklcdaa
open Go.RowKit

theorem sortX_anyH (v : Value) (l : List Int) (base : Nat) (w : World) (hv : Ow w base 3 .i64 v l) (hn : l.length ≤ 1000) :
    Calls Try.prog 30 #[v] w fun e w' => e = .returned (.tuple #[]) ∧ Ow w' base 3 .i64 v (sortL l) ∧ Below base w w' ∧ (∀ k, k < w.heap.size → v.ownBlock ≠ some k → w'.heap[k]? = w.heap[k]?) := by
  rcases hv.2 with ⟨rfl, hz⟩ | ⟨g, cap, cur, rfl, hg, hh, hnc, hcm, hsz, htake⟩
  · have hl : l = [] := List.eq_nil_of_length_eq_zero hz
    subst hl
    refine (sort_nilH w).mono ?_
    rintro e w' ⟨rfl, rfl⟩
    exact ⟨rfl, by rw [show sortL [] = [] by simp [sortL]]; exact Ow.nil _ _ _ _, Below.refl _ _, fun _ _ _ => rfl⟩
  · have hgl : g < w.heap.size := (Array.getElem?_eq_some_iff.1 hh).1
    have hH := holds_of_blockI hh (by simpa using htake)
    refine (sort_int g 0 cap l w hH hgl (by omega)).mono fun e w' ⟨he, n, os, hw⟩ => ⟨he, ?_, ?_, ?_⟩
    · rw [hw]
      unfold Ow
      have h := ownsRow_sortedI (w := w) (n := n) (os := os) (ts := sortL l) (sortL_len l) hg hh hnc hcm hsz
      rw [sortL_len]
      exact h
    · rw [hw]
      exact (Below.refl _ _).grown (grownBy_sortedI _) (by omega) (fun k hk => by injection hk with hk; omega)
    · rw [hw]
      intro k hk hne
      exact (grownBy_sortedI _).block k hk (fun e => hne (by rw [e]; rfl))
set_option maxHeartbeats 4000000 in
set_option maxRecDepth 100000 in
theorem hreach_any (vh vr : Value) (h : List ObjV) (roots : List Int) (w : World) (B : Nat) (hB : B ≤ w.heap.size) (hh : ObjsV w (· < B) vh h) (hx : IntsV w (· < B) vr roots) (hmx : h.length ≤ 900) :
    Calls Try.prog 14 #[.agg #[vh], vr] w fun e w' => ∃ v l, e = .returned v ∧ IsR h roots l ∧ Ow w' w.heap.size 3 .i64 v l ∧ Below w.heap.size w w' := by
  have HRT := hide (fun (W : World) (hW : Below w.heap.size w W) => hright_any vh h W B (by have := hW.size; omega) (hh.keep (up hW hB) (fun _ h => h)))
  have HHK := hide (fun (W : World) (hW : Below w.heap.size w W) => hh.keep (up hW hB) (fun _ h => h))
  have HXK := hide (fun (W : World) (hW : Below w.heap.size w W) => hx.keep (S' := (· < w.heap.size)) (up hW hB) (fun b hb => by omega))
  obtain ⟨Ao, c, rfl, hc, hm⟩ := hh.open'
  obtain ⟨Ar, cr, rfl, hcr, hmr⟩ := hx.open'
  obtain ⟨no, hno⟩ : ∃ no, h.length = no := ⟨_, rfl⟩
  obtain ⟨nr, hnr⟩ : ∃ nr, roots.length = nr := ⟨_, rfl⟩
  have HNO := hide hno
  have hmake : ∀ W : World, (Instr.makeSlice 48 (.int .i64 ((no : Int) + 1)) (.int .i64 ((no : Int) + 1))).run Try.prog W = .ok (.slice (some ⟨W.heap.size, 0, none⟩) (no + 1) (no + 1)) (W.alloc (.cells (madeCells (Value.bool false).cells ((no + 1) * 1)) 4)) := fun W => by
    have t := mk_run 48 4 Try.underlying48 info_bool (by omega) (no + 1) (by omega) W
    rwa [show ((no + 1 : Nat) : Int) = (no : Int) + 1 by omega] at t
  obtain ⟨mc, hmc⟩ : ∃ mc, madeCells (Value.bool false).cells ((no + 1) * 1) = mc := ⟨_, rfl⟩
  rw [hmc] at hmake
  have HMC := hide (show mc = ((markOf (no + 1) []).map Value.bool).toArray by rw [← hmc, markOf_nil]; exact madeCells_bool _)
  rw [hno] at HRT HHK hc hmx
  rw [hnr] at HXK hcr
  rw [hno, hnr]
  have HIS := hide (fun hr : rightB h = true => (fun (N : List Int) (i : Nat) (r : RB h roots i N) (hi : N.length ≤ i) => RB.is hr r hi))
  have HNI := hide (fun hr : rightB h = false => IsR.no (roots := roots) hr)
  generalize rightB h = rb at *
  clear hh hx hno hnr hmc
  cases rb
  · have HN := hide (HNI.out rfl)
    clear HIS HNI hmake
    go_enter Try.func14, Try.ntmps14
    go_upto_region 1 with (fail)
    obtain ⟨w1, hw1⟩ : ∃ w1, w1 = w.alloc (.cells #[.slice Ao no c] 24) := ⟨_, rfl⟩
    obtain ⟨h5, hh5⟩ : ∃ h5, w.heap.size = h5 := ⟨_, rfl⟩
    have HX0 := hide (show Box w1 (h5) #[.slice Ao no c] 24 by rw [hw1, ← hh5]; have t := Box.new w #[.slice Ao no c] 24; (try simp only [World.size_alloc] at t); exact t)
    have HB1 := hide (show Below w.heap.size w w1 by rw [hw1]; exact ((Below.refl _ _).alloc (Nat.le_refl _) _))
    have w1s := HB1.out.size
    have w1z := hide (show w1.heap.size = h5 + 1 by rw [hw1, ← hh5]; simp only [World.size_alloc])
    have HK0 := hide (fun (W : World) (hW : Below w1.heap.size w1 W) => ((HX0.out.below hW).cell 0 (v := .slice Ao no c) rfl).1)
    have lHX0 := HX0.out.lt
    have h5g : w.heap.size ≤ h5 := by omega
    rw [← hw1, hh5]
    clear hw1 hh5
    have p0 := HK0.out w1 (Below.refl _ _)
    go_wp2_with (go_at_call 11; (with_reducible refine (HRT.out w1 HB1.out).mono ?_); rintro e w2 ⟨rfl, hb2⟩; have HB2 := hide (HB1.out.trans (hb2.mono HB1.out.size)); clear hb2)
    go_ret
    exact ⟨_, [], rfl, HN.out, Ow.nil _ _ _ _, HB2.out⟩
  have HIS2 := hide (fun (N : List Int) (i : Nat) (r : RB h roots i N) (hi : N.length ≤ i) => HIS.out (by first | rfl | trivial) N i r hi)
  clear HNI
  go_enter Try.func14, Try.ntmps14
  go_upto_region 1 with (fail)
  obtain ⟨w1, hw1⟩ : ∃ w1, w1 = w.alloc (.cells #[.slice Ao no c] 24) := ⟨_, rfl⟩
  obtain ⟨h5, hh5⟩ : ∃ h5, w.heap.size = h5 := ⟨_, rfl⟩
  have HX0 := hide (show Box w1 (h5) #[.slice Ao no c] 24 by rw [hw1, ← hh5]; have t := Box.new w #[.slice Ao no c] 24; (try simp only [World.size_alloc] at t); exact t)
  have HB1 := hide (show Below w.heap.size w w1 by rw [hw1]; exact ((Below.refl _ _).alloc (Nat.le_refl _) _))
  have w1s := HB1.out.size
  have w1z := hide (show w1.heap.size = h5 + 1 by rw [hw1, ← hh5]; simp only [World.size_alloc])
  have HK0 := hide (fun (W : World) (hW : Below w1.heap.size w1 W) => ((HX0.out.below hW).cell 0 (v := .slice Ao no c) rfl).1)
  have lHX0 := HX0.out.lt
  have h5g : w.heap.size ≤ h5 := by omega
  rw [← hw1, hh5]
  clear hw1 hh5
  have p0 := HK0.out w1 (Below.refl _ _)
  have hadd : IntKind.i64.wrap ((no : Int) + 1) = (no : Int) + 1 := IntWalk.i64_in _ ⟨by omega, by omega⟩
  go_upto_region 3 with (go_at_call 11; (with_reducible refine (HRT.out w1 HB1.out).mono ?_); rintro e w2 ⟨rfl, hb2⟩; have HB2 := hide (HB1.out.trans (hb2.mono HB1.out.size)); have HC2 := hide hb2; have l2 := hb2.size; clear hb2)
  go_upto_region 4 with (fail)
  obtain ⟨w3, hw3⟩ : ∃ w3, w3 = w2.alloc (.cells #[.slice none 0 0] 26) := ⟨_, rfl⟩
  obtain ⟨h6, hh6⟩ : ∃ h6, w2.heap.size = h6 := ⟨_, rfl⟩
  have HNX0 := hide (show Box w3 (h6) #[.slice none 0 0] 26 by rw [hw3, ← hh6]; have t := Box.new w2 #[.slice none 0 0] 26; (try simp only [World.size_alloc] at t); exact t)
  have HB3 := hide (show Below w2.heap.size w2 w3 by rw [hw3]; exact ((Below.refl _ _).alloc (Nat.le_refl _) _))
  have w3s := HB3.out.size
  have w3z := hide (show w3.heap.size = h6 + 1 by rw [hw3, ← hh6]; simp only [World.size_alloc])
  have HNK0 := hide (fun (W : World) (hW : Below w3.heap.size w3 W) => ((HNX0.out.below hW).cell 0 (v := .slice none 0 0) rfl).1)
  have lHNX0 := HNX0.out.lt
  have h6g : w2.heap.size ≤ h6 := by omega
  rw [← hw3, hh6]
  clear hw3 hh6
  have HC3 := hide (HC2.out.trans (HB3.out.mono HC2.out.size))
  have p3 := HK0.out w3 HC3.out
  go_upto_region 5 with (fail)
  obtain ⟨bm, hbm⟩ : ∃ bm, w3.heap.size = bm := ⟨_, rfl⟩
  obtain ⟨w4, hw4⟩ : ∃ w4, w4 = (w3.alloc (.cells mc 4)).alloc (.cells #[.slice (some ⟨w3.heap.size, 0, none⟩) (no + 1) (no + 1)] 48) := ⟨_, rfl⟩
  have HM4 := hide (show MarkW w4 bm (no + 1) [] by unfold MarkW; rw [hw4, ← hbm, ← HMC.out]; exact (Box.new w3 mc 4).alloc _)
  have HX4 := hide (show Box w4 (bm + 1) #[.slice (some ⟨bm, 0, none⟩) (no + 1) (no + 1)] 48 by
    have t := Box.new (w3.alloc (.cells mc 4)) #[.slice (some ⟨w3.heap.size, 0, none⟩) (no + 1) (no + 1)] 48
    rw [World.size_alloc, ← hw4, hbm] at t
    exact t)
  have HB4 := hide (show Below w3.heap.size w3 w4 by rw [hw4]; exact ((Below.refl _ _).alloc (Nat.le_refl _) _).alloc (by simp only [World.size_alloc]; omega) _)
  have HR4 := hide (show RcM w4 w.heap.size h5 (bm + 1) h6 bm (no + 1) Ao no c [] from ⟨⟨by omega, by omega, by omega, by omega⟩, (HX0.out.below HC3.out).below HB4.out, HX4.out, HM4.out, none, 0, HNX0.out.below HB4.out, Ow.nil _ _ _ _⟩)
  have HW4 := hide (HB1.out.trans ((HC3.out.trans (HB4.out.mono HC3.out.size)).mono HB1.out.size))
  have hw4s := HW4.out.size
  rw [← hw4, hbm]
  clear hw4 hbm p3 hmake HMC hadd
  have HCM := hide (fun (N refs : List Int) (v : Value) (W : World) (hs : RcM W w.heap.size h5 (bm + 1) h6 bm (no + 1) Ao no c N) (hx : IntsV W (· < w.heap.size) v refs) (hN : N.Nodup) (hR : ∀ z ∈ N, 1 ≤ z ∧ z ≤ no) (hb : w.heap.size ≤ W.heap.size) => hcome_any w.heap.size h5 (bm + 1) h6 bm no c Ao N refs v W hs hx hN hR (by omega) hb)
  have HST := hide (RB.start h roots)
  rw [HNO.out] at HST
  have HCM1 := hide (HCM.out [] roots _ w4 HR4.out (HXK.out w4 HW4.out) (by simp) (by simp) hw4s)
  go_wp2_with (go_at_call 28; (with_reducible refine (HCM1.out).mono ?_); rintro e w5 ⟨rfl, hr5, hb5⟩; have HR5 := hide hr5; have HB5 := hide (HW4.out.trans hb5); clear hb5 hr5)
  go_loopw [8] (fun i wr => ∃ (k : Nat) (N : List Int), k ≤ N.length ∧ i = .int .i64 k ∧ Hid (RcM wr w.heap.size h5 (bm + 1) h6 bm (no + 1) Ao no c N) ∧ Hid (RB h roots k N) ∧ Below w.heap.size w wr) (fun i _ => no - (intOf i).toNat)
  case atStart => exact ⟨0, _, Nat.zero_le _, rfl, HR5, HST, HB5.out⟩
  case round =>
    obtain ⟨k, N, hk, rfl, HR, HRB, hbel⟩ := hrel
    obtain ⟨wo, rfl⟩ : ∃ wo, wo = wr := ⟨_, rfl⟩
    have hszo := hbel.size
    have HBEL := hide hbel
    clear hbel
    have hrr := HRB.out.rng
    rw [HNO.out] at hrr
    have HRNG := hide hrr
    have hnl : N.length ≤ no := nodup_le HRB.out.nod hrr
    clear hrr
    obtain ⟨hge, g1, g2, g3, A5, k5, g4, g5⟩ := HR.out
    obtain ⟨nl, hnl0⟩ : ∃ nl, N.length = nl := ⟨_, rfl⟩
    have HNL := hide hnl0
    rw [hnl0] at g4 g5 hk hnl
    have HG4 := hide g4
    have HO5 := hide g5
    have cn := (g4.cell 0 (v := .slice A5 nl k5) rfl).1
    have ln := g4.lt
    have ch := (g1.cell 0 (v := .slice Ao no c) rfl).1
    have lh := g1.lt
    by_cases hlt : k < nl
    case neg =>
      have HSO := hide (sortX_anyH (.slice A5 nl k5) N w.heap.size wo HO5.out (by have := HNL.out; omega))
      have hap : (Value.slice A5 nl k5).ownBlock ≠ some h6 := Ow.apart g5 g4 (by decide)
      have HAP := hide hap
      have HFI := hide (HIS2.out N k HRB.out (by have := HNL.out; omega))
      clear hge g1 g2 g3 g4 g5 hap hnl0
      go_wp2_with (go_at_call 30; (with_reducible refine (HSO.out).mono ?_); rintro e w6 ⟨rfl, ho6, hb6, hf6⟩; have HO6 := hide ho6; have HB6 := hide (HBEL.out.trans hb6); have cn6 := (Box.cell (show Box w6 h6 #[.slice A5 nl k5] 26 from (hf6 h6 ln HAP.out).trans HG4.out) 0 (v := .slice A5 nl k5) rfl).1; have ln6 : h6 < w6.heap.size := (by have := hb6.size; omega); clear ho6 hb6 hf6)
      go_ret
      exact ⟨_, _, rfl, HFI.out, HO6.out, HB6.out⟩
    obtain ⟨y, hy⟩ : ∃ y, N[k]? = some y := ⟨_, List.getElem?_eq_getElem (by have := HNL.out; omega)⟩
    have hyr := HRNG.out y (List.mem_of_getElem? hy)
    obtain ⟨q, rfl⟩ : ∃ q : Nat, y = (q : Int) + 1 := ⟨(y - 1).toNat, by omega⟩
    obtain ⟨g, cap, hv5, hg, hgl, hgc, hgm, hcell⟩ := HO5.out.form (by have := HNL.out; omega)
    injection hv5 with hv5a hv5b hv5c
    subst hv5a
    have cy := (hcell k (by have := HNL.out; omega)).1
    rw [show N.getD k 0 = (q : Int) + 1 by rw [List.getD_eq_getElem?_getD, hy]; rfl] at cy
    obtain ⟨o, ho⟩ : ∃ o, h[q]? = some o := ⟨_, List.getElem?_eq_getElem (by have := HNO.out; omega)⟩
    obtain ⟨bg, og, Af, cf, Ai, ci, hAo, hbgb, ⟨e0, e1⟩, hi⟩ := (HHK.out wo HBEL.out).get ho
    subst hAo
    have HSTP := hide (HRB.out.step hy (by rw [show ((q : Int) + 1 - 1).toNat = q by omega]; exact ho))
    rw [HNO.out] at HSTP
    have hbs : bg < wo.heap.size := by omega
    have HCMD := hide (HCM.out N o.refs (.slice Af o.refs.length cf) wo.drew (by have t := HR.out.below (below_drewN (Below.refl wo.heap.size wo) 1); exact t) (show IntsV wo.drew (· < w.heap.size) _ o.refs from hi.1.keep (S' := (· < w.heap.size)) (Same'.of_below ((below_drewN (Below.refl wo.heap.size wo) 1).mono (show B ≤ wo.heap.size by omega))) (fun b (hb : b < B) => by omega)) HRB.out.nod HRNG.out hszo)
    obtain ⟨rl, hrl⟩ : ∃ rl, o.refs.length = rl := ⟨_, rfl⟩
    rw [hrl] at HCMD e0
    have e1q := i64_pred q (by omega)
    have e2q : IntKind.i64.wrap (q : Int) = (q : Int) := IntWalk.i64_in _ ⟨by omega, by omega⟩
    have e3q : (q : Int) + 1 - 1 = (q : Int) := by omega
    have e4q : ((q : Int)).toNat = q := by omega
    have hki : (0 : Int) ≤ (k : Int) := by omega
    have hkl : (k : Int) < (nl : Int) := by omega
    have hq0 : (0 : Int) ≤ (q : Int) := by omega
    have hq1 : (q : Int) < (no : Int) := by omega
    clear hge g1 g2 g3 g4 g5 hcell hi ho hy e1 hyr hnl0 hrl hv5b
    go_wp2_with fail
    go_still_tail 11, (by kernel_rfl)
    change wpList _ _ _ _ _ wo.drew
    go_wp2_with (go_at_call 28; (with_reducible refine (HCMD.out).mono ?_); rintro e w6 ⟨rfl, hr6, hb6⟩; have HR6 := hide hr6; have HB6 := hide (HBEL.out.trans ⟨hb6.os, hb6.tape, hb6.output, hb6.size, hb6.block⟩); clear hb6 hr6)
    go_roundw
    case rel => exact ⟨k + 1, _, by obtain ⟨new, hnew⟩ := (comeL_spec no o.refs N HRB.out.nod HRNG.out).2.2.1; rw [hnew, List.length_append]; have := HNL.out; omega, by go_num, HR6, HSTP, HB6.out⟩
    case measure => simp [intOf]; omega
end Go.Proofs.Ytjlndibeaklcdaa
