/- The contract of the reference's Decode. No condition but that the bytes are bytes. -/
import Derived.Test.YtkimocfofihjbaaDoorRDp
import Derived.Test.YtkimocfofihjbaaDoorRIw
import Derived.Deep.Cut
set_option linter.unusedSimpArgs false
set_option linter.unusedVariables false
namespace Go.Proofs.YtkimocfofihjbaaDoor
open Go.RowKit

theorem OwC.alloc {β : Type} {c : β → List Value} {T : TypeId} {sz : Nat} {w : World} {base : Nat} {v : Value} {l : List β} (h : OwC c T sz w base v l) (o : Obj) : OwC c T sz (w.alloc o) base v l := World.ownsRow.alloc h o
theorem OwC.nth {w : World} {base n g cap : Nat} {l : List Int} (h : OwC intC 3 1 w base (.slice (some ⟨g, 0, none⟩) n cap) l) {j : Nat} {z : Int} (hj : l[j]? = some z) : w.cell? ⟨g, j, none⟩ = some (.int .i64 z) := by
  have hl : j < l.length := (List.getElem?_eq_some_iff.1 hj).1
  have h0 := h.ints
  obtain ⟨A, c, hv, -, -, hs⟩ := h0.sl
  cases hv
  obtain ⟨b, o, e, hb, hc⟩ := hs (by omega)
  cases e
  have := hc j hl
  rw [Nat.zero_add] at this
  rw [this]
  simp [List.getD, hj]
theorem belS {w w' : World} {g : Nat} (h : Read g w w') (hg : w.heap.size ≤ g) : Below w.heap.size w w' := ⟨h.os, h.tape, h.output, h.size, fun k hk => h.block k hk (by omega)⟩
theorem undrew {w w3 : World} {g B q : Nat} {t : St} (h : ReadTr (w.drewN q) g B t w3) : ReadTr w g B t w3 := ⟨h.rs, ⟨h.read.os, h.read.tape, h.read.output, h.read.size, h.read.block⟩⟩
theorem cnt_err0 {lo hi : Int} {s : St} (h : (cntT lo hi s).2.2 ≠ 0) : (cntT lo hi s).1 = 0 := by
  unfold cntT onlyT at h ⊢
  split
  · rename_i h0
    rw [if_pos h0] at h
    split
    · rename_i h1
      rw [if_pos h1] at h
      exact absurd h0 h
    · rfl
  · rfl
theorem only2_R {s : St} (h : Byt s) : 0 ≤ (onlyT (limB 0 2) 5 s).1 ∧ (onlyT (limB 0 2) 5 s).1 ≤ 2 := by
  have hn := numT_R h
  unfold onlyT
  split
  · split
    · rename_i h1
      unfold limB at h1
      simp only [Bool.and_eq_true, decide_eq_true_eq] at h1
      exact h1
    · exact ⟨by simp, by simp⟩
  · exact ⟨by simp, by simp⟩
theorem DecA.yes {W w' : World} {zs : List Int} {v : Value} {l : List FunV} (h : decR zs = (l, 0)) (hv : FunsV w' (· < w'.heap.size) v l) (hb : Below W.heap.size W w') : DecA W zs (.returned (.tuple #[.agg #[v], .int .i64 0])) w' :=
  ⟨v, by rw [h]; rfl, by rw [h]; exact hv, hb⟩
/-- The end with an error. -/
theorem decR_err {zs : List Int} {t : St} {l : List FunV} (h : AnsT (progT (zs, 0)) l t) (he : t.2 ≠ 0) : decR zs = ([], t.2) := by
  rw [decR_of h]
  have : endE t = t.2 := by unfold endE; rw [if_neg (fun hh => he hh.1)]
  rw [this, if_neg he]
theorem decR_tail {zs : List Int} {t : St} {l : List FunV} (h : AnsT (progT (zs, 0)) l t) (he : t.2 = 0) (hl : 0 < t.1.length) : decR zs = ([], 11) := by
  rw [decR_of h]
  have : endE t = 11 := by unfold endE; rw [if_pos ⟨he, hl⟩]
  rw [this]; rfl
theorem decR_ok {zs : List Int} {t : St} {l : List FunV} (h : AnsT (progT (zs, 0)) l t) (he : t.2 = 0) (hl : ¬ 0 < t.1.length) : decR zs = (l, 0) := by
  rw [decR_of h]
  have : endE t = 0 := by unfold endE; rw [if_neg (fun hh => hl hh.2)]; exact he
  rw [this]; rfl
theorem RSr.see0 {w : World} {g B : Nat} {s : St} (h : RSr w g B s) : ∃ A c, w.cell? ⟨g, 0, none⟩ = some (.slice A s.1.length c) := by
  obtain ⟨A, c, hb, -⟩ := h
  exact ⟨A, c, (hb.cell 0 rfl).1⟩
set_option maxHeartbeats 4000000 in
set_option maxRecDepth 100000 in
theorem rdecode_any (A : Option Addr) (n c : Nat) (zs : List Int) (w : World) (hr : Sl w w.heap.size .u8 A zs) (hn : zs.length = n) (hc : n ≤ c) (hmax : c ≤ 9223372036854775807) (hby : ∀ z ∈ zs, 0 ≤ z ∧ z ≤ 255) :
    Calls Tryd.prog 6 #[.slice A n c] w (DecA w zs) := by
  have hbz : Byt (zs, 0) := hby
  have hone := cnt_one1 hbz
  have HAN0 := hide (fun (l : List FunV) (t : St) (h : AnsT (manyT funT (cntT 1 8 (zs, 0)).1.toNat (cntT 1 8 (zs, 0)).2) l t) => progT_of h)
  have hcR := cntT_R (lo := 0) (hi := 8) hbz (by omega)
  have her := cnt_err0 (lo := 0) (hi := 8) (s := (zs, 0))
  rw [hone.1, hone.2] at HAN0
  have HU := hide (fun (W : World) (g B : Nat) (h : RSr W g B (zs, 0)) => (show Calls Tryd.prog 13 #[.pointer (some ⟨g, 0, none⟩), .int .i64 8, .int .i64 9] W (fun e w' => e = .returned (.int .i64 (cntT 0 8 (zs, 0)).1) ∧ ReadTr W g B (cntT 0 8 (zs, 0)).2 w') from rdupto_any g B 9 8 9 8 rfl (by omega) rfl (zs, 0) W h))
  obtain ⟨m, hm⟩ : ∃ m : Nat, (cntT 0 8 (zs, 0)).1 = (m : Int) := ⟨(cntT 0 8 (zs, 0)).1.toNat, by omega⟩
  obtain ⟨tc, htc⟩ : ∃ tc, (cntT 0 8 (zs, 0)).2 = tc := ⟨_, rfl⟩
  rw [hm, htc] at HAN0 HU
  rw [hm] at hcR
  rw [hm, htc] at her
  have hm8 : m ≤ 8 := by omega
  rw [show ((m : Int).toNat) = m by omega] at HAN0
  have HRS0 := hide (fun (W : World) (g : Nat) (hb : Below w.heap.size w W) (hx : Box W g #[.slice A n c, .int .i64 0] 53) (hg : w.heap.size ≤ g) => (show RSr W g w.heap.size (zs, 0) from ⟨A, c, by subst hn; exact hx, hr.below hb, by show zs.length ≤ c; omega, hmax, hby, hg⟩))
  clear hone hm htc hr hn hby hbz hcR
  go_enter Tryd.func6, Tryd.ntmps6
  go_upto_region 3 with (fail)
  obtain ⟨w1, hw1⟩ : ∃ w1, w1 = ((w.alloc (.cells #[.slice none 0 0] 26)).alloc (.cells #[.slice A n c, .int .i64 0] 53)).alloc (.cells #[.slice none 0 0] 26) := ⟨_, rfl⟩
  obtain ⟨h5, hh5⟩ : ∃ h5, w.heap.size = h5 := ⟨_, rfl⟩
  have HX0 := hide (show Box w1 (h5) #[.slice none 0 0] 26 by rw [hw1, ← hh5]; have t := Box.new w #[.slice none 0 0] 26; (try simp only [World.size_alloc] at t); exact ((t.alloc _).alloc _))
  have HX1 := hide (show Box w1 (h5 + 1) #[.slice A n c, .int .i64 0] 53 by rw [hw1, ← hh5]; have t := Box.new (w.alloc (.cells #[.slice none 0 0] 26)) #[.slice A n c, .int .i64 0] 53; (try simp only [World.size_alloc] at t); exact (t.alloc _))
  have HX2 := hide (show Box w1 (h5 + 1 + 1) #[.slice none 0 0] 26 by rw [hw1, ← hh5]; have t := Box.new ((w.alloc (.cells #[.slice none 0 0] 26)).alloc (.cells #[.slice A n c, .int .i64 0] 53)) #[.slice none 0 0] 26; (try simp only [World.size_alloc] at t); exact t)
  have HB1 := hide (show Below w.heap.size w w1 by rw [hw1]; exact ((((Below.refl _ _).alloc (Nat.le_refl _) _).alloc (by simp only [World.size_alloc]; omega) _).alloc (by simp only [World.size_alloc]; omega) _))
  have w1s := HB1.out.size
  have w1z := hide (show w1.heap.size = h5 + 1 + 1 + 1 by rw [hw1, ← hh5]; simp only [World.size_alloc])
  have HK0 := hide (fun (W : World) (hW : Below w1.heap.size w1 W) => ((HX0.out.below hW).cell 0 (v := .slice none 0 0) rfl).1)
  have lHX0 := HX0.out.lt
  have HK1 := hide (fun (W : World) (hW : Below w1.heap.size w1 W) => (And.intro ((HX1.out.below hW).cell 0 (v := .slice A n c) rfl).1 ((HX1.out.below hW).cell 1 (v := .int .i64 0) rfl).1))
  have lHX1 := HX1.out.lt
  have HK2 := hide (fun (W : World) (hW : Below w1.heap.size w1 W) => ((HX2.out.below hW).cell 0 (v := .slice none 0 0) rfl).1)
  have lHX2 := HX2.out.lt
  have h5g : w.heap.size ≤ h5 := by omega
  rw [← hw1, hh5]
  clear hw1 hh5
  obtain ⟨g, hg⟩ : ∃ g, h5 + 1 = g := ⟨_, rfl⟩
  obtain ⟨hp, hhp⟩ : ∃ hp, g + 1 = hp := ⟨_, rfl⟩
  obtain ⟨B, hB⟩ : ∃ B, B = w.heap.size := ⟨_, rfl⟩
  have HBX1 := hide HX0.out
  have HRS1 := hide (show RSr w1 g B (zs, 0) by rw [← hg, hB]; exact HRS0.out w1 (h5 + 1) HB1.out HX1.out (by omega))
  have HXP1 := hide (show XPo w1 hp (.slice none 0 0) [] by rw [← hhp, ← hg]; exact ⟨HX2.out, OwC.nil _ _, fun _ h => by cases h⟩)
  have HRD1 := hide (show Read g w w1 from ⟨HB1.out.os, HB1.out.tape, HB1.out.output, HB1.out.size, fun k hk _ => HB1.out.block k hk⟩)
  have hBle : B ≤ g := by omega
  have hgp : g < hp := by omega
  have h5gl : h5 < g := by omega
  have HU1 := hide (HU.out w1 g B HRS1.out)
  have hw1p : hp < w1.heap.size := by omega
  rw [hg, hhp]
  clear hg hhp HK0 HK1 HK2 HX0 HX1 HX2 HB1 HRS0 HU lHX0 lHX1 lHX2 w1z hB
  by_cases hA : tc.2 = 0 ∧ m = 0
  · obtain ⟨hA1, rfl⟩ := hA
    have HAN := hide (HAN0.out [] (tc.1, 9) (by rw [if_pos ⟨hA1, rfl⟩]; exact ⟨rfl, fun _ => rfl⟩))
    have HV := hide (decR_err HAN.out (by simp))
    clear HAN0 HAN
    go_wp2_with (go_at_call 13; refine HU1.out.mono ?_; rintro e w2 ⟨rfl, hr2⟩; obtain ⟨e1, e2⟩ := hr2.rs.see; rw [hA1] at e1; have HF := hide (show ReadTr w2 g B (tc.1, 9) (w2.setCell ⟨g, 1, none⟩ (.int .i64 9)) from hr2.rs.fail (E := 9)); have glt := hr2.rs.lt; have HBX := hide (hr2.read.box HBX1.out (by omega)); have HRD := hide (HRD1.out.trans hr2.read); clear hr2)
    go_loopw [7] (fun i wr => i = .int .i64 0 ∧ wr = w2.setCell ⟨g, 1, none⟩ (.int .i64 9)) (fun i _ => 0)
    case atStart => exact ⟨rfl, rfl⟩
    case round =>
      obtain ⟨rfl, rfl⟩ := hrel
      have HBX' := hide (HF.out.read.box HBX.out (by omega))
      have HBEL := hide (belS (HRD.out.trans HF.out.read) (by omega))
      obtain ⟨e3, e4⟩ := HF.out.rs.see
      obtain ⟨x0, x1⟩ := HBX'.out.cell 0 (v := .slice none 0 0) rfl
      have xl := HBX'.out.lt
      obtain ⟨wr, hwr⟩ : ∃ W, w2.setCell ⟨g, 1, none⟩ (.int .i64 9) = W := ⟨_, rfl⟩
      rw [hwr] at HBEL x0 x1 xl e3 e4
      rw [hwr]
      have e3' : wr.cell? ⟨g, 1, none⟩ = some (.int .i64 9) := e3
      clear e1 e2 HF HBX' HBX HRD hwr e3
      go_wp2
      go_region
      all_goals
        go_wp2
        refine bodyPost_ret (v := .tuple #[.agg #[.slice none 0 0], .int .i64 9]) (by simp [results, Tryd.results6, go_sem, x0, xl]) rfl (DecA.no HV.out ?_)
        exact (HBEL.out.setCell (p := ⟨h5, 0, none⟩) (by show w.heap.size ≤ h5; omega) _).drew
  have HAN1 := hide (show ∀ l t, AnsT (manyT funT m tc) l t → AnsT (progT (zs, 0)) l t from fun l t h => HAN0.out l t (by rw [if_neg (fun hh => hA ⟨hh.1, by omega⟩)]; exact h))
  clear HAN0
  by_cases hE : tc.2 = 0
  case neg =>
    have hm0 : m = 0 := by have := her hE; omega
    subst hm0
    have HAN := hide (HAN1.out [] tc ⟨rfl, fun _ => rfl⟩)
    have HV := hide (decR_err HAN.out hE)
    have hEb : ((tc.2 : Int) == 0) = false := by simp; omega
    have hEb2 : ((tc.2 : Int) != 0) = true := by simp; omega
    clear HAN1 HAN hA her
    go_wp2_with (go_at_call 13; refine HU1.out.mono ?_; rintro e w2 ⟨rfl, hr2⟩; obtain ⟨e1, e2⟩ := hr2.rs.see; have glt := hr2.rs.lt; have hbx := (hr2.read.box HBX1.out (by omega)); obtain ⟨x0, x1⟩ := hbx.cell 0 (v := .slice none 0 0) rfl; have xl := hbx.lt; have HBEL := hide (belS (HRD1.out.trans hr2.read) (by omega)); clear hr2 hbx)
    generalize tc.2 = te at *
    go_loopw [7] (fun i wr => i = .int .i64 0 ∧ wr = w2) (fun i _ => 0)
    case atStart => exact ⟨rfl, rfl⟩
    case round =>
      obtain ⟨rfl, rfl⟩ := hrel
      go_wp2
      go_region
      all_goals
        go_wp2
        refine bodyPost_ret (v := .tuple #[.agg #[.slice none 0 0], .int .i64 te]) (by simp [results, Tryd.results6, go_sem, x0, xl]) rfl (DecA.no HV.out ?_)
        exact (HBEL.out.setCell (p := ⟨h5, 0, none⟩) (by show w.heap.size ≤ h5; omega) _).drew
  have hmp : ((m : Int) == 0) = false := by
    have : m ≠ 0 := fun h => hA ⟨hE, h⟩
    simp; omega
  have hET : ((tc.2 : Int)) = 0 := by omega
  clear her hA
  go_wp2_with (go_at_call 13; refine HU1.out.mono ?_; rintro e w2 ⟨rfl, hr2⟩; obtain ⟨e1, e2⟩ := hr2.rs.see; rw [hET] at e1; have HR2 := hide hr2; clear hr2)
  have HBX2 := hide (HR2.out.read.box HBX1.out (by omega))
  have HXP2 := hide (HXP1.out.read HR2.out.read hgp)
  have HRD2 := hide (HRD1.out.trans HR2.out.read)
  have HRS2 := hide HR2.out.rs
  clear HR2 HBX1 HXP1 HRD1 HRS1 HU1 e1 e2 hmp hET hE
  go_loopw [7] (fun i wr => ∃ (k : Nat) (l : List FunV) (t : St) (v : Value) (ys : List (FunV × Value × Value × Value)), k ≤ m ∧ i = .int .i64 k ∧ Hid (UpTo funT k tc l t) ∧ Hid (XPo wr hp v ys) ∧ Hid (ys.map (·.1) = l) ∧ Hid (RSr wr g B t) ∧ Hid (Read g w wr) ∧ Hid (Box wr h5 #[.slice none 0 0] 26)) (fun i _ => m - (intOf i).toNat)
  case atStart => exact ⟨0, [], tc, .slice none 0 0, [], Nat.zero_le _, rfl, hide (UpTo.zero _ _), HXP2, hide rfl, HRS2, HRD2, HBX2⟩
  case round =>
    obtain ⟨k, l, t, v, ys, hk, rfl, HUP, HXP, HYL, HRS, HRD, HBX⟩ := hrel
    clear HXP2 HRS2 HRD2 HBX2
    obtain ⟨Av, cv, rfl, hnc, hcm⟩ := HXP.out.own.sl
    obtain ⟨nv, hnv⟩ : ∃ n, ys.length = n := ⟨_, rfl⟩
    have HNV := hide hnv
    have hnk : ys.length = k := by
      have h1 := HUP.out.1
      rw [← HYL.out, List.length_map] at h1
      exact h1
    have hnv8 : nv ≤ 8 := by omega
    rw [hnv] at HXP hnc
    by_cases hend : k < m ∧ t.2 = 0
    case neg =>
      have HAN := hide (HAN1.out l t (HUP.out.stop funT_keep hk (by
        by_cases h1 : k = m
        · exact .inl h1
        · exact .inr (fun h2 => hend ⟨by omega, h2⟩))))
      clear HAN1 HUP hnv hnk
      by_cases hkm : (k : Int) < (m : Int)
      · have het : ¬ t.2 = 0 := fun h => hend ⟨by omega, h⟩
        clear hend
        obtain ⟨e1, e2⟩ := HRS.out.see
        obtain ⟨Ae, ce, e3⟩ := HRS.out.see0
        obtain ⟨x0, x1⟩ := HBX.out.cell 0 (v := .slice none 0 0) rfl
        have xl := HBX.out.lt
        have glt := HRS.out.lt
        have HBEL := hide (belS HRD.out (by omega))
        have HV := hide (decR_err HAN.out het)
        have hEb : ((t.2 : Int) == 0) = false := by simp; omega
        have hEb2 : ((t.2 : Int) != 0) = true := by simp; omega
        generalize t.2 = te at *
        go_wp2
        go_region
        all_goals
          go_wp2
          refine bodyPost_ret (v := .tuple #[.agg #[.slice none 0 0], .int .i64 te]) (by simp [results, Tryd.results6, go_sem, x0, xl]) rfl (DecA.no HV.out ?_)
          exact (HBEL.out.setCell (p := ⟨h5, 0, none⟩) (by show w.heap.size ≤ h5; omega) _).drew
      · clear hend
        obtain ⟨e1, e2⟩ := HRS.out.see
        obtain ⟨Ae, ce, e3⟩ := HRS.out.see0
        obtain ⟨x0, x1⟩ := HBX.out.cell 0 (v := .slice none 0 0) rfl
        have xl := HBX.out.lt
        have glt := HRS.out.lt
        have HBEL := hide (belS HRD.out (by omega))
        by_cases het : t.2 = 0
        · have e1' : wr.cell? ⟨g, 1, none⟩ = some (.int .i64 0) := by rw [e1, het]; rfl
          clear e1
          by_cases hel : 0 < t.1.length
          · have HV := hide (decR_tail HAN.out het hel)
            have hel' : (0 : Int) < (t.1.length : Int) := by omega
            generalize t.1.length = tl at *
            go_wp2
            go_region
            all_goals
              go_wp2
              refine bodyPost_ret (v := .tuple #[.agg #[.slice none 0 0], .int .i64 11]) (by simp [results, Tryd.results6, go_sem, x0, xl]) rfl (DecA.no HV.out ?_)
              exact ((HBEL.out.setCell (p := ⟨g, 1, none⟩) (by show w.heap.size ≤ g; omega) (.int .i64 11)).setCell (p := ⟨h5, 0, none⟩) (by show w.heap.size ≤ h5; omega) _).drew
          · have HV := hide (decR_ok HAN.out het hel)
            have hel' : ¬ (0 : Int) < (t.1.length : Int) := by omega
            obtain ⟨y0, y1⟩ := HXP.out.box.cell 0 rfl
            have yl := HXP.out.box.lt
            generalize t.1.length = tl at *
            go_wp2
            refine bodyPost_ret (v := .tuple #[.agg #[.slice Av nv cv], .int .i64 0]) (by simp [results, Tryd.results6, go_sem, x0, xl]) rfl (DecA.yes HV.out ?_ ?_)
            · have hv := HXP.out.vec (S := fun b => hp < b ∧ b < wr.heap.size) (fun b h1 h2 => ⟨h1, h2⟩)
              rw [HYL.out] at hv
              exact hv.keep (same_set' (fun b hb => by omega)) (fun b hb => by rw [World.size_setCell]; exact hb.2)
            · exact HBEL.out.setCell (p := ⟨h5, 0, none⟩) (by show w.heap.size ≤ h5; omega) _
        · have HV := hide (decR_err HAN.out het)
          have hEb : ((t.2 : Int) == 0) = false := by simp; omega
          have hEb2 : ((t.2 : Int) != 0) = true := by simp; omega
          generalize t.2 = te at *
          go_wp2
          go_region
          all_goals
            go_wp2
            refine bodyPost_ret (v := .tuple #[.agg #[.slice none 0 0], .int .i64 te]) (by simp [results, Tryd.results6, go_sem, x0, xl]) rfl (DecA.no HV.out ?_)
            exact (HBEL.out.setCell (p := ⟨h5, 0, none⟩) (by show w.heap.size ≤ h5; omega) _).drew
    obtain ⟨hkl, ht0⟩ := hend
    clear hnv hnk
    obtain ⟨wo, rfl⟩ : ∃ wo, wo = wr := ⟨_, rfl⟩
    have hki : (k : Int) < (m : Int) := by omega
    obtain ⟨e1, e2⟩ := HRS.out.see
    rw [ht0] at e1
    have e1' : wo.cell? ⟨g, 1, none⟩ = some (.int .i64 0) := e1
    have glt := HRS.out.lt
    have hpl := HXP.out.box.lt
    have hby := HRS.out.byt
    have HBY := hide hby
    have hcR := cntT_R (lo := 0) (hi := 48) hby (by omega)
    have HV := hide (fun (W : World) (h : RSr W g B t) => (show Calls Tryd.prog 13 #[.pointer (some ⟨g, 0, none⟩), .int .i64 48, .int .i64 9] W (fun e w' => e = .returned (.int .i64 (cntT 0 48 t).1) ∧ ReadTr W g B (cntT 0 48 t).2 w') from rdupto_any g B 9 48 9 48 rfl (by omega) rfl t W h))
    have HVT := hide (fun (vs : List (Int × Int)) (t' : St) (h : AnsT (manyT varT (cntT 0 48 t).1.toNat (cntT 0 48 t).2) vs t') => varsT_of h)
    obtain ⟨m1, hm1⟩ : ∃ m1 : Nat, (cntT 0 48 t).1 = (m1 : Int) := ⟨(cntT 0 48 t).1.toNat, by omega⟩
    rw [hm1] at HV HVT hcR
    rw [show ((m1 : Int).toNat) = m1 by omega] at HVT
    have hm48 : m1 ≤ 48 := by omega
    clear e1 hby hcR hm1
    generalize (cntT 0 48 t).2 = s1 at *
    go_upto_region 10 with (fail)
    obtain ⟨hf, hhf⟩ : ∃ hf, wo.heap.size = hf := ⟨_, rfl⟩
    obtain ⟨wa, hwa⟩ : ∃ wa, wo.alloc (.cells #[.slice none 0 0, .slice none 0 0, .int .i64 0, .int .i64 0, .slice none 0 0] 38) = wa := ⟨_, rfl⟩
    have HXVa := hide (show XVo wa hf 0 0 (.slice none 0 0) (.slice none 0 0) [] [] by rw [← hwa, ← hhf]; exact XVo.new wo)
    have HRDa := hide (show Read g wo wa by rw [← hwa]; exact (Read.refl g wo).alloc _)
    have HRSa := hide (show RSr wa g B t by rw [← hwa]; exact HRS.out.alloc _)
    have hgf : g < hf := by omega
    have hpf : hp < hf := by omega
    have HHF := hide hhf
    rw [hwa, hhf]
    clear hwa hhf
    go_wp2_with (go_at_call 13; refine (HV.out wa HRSa.out).mono ?_; rintro e wb ⟨rfl, hrb⟩; have HXVb := hide (HXVa.out.read hrb.read hgf); have HRDb := hide (HRDa.out.trans hrb.read); have HRSb := hide hrb.rs; clear hrb)
    clear HXVa HRDa HRSa HV e1' e2
    go_loopw [9] (fun i wr => ∃ (j : Nat) (lv : List (Int × Int)) (t1 : St) (vk vb : Value) (ks bs : List Int), j ≤ m1 ∧ i = .int .i64 ((m1 - j : Nat) : Int) ∧ Hid (UpTo varT j s1 lv t1) ∧ Hid (lv.map (·.1) = ks) ∧ Hid (lv.map (·.2) = bs) ∧ Hid (XVo wr hf 0 0 vk vb ks bs) ∧ Hid (RSr wr g B t1) ∧ Hid (Read g wo wr)) (fun i _ => (intOf i).toNat)
    case atStart => exact ⟨0, [], s1, .slice none 0 0, .slice none 0 0, [], [], Nat.zero_le _, by simp, hide (UpTo.zero _ _), hide rfl, hide rfl, HXVb, HRSb, HRDb⟩
    case round =>
      obtain ⟨j, lv, t1, vk, vb, ks, bs, hj, rfl, HUV, HLK, HLB, HXV, HRV, HRW⟩ := hrel
      clear HXVb HRSb HRDb
      obtain ⟨Ak, ck, rfl, hnk, hck⟩ := HXV.out.ownk.sl
      obtain ⟨Ab, cb, rfl, hnb, hcb⟩ := HXV.out.ownb.sl
      obtain ⟨nk, hnk2⟩ : ∃ n, ks.length = n := ⟨_, rfl⟩
      obtain ⟨nb, hnb2⟩ : ∃ n, bs.length = n := ⟨_, rfl⟩
      have HNK := hide hnk2
      have HNB := hide hnb2
      have hnk48 : nk ≤ 48 := by
        have h1 := HUV.out.1
        have h2 := congrArg List.length HLK.out
        rw [List.length_map] at h2
        omega
      have hnb48 : nb ≤ 48 := by
        have h1 := HUV.out.1
        have h2 := congrArg List.length HLB.out
        rw [List.length_map] at h2
        omega
      rw [hnk2] at HXV
      rw [hnb2] at HXV
      clear hnk hnb hck hcb hnk2 hnb2
      have glt1 := HRV.out.lt
      have hfl := HXV.out.box.lt
      obtain ⟨ww, rfl⟩ : ∃ ww, ww = wr := ⟨_, rfl⟩
      by_cases hjl : j < m1 ∧ t1.2 = 0
      case pos =>
        obtain ⟨hjl1, ht10⟩ := hjl
        have hij : (0 : Int) < ((m1 - j : Nat) : Int) := by omega
        obtain ⟨e1, e2⟩ := HRV.out.see
        rw [ht10] at e1
        have e1' : ww.cell? ⟨g, 1, none⟩ = some (.int .i64 0) := e1
        have hby1 := HRV.out.byt
        have HN := hide (rdupto_any g B 5 2 5 2 rfl (by omega) rfl t1 (ww.drewN 1) (HRV.out.drewN 1))
        have hR2 := only2_R hby1
        have HVT1 := hide (varT_of hby1)
        generalize onlyT (limB 0 2) 5 t1 = q at *
        obtain ⟨kd, tk⟩ := q
        simp only at hR2
        have hkdR : i64R kd := ⟨by omega, by omega⟩
        have HKD := hide hkdR
        obtain ⟨b0, z0⟩ := HXV.out.box.cell 0 (v := .slice Ak nk ck) rfl
        obtain ⟨i0, hi0, iz0, iz1, iz2⟩ := info_parts info_i64
        have HI0 := hide hi0
        clear e1 hby1 hi0 hkdR
        go_upto_region 13 with (fail)
        go_region_law
          (first
            | (refine step_append_cn (w3.alloc (.cells #[.int .i64 kd] 3)) (by rfl) _ _ _ (by rfl) (hf + 1) i0 _ 8 Tryd.underlying35 HI0.out iz0 iz1 iz2 rfl (by omega) (by omega) (.slice Ak nk ck) ks nk HNK.out (by rfl) (HXV3.out.ownk.alloc _) kd rfl (by simp [intC, Value.oneCell']) w3.heap.size #[.int .i64 kd] (Box.new w3 _ _) rfl (by rfl) (by omega) (by simp only [World.size_alloc]; omega) ?_; intro g5 cap5 w5 ho5 hg5 hgg hlt5; have HXV5 := hide (HXV3.out.appK HKD.out (below1 w3 _) hg5 ho5 (hv5_of (below1 w3 _) hgg)); have HRS5 := hide (apd_rs (j := 0) (v5 := .slice (some ⟨g5, 0, none⟩) (nk + 1) cap5) HR3.out.rs hgf HXV3.out.box HXV3.out.ownk (below1 w3 _) hg5); have HRD5 := hide (apd_read (j := 0) (v5 := .slice (some ⟨g5, 0, none⟩) (nk + 1) cap5) (HRW.out.trans HR3.out.read) HXV3.out.box HXV3.out.ownk (below1 w3 _) hg5 (by have := HHF.out; omega)); have f5 := (HXV3.out.box.belowB (apd_below HXV3.out.box HXV3.out.ownk (below1 w3 _) hg5) (by omega)).cell 0 (v := .slice Ak nk ck) rfl; obtain ⟨f7, f8⟩ := f5; have HG5 := hide hg5; have HO5 := hide ho5; have f9 := (HXV3.out.box.belowB (apd_below HXV3.out.box HXV3.out.ownk (below1 w3 _) hg5) (by omega)).lt; have HGG := hide hgg; clear hg5 ho5 hgg)
            | (rw [if_pos (by rfl)]; go_simp; go_at_call 13; refine HN.out.mono ?_; rintro e w3 ⟨rfl, hr3'⟩; have hr3 := undrew hr3'; have HR3 := hide hr3; have hx3 := HXV.out.read hr3.read hgf; have HXV3 := hide hx3; have q6 := (hx3.box.cell 0 (v := .slice Ak nk ck) rfl).1; have q7 := ((hx3.box.alloc (.cells #[.int .i64 kd] 3)).cell 0 (v := .slice Ak nk ck) rfl).1; have q8 := hx3.box.lt; have hz3 := hr3.read.size; clear hr3 hr3' hx3))
        all_goals
          have hgl5 : g5 ≠ hf := fun e => by have := (HXV5.out.ownk.lt g5 rfl).1; omega
          obtain ⟨wc, hwc⟩ : ∃ W, w5.setCell ⟨hf, 0, none⟩ (.slice (some ⟨g5, 0, none⟩) (nk + 1) cap5) = W := ⟨_, rfl⟩
          rw [hwc] at HXV5 HRS5 HRD5
          clear q6 q7 q8 f9 b0 z0
          go_upto_region 14 with (fail)
          rw [hwc]
          clear f7 f8 hwc
          obtain ⟨b0, z0⟩ := HXV5.out.box.cell 0 (v := .slice (some ⟨g5, 0, none⟩) (nk + 1) cap5) rfl
          obtain ⟨b1, z1⟩ := HXV5.out.box.cell 1 (v := .slice Ab nb cb) rfl
          have hfl5 := HXV5.out.box.lt
          have hg5l := (HXV5.out.ownk.lt g5 rfl).2
          have b2 : wc.cell? ⟨g5, nk, none⟩ = some (.int .i64 kd) := OwC.nth HXV5.out.ownk (by rw [List.getElem?_append_right (by have := HNK.out; omega), HNK.out]; simp)
          have HI0 := hide HI0.out
          by_cases hk2 : kd = 2
          · subst hk2
            have HM := hide (rdnum_any g B tk wc HRS5.out)
            have hmR := numT_i64 HRS5.out.byt
            generalize numT tk = qq at *
            obtain ⟨bv, tb⟩ := qq
            have HBR := hide hmR
            clear hmR
            go_wp2_with (first
              | (at_builtin; refine wpList_append_c (w6.alloc (.cells #[.int .i64 bv] 3)) (by rfl) _ _ _ (by rfl) (hf + 1) i0 _ 8 Tryd.underlying35 HI0.out iz0 iz1 iz2 rfl (by omega) (by omega) (.slice Ab nb cb) bs nb HNB.out (by rfl) (HXV6.out.ownb.alloc _) bv rfl (by simp [intC, Value.oneCell']) w6.heap.size #[.int .i64 bv] (Box.new w6 _ _) rfl (by rfl) (by omega) (by simp only [World.size_alloc]; omega) ?_; intro g7 cap7 w7 ho7 hg7 hgg7 hlt7; have HXV7 := hide (HXV6.out.appB HBR.out (below1 w6 _) hg7 ho7 (hv5_of (below1 w6 _) hgg7)); have HRS7 := hide (apd_rs (j := 1) (v5 := .slice (some ⟨g7, 0, none⟩) (nb + 1) cap7) HR6.out.rs hgf HXV6.out.box HXV6.out.ownb (below1 w6 _) hg7); have HRD7 := hide (apd_read (j := 1) (v5 := .slice (some ⟨g7, 0, none⟩) (nb + 1) cap7) (HRD5.out.trans HR6.out.read) HXV6.out.box HXV6.out.ownb (below1 w6 _) hg7 (by have := HHF.out; omega)); have f5 := (HXV6.out.box.belowB (apd_below HXV6.out.box HXV6.out.ownb (below1 w6 _) hg7) (by omega)).cell 1 (v := .slice Ab nb cb) rfl; obtain ⟨f7, f8⟩ := f5; have f9 := (HXV6.out.box.belowB (apd_below HXV6.out.box HXV6.out.ownb (below1 w6 _) hg7) (by omega)).lt; clear hg7 ho7 hgg7)
              | (go_at_call 14; refine HM.out.mono ?_; rintro e w6 ⟨rfl, hr6⟩; have HR6 := hide hr6; have hx6 := HXV5.out.read hr6.read hgf; have HXV6 := hide hx6; have q6 := (hx6.box.cell 1 (v := .slice Ab nb cb) rfl).1; have q7 := ((hx6.box.alloc (.cells #[.int .i64 bv] 3)).cell 1 (v := .slice Ab nb cb) rfl).1; have q8 := hx6.box.lt; have hz6 := hr6.read.size; clear hr6 hx6))
            go_roundw
            case rel => exact ⟨j + 1, lv ++ [(2, bv)], tb, _, _, ks ++ [2], bs ++ [bv], hjl1, by go_num, hide (HUV.out.step varT_keep (by rw [HVT1.out]; exact ⟨rfl, fun _ => rfl⟩)), hide (by rw [List.map_append, HLK.out]; rfl), hide (by rw [List.map_append, HLB.out]; rfl), HXV7, HRS7, HRD7⟩
            case measure => simp [intOf]; omega
          · have hk2b : (kd == 2) = false := by simpa using hk2
            have HVT2 := hide (show varT t1 = ((kd, -1), tk) by rw [HVT1.out]; exact if_neg hk2)
            go_wp2_with (first
              | (at_builtin; refine wpList_append_c (wc.alloc (.cells #[.int .i64 (-1)] 3)) (by rfl) _ _ _ (by rfl) (hf + 1) i0 _ 8 Tryd.underlying35 HI0.out iz0 iz1 iz2 rfl (by omega) (by omega) (.slice Ab nb cb) bs nb HNB.out (by rfl) (HXV5.out.ownb.alloc _) (-1) rfl (by simp [intC, Value.oneCell']) wc.heap.size #[.int .i64 (-1)] (Box.new wc _ _) rfl (by rfl) (by omega) (by simp only [World.size_alloc]; omega) ?_; intro g7 cap7 w7 ho7 hg7 hgg7 hlt7; have HXV7 := hide (HXV5.out.appB ⟨by omega, by omega⟩ (below1 wc _) hg7 ho7 (hv5_of (below1 wc _) hgg7)); have HRS7 := hide (apd_rs (j := 1) (v5 := .slice (some ⟨g7, 0, none⟩) (nb + 1) cap7) HRS5.out hgf HXV5.out.box HXV5.out.ownb (below1 wc _) hg7); have HRD7 := hide (apd_read (j := 1) (v5 := .slice (some ⟨g7, 0, none⟩) (nb + 1) cap7) HRD5.out HXV5.out.box HXV5.out.ownb (below1 wc _) hg7 (by have := HHF.out; omega)); have f5 := (HXV5.out.box.belowB (apd_below HXV5.out.box HXV5.out.ownb (below1 wc _) hg7) (by omega)).cell 1 (v := .slice Ab nb cb) rfl; obtain ⟨f7, f8⟩ := f5; have f9 := (HXV5.out.box.belowB (apd_below HXV5.out.box HXV5.out.ownb (below1 wc _) hg7) (by omega)).lt; clear hg7 ho7 hgg7))
            go_roundw
            case rel => exact ⟨j + 1, lv ++ [(kd, -1)], tk, _, _, ks ++ [kd], bs ++ [-1], hjl1, by go_num, hide (HUV.out.step varT_keep (by rw [HVT2.out]; exact ⟨rfl, fun _ => rfl⟩)), hide (by rw [List.map_append, HLK.out]; rfl), hide (by rw [List.map_append, HLB.out]; rfl), HXV7, HRS7, HRD7⟩
            case measure => simp [intOf]; omega
      case neg =>
        have HVS := hide (HVT.out lv t1 (HUV.out.stop varT_keep hj (by
          by_cases h1 : j = m1
          · exact .inl h1
          · exact .inr (fun h2 => hjl ⟨by omega, h2⟩))))
        clear HVT HUV
        by_cases hjm : (0 : Int) < ((m1 - j : Nat) : Int)
        · have hte : ((t1.2 : Int) == 0) = false := by
            have : t1.2 ≠ 0 := fun h => hjl ⟨by omega, h⟩
            simp; omega
          obtain ⟨e1, e2⟩ := HRV.out.see
          clear hjl
          have hpR := numT_i64 HRV.out.byt
          have HN1 := hide (rdnum_any g B t1 ww HRV.out)
          have HFT := hide (fun (bl : List (List InsV)) (t' : St) (h : AnsT (blksT (numT (numT t1).2).2) bl t') => funT_of HVS.out h)
          obtain ⟨p, hp1⟩ : ∃ p, (numT t1).1 = p := ⟨_, rfl⟩
          obtain ⟨t2, ht2⟩ : ∃ t2, (numT t1).2 = t2 := ⟨_, rfl⟩
          rw [hp1, ht2] at HN1 HFT
          rw [hp1] at hpR
          have HPR := hide hpR
          have HBT2 := hide (show Byt t2 by rw [← ht2]; exact numT_byt HRV.out.byt)
          have hrR := numT_i64 HBT2.out
          have HN2 := hide (fun (W : World) (h : RSr W g B t2) => rdnum_any g B t2 W h)
          obtain ⟨r, hr1⟩ : ∃ r, (numT t2).1 = r := ⟨_, rfl⟩
          obtain ⟨t3, ht3⟩ : ∃ t3, (numT t2).2 = t3 := ⟨_, rfl⟩
          have HBT3 := hide (show Byt t3 by rw [← ht3]; exact numT_byt HBT2.out)
          rw [hr1, ht3] at HN2 HFT
          rw [hr1] at hrR
          have HRR := hide hrR
          have hcR := cntT_R (lo := 0) (hi := 40) HBT3.out (by omega)
          have HV3 := hide (fun (W : World) (h : RSr W g B t3) => (show Calls Tryd.prog 13 #[.pointer (some ⟨g, 0, none⟩), .int .i64 40, .int .i64 9] W (fun e w' => e = .returned (.int .i64 (cntT 0 40 t3).1) ∧ ReadTr W g B (cntT 0 40 t3).2 w') from rdupto_any g B 9 40 9 40 rfl (by omega) rfl t3 W h))
          have HBT := hide (fun (bl : List (List InsV)) (t' : St) (h : AnsT (manyT blkT (cntT 0 40 t3).1.toNat (cntT 0 40 t3).2) bl t') => HFT.out bl t' (blksT_of h))
          obtain ⟨m2, hm2⟩ : ∃ m2 : Nat, (cntT 0 40 t3).1 = (m2 : Int) := ⟨(cntT 0 40 t3).1.toNat, by omega⟩
          rw [hm2] at HV3 HBT hcR
          rw [show ((m2 : Int).toNat) = m2 by omega] at HBT
          have hm40 : m2 ≤ 40 := by omega
          clear hp1 ht2 hr1 ht3 hpR hrR hcR hm2 HFT HBT2 HBT3
          generalize (cntT 0 40 t3).2 = s2 at *
          go_wp2_with (first
            | (go_at_call 13; refine (HV3.out (w8.setCell ⟨hf, 3, none⟩ (.int .i64 r)) (HR8.out.rs.set hgf)).mono ?_; rintro e wd ⟨rfl, hrd⟩; have HXBd := hide ((HX8.out.set3 r).xb.read hrd.read hgf); have HRDd := hide ((((HRW.out.trans HR6.out.read).set (b := hf) (j := 2) (v := .int .i64 p) (.inl (by have := HHF.out; omega))).trans HR8.out.read).set (b := hf) (j := 3) (v := .int .i64 r) (.inl (by have := HHF.out; omega)) |>.trans hrd.read); have HRSd := hide hrd.rs; clear hrd)
            | (go_at_call 14; refine (HN2.out (w6.setCell ⟨hf, 2, none⟩ (.int .i64 p)) (HR6.out.rs.set hgf)).mono ?_; rintro e w8 ⟨rfl, hr8⟩; have HR8 := hide hr8; have hx8 := (HX6.out.set2 p).read hr8.read hgf; have HX8 := hide hx8; obtain ⟨b3, z3⟩ := hx8.box.cell 3 (v := .int .i64 0) rfl; have l8 := hx8.box.lt; clear hr8 hx8)
            | (go_at_call 14; refine HN1.out.mono ?_; rintro e w6 ⟨rfl, hr6⟩; have HR6 := hide hr6; have hx6 := HXV.out.read hr6.read hgf; have HX6 := hide hx6; obtain ⟨b2, z2⟩ := hx6.box.cell 2 (v := .int .i64 0) rfl; have l6 := hx6.box.lt; clear hr6 hx6))
          clear b2 z2 l6 b3 z3 l8 HR6 HR8 HX6 HX8 HN1 HN2 HV3 HXV HRV HRW
          go_loopw [11] (fun i wr => ∃ (j2 : Nat) (lb : List (List InsV)) (t4 : St) (vl : Value) (yb : List (List InsV × Value)), j2 ≤ m2 ∧ i = .int .i64 ((m2 - j2 : Nat) : Int) ∧ Hid (UpTo blkT j2 s2 lb t4) ∧ Hid (yb.map (·.1) = lb) ∧ Hid (XBo wr hf p r (.slice Ak nk ck) (.slice Ab nb cb) ks bs vl yb) ∧ Hid (RSr wr g B t4) ∧ Hid (Read g wo wr)) (fun i _ => (intOf i).toNat)
          case atStart => exact ⟨0, [], s2, .slice none 0 0, [], Nat.zero_le _, by simp, hide (UpTo.zero _ _), hide rfl, HXBd, HRSd, HRDd⟩
          case round =>
            obtain ⟨j2, lb, t4, vl, yb, hj2, rfl, HUB, HLB4, HXB, HRB, HRE⟩ := hrel
            clear HXBd HRSd HRDd
            obtain ⟨Al, cl, rfl, hnl, hcl⟩ := HXB.out.own.sl
            obtain ⟨nl, hnl2⟩ : ∃ n, yb.length = n := ⟨_, rfl⟩
            have HNL := hide hnl2
            have hnl40 : nl ≤ 40 := by
              have h1 := HUB.out.1
              have h2 := congrArg List.length HLB4.out
              rw [List.length_map] at h2
              omega
            rw [hnl2] at HXB
            clear hnl hcl hnl2
            have glt4 := HRB.out.lt
            have hfl4 := HXB.out.box.lt
            obtain ⟨wx, rfl⟩ : ∃ ww, ww = wr := ⟨_, rfl⟩
            by_cases hjl2 : j2 < m2 ∧ t4.2 = 0
            case pos =>
              obtain ⟨hjl3, ht40⟩ := hjl2
              have hij2 : (0 : Int) < ((m2 - j2 : Nat) : Int) := by omega
              obtain ⟨e1, e2⟩ := HRB.out.see
              rw [ht40] at e1
              have e1' : wx.cell? ⟨g, 1, none⟩ = some (.int .i64 0) := e1
              have hcR := cntT_R (lo := 0) (hi := 40) HRB.out.byt (by omega)
              have HV5 := hide (fun (W : World) (h : RSr W g B t4) => (show Calls Tryd.prog 13 #[.pointer (some ⟨g, 0, none⟩), .int .i64 40, .int .i64 9] W (fun e w' => e = .returned (.int .i64 (cntT 0 40 t4).1) ∧ ReadTr W g B (cntT 0 40 t4).2 w') from rdupto_any g B 9 40 9 40 rfl (by omega) rfl t4 W h))
              have HCT := hide (fun (li : List InsV) (t' : St) (h : AnsT (manyT insT (cntT 0 40 t4).1.toNat (cntT 0 40 t4).2) li t') => blkT_of h)
              obtain ⟨m3, hm3⟩ : ∃ m3 : Nat, (cntT 0 40 t4).1 = (m3 : Int) := ⟨(cntT 0 40 t4).1.toNat, by omega⟩
              rw [hm3] at HV5 HCT hcR
              rw [show ((m3 : Int).toNat) = m3 by omega] at HCT
              have hm340 : m3 ≤ 40 := by omega
              clear e1 hcR hm3
              generalize (cntT 0 40 t4).2 = s3 at *
              go_upto_region 24 with (fail)
              obtain ⟨hx, hhx⟩ : ∃ hx, wx.heap.size = hx := ⟨_, rfl⟩
              obtain ⟨wa, hwa⟩ : ∃ wa, wx.alloc (.cells #[.slice none 0 0] 43) = wa := ⟨_, rfl⟩
              have HXCa := hide (show XCo wa hx (.slice none 0 0) [] by rw [← hwa, ← hhx]; exact XCo.new wx)
              have HRDa := hide (show Read g wx wa by rw [← hwa]; exact (Read.refl g wx).alloc _)
              have HRSa := hide (show RSr wa g B t4 by rw [← hwa]; exact HRB.out.alloc _)
              have hgx : g < hx := by omega
              have hfx : hf < hx := by omega
              have HHX := hide hhx
              rw [hwa, hhx]
              clear hwa hhx
              go_wp2_with (go_at_call 13; refine (HV5.out wa HRSa.out).mono ?_; rintro e wb ⟨rfl, hrb⟩; have HXCb := hide (HXCa.out.read hrb.read hgx); have HRDb := hide (HRDa.out.trans hrb.read); have HRSb := hide hrb.rs; clear hrb)
              clear HXCa HRDa HRSa HV5 e1' e2
              go_loopw [13] (fun i wr => ∃ (j4 : Nat) (li : List InsV) (t5 : St) (vc : Value) (yc : List (InsV × Value)), j4 ≤ m3 ∧ i = .int .i64 ((m3 - j4 : Nat) : Int) ∧ Hid (UpTo insT j4 s3 li t5) ∧ Hid (yc.map (·.1) = li) ∧ Hid (XCo wr hx vc yc) ∧ Hid (RSr wr g B t5) ∧ Hid (Read g wx wr)) (fun i _ => (intOf i).toNat)
              case atStart => exact ⟨0, [], s3, .slice none 0 0, [], Nat.zero_le _, by simp, hide (UpTo.zero _ _), hide rfl, HXCb, HRSb, HRDb⟩
              case round =>
                obtain ⟨j4, li, t5, vc, yc, hj4, rfl, HUC, HLC, HXC, HRC, HRF⟩ := hrel
                clear HXCb HRSb HRDb
                obtain ⟨Ac, cc, rfl, hnc, hcc⟩ := HXC.out.own.sl
                obtain ⟨nc, hnc2⟩ : ∃ n, yc.length = n := ⟨_, rfl⟩
                have HNC := hide hnc2
                have hnc40 : nc ≤ 40 := by
                  have h1 := HUC.out.1
                  have h2 := congrArg List.length HLC.out
                  rw [List.length_map] at h2
                  omega
                rw [hnc2] at HXC
                clear hnc hcc hnc2
                have glt5 := HRC.out.lt
                have hxl := HXC.out.box.lt
                obtain ⟨wy, rfl⟩ : ∃ ww, ww = wr := ⟨_, rfl⟩
                obtain ⟨b0, z0⟩ := HXC.out.box.cell 0 (v := .slice Ac nc cc) rfl
                by_cases hjl4 : j4 < m3 ∧ t5.2 = 0
                case pos =>
                  obtain ⟨hjl5, ht50⟩ := hjl4
                  have hij4 : (0 : Int) < ((m3 - j4 : Nat) : Int) := by omega
                  obtain ⟨e1, e2⟩ := HRC.out.see
                  rw [ht50] at e1
                  have e1' : wy.cell? ⟨g, 1, none⟩ = some (.int .i64 0) := e1
                  have HN := hide (rdins_any g B t5 (wy.drewN 1) (HRC.out.drewN 1))
                  obtain ⟨iI, hiI, izI, izI1, izI2⟩ := info_parts info_Ins
                  have HII := hide hiI
                  clear e1 hiI
                  go_upto_region 27 with (fail)
                  go_region_law
                    (first
                      | (refine step_append_cn (w3.alloc (.cells #[.int .i64 x.op, .int .i64 x.d, .int .i64 x.a, .int .i64 x.b, .int .i64 x.n, .int .i64 x.m, .slice Ax x.args.length cx] 40)) (by rfl) _ _ _ (by rfl) (hx + 1) iI _ 72 Tryd.underlying41 HII.out izI izI1 izI2 rfl (by omega) (by omega) (.slice Ac nc cc) yc nc HNC.out (by rfl) (HXC3.out.own.alloc _) (x, .slice Ax x.args.length cx) rfl (by simp [insC, Value.oneCell']) w3.heap.size #[.int .i64 x.op, .int .i64 x.d, .int .i64 x.a, .int .i64 x.b, .int .i64 x.n, .int .i64 x.m, .slice Ax x.args.length cx] (Box.new w3 _ _) rfl (by rfl) (by omega) (by simp only [World.size_alloc]; omega) ?_; intro g5 cap5 w5 ho5 hg5 hgg hlt5; have HXC5 := hide (HXC3.out.app HXI.out (below1 w3 _) hg5 ho5 (hv5_of (below1 w3 _) hgg)); have HRS5 := hide (apd_rs (j := 0) (v5 := .slice (some ⟨g5, 0, none⟩) (nc + 1) cap5) HR3.out.rs hgx HXC3.out.box HXC3.out.own (below1 w3 _) hg5); have HRD5 := hide (apd_read (j := 0) (v5 := .slice (some ⟨g5, 0, none⟩) (nc + 1) cap5) (HRF.out.trans HR3.out.read) HXC3.out.box HXC3.out.own (below1 w3 _) hg5 (by have := HHX.out; omega)); have f5 := (HXC3.out.box.belowB (apd_below HXC3.out.box HXC3.out.own (below1 w3 _) hg5) (by omega)).cell 0 (v := .slice Ac nc cc) rfl; obtain ⟨f7, f8⟩ := f5; have f9 := (HXC3.out.box.belowB (apd_below HXC3.out.box HXC3.out.own (below1 w3 _) hg5) (by omega)).lt; clear hg5 ho5 hgg)
                      | (rw [if_pos (by rfl)]; go_simp; go_at_call 15; refine HN.out.mono ?_; rintro e w3 ⟨x, va, rfl, hxi, hr3', hxe⟩; obtain ⟨Ax, cx, rfl⟩ := hxi.open'; have hxm := hxi.keep (w' := w3) (fun _ _ _ => rfl) (fb_made (H := hx) (v := .slice Ac nc cc) (w := wy) hxl (fun b e => (HXC.out.own.lt b e).2)); have HXI := hide hxm; have HXE := hide hxe; clear hxm hxi hxe; have hr3 := undrew hr3'; have HR3 := hide hr3; have hx3 := HXC.out.read hr3.read hgx; have HXC3 := hide hx3; have q6 := (hx3.box.cell 0 (v := .slice Ac nc cc) rfl).1; have q7 := ((hx3.box.alloc (.cells #[.int .i64 x.op, .int .i64 x.d, .int .i64 x.a, .int .i64 x.b, .int .i64 x.n, .int .i64 x.m, .slice Ax x.args.length cx] 40)).cell 0 (v := .slice Ac nc cc) rfl).1; have q8 := hx3.box.lt; have hz3 := hr3.read.size; clear hr3 hr3' hx3))
                  all_goals
                    go_wp2
                    go_roundw
                    case rel => exact ⟨j4 + 1, li ++ [x], (insT t5).2, _, yc ++ [(x, .slice Ax x.args.length cx)], hjl5, by go_num, hide (HUC.out.step insT_keep ⟨rfl, HXE.out⟩), hide (by rw [List.map_append, HLC.out]; rfl), HXC5, HRS5, HRD5⟩
                    case measure => simp [intOf]; omega
                case neg =>
                  have HBK := hide (HCT.out li t5 (HUC.out.stop insT_keep hj4 (by
                    by_cases h1 : j4 = m3
                    · exact .inl h1
                    · exact .inr (fun h2 => hjl4 ⟨by omega, h2⟩))))
                  clear HCT HUC
                  have HXBy := hide (HXB.out.read HRF.out hgf)
                  have HREy := hide (HRE.out.trans HRF.out)
                  have hfly := HXBy.out.box.lt
                  obtain ⟨b4, z4⟩ := HXBy.out.box.cell 4 (v := .slice Al nl cl) rfl
                  obtain ⟨iK, hiK, izK, izK1, izK2⟩ := info_parts info_Block
                  have HIK := hide hiK
                  have HCV := hide (HXC.out.vec (S := FB hf wy (.slice Al nl cl)) (fun b h1 h2 => ⟨by omega, h2, fun e => by have := (HXB.out.own.lt b e).2; have := HHX.out; omega⟩))
                  clear hiK
                  have q1 : ∀ o, (wy.alloc o).cell? ⟨hf, 4, none⟩ = some (.slice Al nl cl) := fun o => ((HXBy.out.box.alloc o).cell 4 (v := .slice Al nl cl) rfl).1
                  by_cases hjm4 : (0 : Int) < ((m3 - j4 : Nat) : Int)
                  · have hte4 : ((t5.2 : Int) == 0) = false := by
                      have : t5.2 ≠ 0 := fun h => hjl4 ⟨by omega, h⟩
                      simp; omega
                    obtain ⟨e1, e2⟩ := HRC.out.see
                    clear hjl4
                    go_wp2_with (at_builtin; refine wpList_append_c (wy.alloc (.cells #[.slice Ac nc cc] 43)) (by rfl) _ _ _ (by rfl) (hf + 1) iK _ 24 Tryd.underlying36 HIK.out izK izK1 izK2 rfl (by omega) (by omega) (.slice Al nl cl) yb nl HNL.out (by rfl) (HXBy.out.own.alloc _) (yc.map (·.1), .slice Ac nc cc) rfl (by simp [blkC, Value.oneCell']) wy.heap.size #[.slice Ac nc cc] (Box.new wy _ _) rfl (by rfl) (by omega) (by simp only [World.size_alloc]; omega) ?_; intro g9 cap9 w9 ho9 hg9 hgg9 hlt9; have HXB9 := hide (HXBy.out.app HCV.out (below1 wy _) hg9 ho9 (hv5_of (below1 wy _) hgg9)); have HRS9 := hide (apd_rs (j := 4) (v5 := .slice (some ⟨g9, 0, none⟩) (nl + 1) cap9) HRC.out hgf HXBy.out.box HXBy.out.own (below1 wy _) hg9); have HRD9 := hide (apd_read (j := 4) (v5 := .slice (some ⟨g9, 0, none⟩) (nl + 1) cap9) HREy.out HXBy.out.box HXBy.out.own (below1 wy _) hg9 (by have := HHF.out; omega)); have f5 := (HXBy.out.box.belowB (apd_below HXBy.out.box HXBy.out.own (below1 wy _) hg9) (by omega)).cell 4 (v := .slice Al nl cl) rfl; obtain ⟨f7, f8⟩ := f5; have f9 := (HXBy.out.box.belowB (apd_below HXBy.out.box HXBy.out.own (below1 wy _) hg9) (by omega)).lt; clear hg9 ho9 hgg9)
                    go_roundw
                    case rel => exact ⟨j2 + 1, lb ++ [yc.map (·.1)], t5, _, yb ++ [(yc.map (·.1), .slice Ac nc cc)], hjl3, by go_num, hide (HUB.out.step blkT_keep (by rw [HLC.out]; exact HBK.out)), hide (by rw [List.map_append, HLB4.out]; rfl), HXB9, HRS9, HRD9⟩
                    case measure => simp [intOf]; omega
                  · clear hjl4
                    go_wp2_with (at_builtin; refine wpList_append_c (wy.alloc (.cells #[.slice Ac nc cc] 43)) (by rfl) _ _ _ (by rfl) (hf + 1) iK _ 24 Tryd.underlying36 HIK.out izK izK1 izK2 rfl (by omega) (by omega) (.slice Al nl cl) yb nl HNL.out (by rfl) (HXBy.out.own.alloc _) (yc.map (·.1), .slice Ac nc cc) rfl (by simp [blkC, Value.oneCell']) wy.heap.size #[.slice Ac nc cc] (Box.new wy _ _) rfl (by rfl) (by omega) (by simp only [World.size_alloc]; omega) ?_; intro g9 cap9 w9 ho9 hg9 hgg9 hlt9; have HXB9 := hide (HXBy.out.app HCV.out (below1 wy _) hg9 ho9 (hv5_of (below1 wy _) hgg9)); have HRS9 := hide (apd_rs (j := 4) (v5 := .slice (some ⟨g9, 0, none⟩) (nl + 1) cap9) HRC.out hgf HXBy.out.box HXBy.out.own (below1 wy _) hg9); have HRD9 := hide (apd_read (j := 4) (v5 := .slice (some ⟨g9, 0, none⟩) (nl + 1) cap9) HREy.out HXBy.out.box HXBy.out.own (below1 wy _) hg9 (by have := HHF.out; omega)); have f5 := (HXBy.out.box.belowB (apd_below HXBy.out.box HXBy.out.own (below1 wy _) hg9) (by omega)).cell 4 (v := .slice Al nl cl) rfl; obtain ⟨f7, f8⟩ := f5; have f9 := (HXBy.out.box.belowB (apd_below HXBy.out.box HXBy.out.own (below1 wy _) hg9) (by omega)).lt; clear hg9 ho9 hgg9)
                    go_roundw
                    case rel => exact ⟨j2 + 1, lb ++ [yc.map (·.1)], t5, _, yb ++ [(yc.map (·.1), .slice Ac nc cc)], hjl3, by go_num, hide (HUB.out.step blkT_keep (by rw [HLC.out]; exact HBK.out)), hide (by rw [List.map_append, HLB4.out]; rfl), HXB9, HRS9, HRD9⟩
                    case measure => simp [intOf]; omega
            case neg =>
              have HFU := hide (HBT.out lb t4 (HUB.out.stop blkT_keep hj2 (by
                by_cases h1 : j2 = m2
                · exact .inl h1
                · exact .inr (fun h2 => hjl2 ⟨by omega, h2⟩))))
              clear HBT HUB
              have HXPx := hide (HXP.out.read HRE.out hgp)
              have HBXx := hide (HRE.out.box HBX.out (by omega))
              have HRDx := hide (HRD.out.trans HRE.out)
              have hpl4 := HXPx.out.box.lt
              obtain ⟨p0, pz0⟩ := HXPx.out.box.cell 0 (v := .slice Av nv cv) rfl
              obtain ⟨b0, z0⟩ := HXB.out.box.cell 0 (v := .slice Ak nk ck) rfl
              obtain ⟨b1, z1⟩ := HXB.out.box.cell 1 (v := .slice Ab nb cb) rfl
              obtain ⟨b2, z2⟩ := HXB.out.box.cell 2 (v := .int .i64 p) rfl
              obtain ⟨b3, z3⟩ := HXB.out.box.cell 3 (v := .int .i64 r) rfl
              obtain ⟨b4, z4⟩ := HXB.out.box.cell 4 (v := .slice Al nl cl) rfl
              obtain ⟨iF, hiF, izF, izF1, izF2⟩ := info_parts info_Func
              have HIF := hide hiF
              have HFN := hide (HXB.out.fun HPR.out HRR.out (S := FB hp wx (.slice Av nv cv)) (fun b h1 h2 => ⟨by omega, h2, fun e => by have := (HXP.out.own.lt b e).2; have := HHF.out; omega⟩))
              clear hiF
              have q1 : ∀ o, (wx.alloc o).cell? ⟨hp, 0, none⟩ = some (.slice Av nv cv) := fun o => ((HXPx.out.box.alloc o).cell 0 (v := .slice Av nv cv) rfl).1
              by_cases hjm2 : (0 : Int) < ((m2 - j2 : Nat) : Int)
              · have hte2 : ((t4.2 : Int) == 0) = false := by
                  have : t4.2 ≠ 0 := fun h => hjl2 ⟨by omega, h⟩
                  simp; omega
                obtain ⟨e1, e2⟩ := HRB.out.see
                clear hjl2
                go_wp2_with (at_builtin; refine wpList_append_c (wx.alloc (.cells #[.slice Ak nk ck, .slice Ab nb cb, .int .i64 p, .int .i64 r, .slice Al nl cl] 38)) (by rfl) _ _ _ (by rfl) (hp + 1) iF _ 88 Tryd.underlying24 HIF.out izF izF1 izF2 rfl (by omega) (by omega) (.slice Av nv cv) ys nv HNV.out (by rfl) (HXPx.out.own.alloc _) (⟨ks, bs, p, r, yb.map (·.1)⟩, .slice Ak nk ck, .slice Ab nb cb, .slice Al nl cl) rfl (by simp [funC, Value.oneCell']) wx.heap.size #[.slice Ak nk ck, .slice Ab nb cb, .int .i64 p, .int .i64 r, .slice Al nl cl] (Box.new wx _ _) rfl (by rfl) (by omega) (by simp only [World.size_alloc]; omega) ?_; intro g9 cap9 w9 ho9 hg9 hgg9 hlt9; have HXP9 := hide (HXPx.out.app HFN.out (below1 wx _) hg9 ho9 (hv5_of (below1 wx _) hgg9)); have HRS9 := hide (apd_rs (j := 0) (v5 := .slice (some ⟨g9, 0, none⟩) (nv + 1) cap9) HRB.out hgp HXPx.out.box HXPx.out.own (below1 wx _) hg9); have HRD9 := hide (apd_read (j := 0) (v5 := .slice (some ⟨g9, 0, none⟩) (nv + 1) cap9) HRDx.out HXPx.out.box HXPx.out.own (below1 wx _) hg9 (by omega)); have HBX9 := hide ((HBXx.out.belowB (apd_below HXPx.out.box HXPx.out.own (below1 wx _) hg9) (by omega)).other (g := hp) (j := 0) (v := .slice (some ⟨g9, 0, none⟩) (nv + 1) cap9) (by omega)); have f5 := (HXPx.out.box.belowB (apd_below HXPx.out.box HXPx.out.own (below1 wx _) hg9) (by omega)).cell 0 (v := .slice Av nv cv) rfl; obtain ⟨f7, f8⟩ := f5; have f9 := (HXPx.out.box.belowB (apd_below HXPx.out.box HXPx.out.own (below1 wx _) hg9) (by omega)).lt; clear hg9 ho9 hgg9)
                go_roundw
                case rel => exact ⟨k + 1, l ++ [⟨ks, bs, p, r, yb.map (·.1)⟩], t4, _, _, hkl, by go_num, hide (HUP.out.step funT_keep (by have := HFU.out; rw [HLK.out, HLB.out] at this; rw [HLB4.out]; exact this)), HXP9, hide (by rw [List.map_append, HYL.out]; rfl), HRS9, HRD9, HBX9⟩
                case measure => simp [intOf]; omega
              · clear hjl2
                go_wp2_with (at_builtin; refine wpList_append_c (wx.alloc (.cells #[.slice Ak nk ck, .slice Ab nb cb, .int .i64 p, .int .i64 r, .slice Al nl cl] 38)) (by rfl) _ _ _ (by rfl) (hp + 1) iF _ 88 Tryd.underlying24 HIF.out izF izF1 izF2 rfl (by omega) (by omega) (.slice Av nv cv) ys nv HNV.out (by rfl) (HXPx.out.own.alloc _) (⟨ks, bs, p, r, yb.map (·.1)⟩, .slice Ak nk ck, .slice Ab nb cb, .slice Al nl cl) rfl (by simp [funC, Value.oneCell']) wx.heap.size #[.slice Ak nk ck, .slice Ab nb cb, .int .i64 p, .int .i64 r, .slice Al nl cl] (Box.new wx _ _) rfl (by rfl) (by omega) (by simp only [World.size_alloc]; omega) ?_; intro g9 cap9 w9 ho9 hg9 hgg9 hlt9; have HXP9 := hide (HXPx.out.app HFN.out (below1 wx _) hg9 ho9 (hv5_of (below1 wx _) hgg9)); have HRS9 := hide (apd_rs (j := 0) (v5 := .slice (some ⟨g9, 0, none⟩) (nv + 1) cap9) HRB.out hgp HXPx.out.box HXPx.out.own (below1 wx _) hg9); have HRD9 := hide (apd_read (j := 0) (v5 := .slice (some ⟨g9, 0, none⟩) (nv + 1) cap9) HRDx.out HXPx.out.box HXPx.out.own (below1 wx _) hg9 (by omega)); have HBX9 := hide ((HBXx.out.belowB (apd_below HXPx.out.box HXPx.out.own (below1 wx _) hg9) (by omega)).other (g := hp) (j := 0) (v := .slice (some ⟨g9, 0, none⟩) (nv + 1) cap9) (by omega)); have f5 := (HXPx.out.box.belowB (apd_below HXPx.out.box HXPx.out.own (below1 wx _) hg9) (by omega)).cell 0 (v := .slice Av nv cv) rfl; obtain ⟨f7, f8⟩ := f5; have f9 := (HXPx.out.box.belowB (apd_below HXPx.out.box HXPx.out.own (below1 wx _) hg9) (by omega)).lt; clear hg9 ho9 hgg9)
                go_roundw
                case rel => exact ⟨k + 1, l ++ [⟨ks, bs, p, r, yb.map (·.1)⟩], t4, _, _, hkl, by go_num, hide (HUP.out.step funT_keep (by have := HFU.out; rw [HLK.out, HLB.out] at this; rw [HLB4.out]; exact this)), HXP9, hide (by rw [List.map_append, HYL.out]; rfl), HRS9, HRD9, HBX9⟩
                case measure => simp [intOf]; omega
        · clear hjl
          have hpR := numT_i64 HRV.out.byt
          have HN1 := hide (rdnum_any g B t1 ww HRV.out)
          have HFT := hide (fun (bl : List (List InsV)) (t' : St) (h : AnsT (blksT (numT (numT t1).2).2) bl t') => funT_of HVS.out h)
          obtain ⟨p, hp1⟩ : ∃ p, (numT t1).1 = p := ⟨_, rfl⟩
          obtain ⟨t2, ht2⟩ : ∃ t2, (numT t1).2 = t2 := ⟨_, rfl⟩
          rw [hp1, ht2] at HN1 HFT
          rw [hp1] at hpR
          have HPR := hide hpR
          have HBT2 := hide (show Byt t2 by rw [← ht2]; exact numT_byt HRV.out.byt)
          have hrR := numT_i64 HBT2.out
          have HN2 := hide (fun (W : World) (h : RSr W g B t2) => rdnum_any g B t2 W h)
          obtain ⟨r, hr1⟩ : ∃ r, (numT t2).1 = r := ⟨_, rfl⟩
          obtain ⟨t3, ht3⟩ : ∃ t3, (numT t2).2 = t3 := ⟨_, rfl⟩
          have HBT3 := hide (show Byt t3 by rw [← ht3]; exact numT_byt HBT2.out)
          rw [hr1, ht3] at HN2 HFT
          rw [hr1] at hrR
          have HRR := hide hrR
          have hcR := cntT_R (lo := 0) (hi := 40) HBT3.out (by omega)
          have HV3 := hide (fun (W : World) (h : RSr W g B t3) => (show Calls Tryd.prog 13 #[.pointer (some ⟨g, 0, none⟩), .int .i64 40, .int .i64 9] W (fun e w' => e = .returned (.int .i64 (cntT 0 40 t3).1) ∧ ReadTr W g B (cntT 0 40 t3).2 w') from rdupto_any g B 9 40 9 40 rfl (by omega) rfl t3 W h))
          have HBT := hide (fun (bl : List (List InsV)) (t' : St) (h : AnsT (manyT blkT (cntT 0 40 t3).1.toNat (cntT 0 40 t3).2) bl t') => HFT.out bl t' (blksT_of h))
          obtain ⟨m2, hm2⟩ : ∃ m2 : Nat, (cntT 0 40 t3).1 = (m2 : Int) := ⟨(cntT 0 40 t3).1.toNat, by omega⟩
          rw [hm2] at HV3 HBT hcR
          rw [show ((m2 : Int).toNat) = m2 by omega] at HBT
          have hm40 : m2 ≤ 40 := by omega
          clear hp1 ht2 hr1 ht3 hpR hrR hcR hm2 HFT HBT2 HBT3
          generalize (cntT 0 40 t3).2 = s2 at *
          go_wp2_with (first
            | (go_at_call 13; refine (HV3.out (w8.setCell ⟨hf, 3, none⟩ (.int .i64 r)) (HR8.out.rs.set hgf)).mono ?_; rintro e wd ⟨rfl, hrd⟩; have HXBd := hide ((HX8.out.set3 r).xb.read hrd.read hgf); have HRDd := hide ((((HRW.out.trans HR6.out.read).set (b := hf) (j := 2) (v := .int .i64 p) (.inl (by have := HHF.out; omega))).trans HR8.out.read).set (b := hf) (j := 3) (v := .int .i64 r) (.inl (by have := HHF.out; omega)) |>.trans hrd.read); have HRSd := hide hrd.rs; clear hrd)
            | (go_at_call 14; refine (HN2.out (w6.setCell ⟨hf, 2, none⟩ (.int .i64 p)) (HR6.out.rs.set hgf)).mono ?_; rintro e w8 ⟨rfl, hr8⟩; have HR8 := hide hr8; have hx8 := (HX6.out.set2 p).read hr8.read hgf; have HX8 := hide hx8; obtain ⟨b3, z3⟩ := hx8.box.cell 3 (v := .int .i64 0) rfl; have l8 := hx8.box.lt; clear hr8 hx8)
            | (go_at_call 14; refine HN1.out.mono ?_; rintro e w6 ⟨rfl, hr6⟩; have HR6 := hide hr6; have hx6 := HXV.out.read hr6.read hgf; have HX6 := hide hx6; obtain ⟨b2, z2⟩ := hx6.box.cell 2 (v := .int .i64 0) rfl; have l6 := hx6.box.lt; clear hr6 hx6))
          clear b2 z2 l6 b3 z3 l8 HR6 HR8 HX6 HX8 HN1 HN2 HV3 HXV HRV HRW
          go_loopw [11] (fun i wr => ∃ (j2 : Nat) (lb : List (List InsV)) (t4 : St) (vl : Value) (yb : List (List InsV × Value)), j2 ≤ m2 ∧ i = .int .i64 ((m2 - j2 : Nat) : Int) ∧ Hid (UpTo blkT j2 s2 lb t4) ∧ Hid (yb.map (·.1) = lb) ∧ Hid (XBo wr hf p r (.slice Ak nk ck) (.slice Ab nb cb) ks bs vl yb) ∧ Hid (RSr wr g B t4) ∧ Hid (Read g wo wr)) (fun i _ => (intOf i).toNat)
          case atStart => exact ⟨0, [], s2, .slice none 0 0, [], Nat.zero_le _, by simp, hide (UpTo.zero _ _), hide rfl, HXBd, HRSd, HRDd⟩
          case round =>
            obtain ⟨j2, lb, t4, vl, yb, hj2, rfl, HUB, HLB4, HXB, HRB, HRE⟩ := hrel
            clear HXBd HRSd HRDd
            obtain ⟨Al, cl, rfl, hnl, hcl⟩ := HXB.out.own.sl
            obtain ⟨nl, hnl2⟩ : ∃ n, yb.length = n := ⟨_, rfl⟩
            have HNL := hide hnl2
            have hnl40 : nl ≤ 40 := by
              have h1 := HUB.out.1
              have h2 := congrArg List.length HLB4.out
              rw [List.length_map] at h2
              omega
            rw [hnl2] at HXB
            clear hnl hcl hnl2
            have glt4 := HRB.out.lt
            have hfl4 := HXB.out.box.lt
            obtain ⟨wx, rfl⟩ : ∃ ww, ww = wr := ⟨_, rfl⟩
            by_cases hjl2 : j2 < m2 ∧ t4.2 = 0
            case pos =>
              obtain ⟨hjl3, ht40⟩ := hjl2
              have hij2 : (0 : Int) < ((m2 - j2 : Nat) : Int) := by omega
              obtain ⟨e1, e2⟩ := HRB.out.see
              rw [ht40] at e1
              have e1' : wx.cell? ⟨g, 1, none⟩ = some (.int .i64 0) := e1
              have hcR := cntT_R (lo := 0) (hi := 40) HRB.out.byt (by omega)
              have HV5 := hide (fun (W : World) (h : RSr W g B t4) => (show Calls Tryd.prog 13 #[.pointer (some ⟨g, 0, none⟩), .int .i64 40, .int .i64 9] W (fun e w' => e = .returned (.int .i64 (cntT 0 40 t4).1) ∧ ReadTr W g B (cntT 0 40 t4).2 w') from rdupto_any g B 9 40 9 40 rfl (by omega) rfl t4 W h))
              have HCT := hide (fun (li : List InsV) (t' : St) (h : AnsT (manyT insT (cntT 0 40 t4).1.toNat (cntT 0 40 t4).2) li t') => blkT_of h)
              obtain ⟨m3, hm3⟩ : ∃ m3 : Nat, (cntT 0 40 t4).1 = (m3 : Int) := ⟨(cntT 0 40 t4).1.toNat, by omega⟩
              rw [hm3] at HV5 HCT hcR
              rw [show ((m3 : Int).toNat) = m3 by omega] at HCT
              have hm340 : m3 ≤ 40 := by omega
              clear e1 hcR hm3
              generalize (cntT 0 40 t4).2 = s3 at *
              go_upto_region 24 with (fail)
              obtain ⟨hx, hhx⟩ : ∃ hx, wx.heap.size = hx := ⟨_, rfl⟩
              obtain ⟨wa, hwa⟩ : ∃ wa, wx.alloc (.cells #[.slice none 0 0] 43) = wa := ⟨_, rfl⟩
              have HXCa := hide (show XCo wa hx (.slice none 0 0) [] by rw [← hwa, ← hhx]; exact XCo.new wx)
              have HRDa := hide (show Read g wx wa by rw [← hwa]; exact (Read.refl g wx).alloc _)
              have HRSa := hide (show RSr wa g B t4 by rw [← hwa]; exact HRB.out.alloc _)
              have hgx : g < hx := by omega
              have hfx : hf < hx := by omega
              have HHX := hide hhx
              rw [hwa, hhx]
              clear hwa hhx
              go_wp2_with (go_at_call 13; refine (HV5.out wa HRSa.out).mono ?_; rintro e wb ⟨rfl, hrb⟩; have HXCb := hide (HXCa.out.read hrb.read hgx); have HRDb := hide (HRDa.out.trans hrb.read); have HRSb := hide hrb.rs; clear hrb)
              clear HXCa HRDa HRSa HV5 e1' e2
              go_loopw [13] (fun i wr => ∃ (j4 : Nat) (li : List InsV) (t5 : St) (vc : Value) (yc : List (InsV × Value)), j4 ≤ m3 ∧ i = .int .i64 ((m3 - j4 : Nat) : Int) ∧ Hid (UpTo insT j4 s3 li t5) ∧ Hid (yc.map (·.1) = li) ∧ Hid (XCo wr hx vc yc) ∧ Hid (RSr wr g B t5) ∧ Hid (Read g wx wr)) (fun i _ => (intOf i).toNat)
              case atStart => exact ⟨0, [], s3, .slice none 0 0, [], Nat.zero_le _, by simp, hide (UpTo.zero _ _), hide rfl, HXCb, HRSb, HRDb⟩
              case round =>
                obtain ⟨j4, li, t5, vc, yc, hj4, rfl, HUC, HLC, HXC, HRC, HRF⟩ := hrel
                clear HXCb HRSb HRDb
                obtain ⟨Ac, cc, rfl, hnc, hcc⟩ := HXC.out.own.sl
                obtain ⟨nc, hnc2⟩ : ∃ n, yc.length = n := ⟨_, rfl⟩
                have HNC := hide hnc2
                have hnc40 : nc ≤ 40 := by
                  have h1 := HUC.out.1
                  have h2 := congrArg List.length HLC.out
                  rw [List.length_map] at h2
                  omega
                rw [hnc2] at HXC
                clear hnc hcc hnc2
                have glt5 := HRC.out.lt
                have hxl := HXC.out.box.lt
                obtain ⟨wy, rfl⟩ : ∃ ww, ww = wr := ⟨_, rfl⟩
                obtain ⟨b0, z0⟩ := HXC.out.box.cell 0 (v := .slice Ac nc cc) rfl
                by_cases hjl4 : j4 < m3 ∧ t5.2 = 0
                case pos =>
                  obtain ⟨hjl5, ht50⟩ := hjl4
                  have hij4 : (0 : Int) < ((m3 - j4 : Nat) : Int) := by omega
                  obtain ⟨e1, e2⟩ := HRC.out.see
                  rw [ht50] at e1
                  have e1' : wy.cell? ⟨g, 1, none⟩ = some (.int .i64 0) := e1
                  have HN := hide (rdins_any g B t5 (wy.drewN 1) (HRC.out.drewN 1))
                  obtain ⟨iI, hiI, izI, izI1, izI2⟩ := info_parts info_Ins
                  have HII := hide hiI
                  clear e1 hiI
                  go_upto_region 27 with (fail)
                  go_region_law
                    (first
                      | (refine step_append_cn (w3.alloc (.cells #[.int .i64 x.op, .int .i64 x.d, .int .i64 x.a, .int .i64 x.b, .int .i64 x.n, .int .i64 x.m, .slice Ax x.args.length cx] 40)) (by rfl) _ _ _ (by rfl) (hx + 1) iI _ 72 Tryd.underlying41 HII.out izI izI1 izI2 rfl (by omega) (by omega) (.slice Ac nc cc) yc nc HNC.out (by rfl) (HXC3.out.own.alloc _) (x, .slice Ax x.args.length cx) rfl (by simp [insC, Value.oneCell']) w3.heap.size #[.int .i64 x.op, .int .i64 x.d, .int .i64 x.a, .int .i64 x.b, .int .i64 x.n, .int .i64 x.m, .slice Ax x.args.length cx] (Box.new w3 _ _) rfl (by rfl) (by omega) (by simp only [World.size_alloc]; omega) ?_; intro g5 cap5 w5 ho5 hg5 hgg hlt5; have HXC5 := hide (HXC3.out.app HXI.out (below1 w3 _) hg5 ho5 (hv5_of (below1 w3 _) hgg)); have HRS5 := hide (apd_rs (j := 0) (v5 := .slice (some ⟨g5, 0, none⟩) (nc + 1) cap5) HR3.out.rs hgx HXC3.out.box HXC3.out.own (below1 w3 _) hg5); have HRD5 := hide (apd_read (j := 0) (v5 := .slice (some ⟨g5, 0, none⟩) (nc + 1) cap5) (HRF.out.trans HR3.out.read) HXC3.out.box HXC3.out.own (below1 w3 _) hg5 (by have := HHX.out; omega)); have f5 := (HXC3.out.box.belowB (apd_below HXC3.out.box HXC3.out.own (below1 w3 _) hg5) (by omega)).cell 0 (v := .slice Ac nc cc) rfl; obtain ⟨f7, f8⟩ := f5; have f9 := (HXC3.out.box.belowB (apd_below HXC3.out.box HXC3.out.own (below1 w3 _) hg5) (by omega)).lt; clear hg5 ho5 hgg)
                      | (rw [if_pos (by rfl)]; go_simp; go_at_call 15; refine HN.out.mono ?_; rintro e w3 ⟨x, va, rfl, hxi, hr3', hxe⟩; obtain ⟨Ax, cx, rfl⟩ := hxi.open'; have hxm := hxi.keep (w' := w3) (fun _ _ _ => rfl) (fb_made (H := hx) (v := .slice Ac nc cc) (w := wy) hxl (fun b e => (HXC.out.own.lt b e).2)); have HXI := hide hxm; have HXE := hide hxe; clear hxm hxi hxe; have hr3 := undrew hr3'; have HR3 := hide hr3; have hx3 := HXC.out.read hr3.read hgx; have HXC3 := hide hx3; have q6 := (hx3.box.cell 0 (v := .slice Ac nc cc) rfl).1; have q7 := ((hx3.box.alloc (.cells #[.int .i64 x.op, .int .i64 x.d, .int .i64 x.a, .int .i64 x.b, .int .i64 x.n, .int .i64 x.m, .slice Ax x.args.length cx] 40)).cell 0 (v := .slice Ac nc cc) rfl).1; have q8 := hx3.box.lt; have hz3 := hr3.read.size; clear hr3 hr3' hx3))
                  all_goals
                    go_wp2
                    go_roundw
                    case rel => exact ⟨j4 + 1, li ++ [x], (insT t5).2, _, yc ++ [(x, .slice Ax x.args.length cx)], hjl5, by go_num, hide (HUC.out.step insT_keep ⟨rfl, HXE.out⟩), hide (by rw [List.map_append, HLC.out]; rfl), HXC5, HRS5, HRD5⟩
                    case measure => simp [intOf]; omega
                case neg =>
                  have HBK := hide (HCT.out li t5 (HUC.out.stop insT_keep hj4 (by
                    by_cases h1 : j4 = m3
                    · exact .inl h1
                    · exact .inr (fun h2 => hjl4 ⟨by omega, h2⟩))))
                  clear HCT HUC
                  have HXBy := hide (HXB.out.read HRF.out hgf)
                  have HREy := hide (HRE.out.trans HRF.out)
                  have hfly := HXBy.out.box.lt
                  obtain ⟨b4, z4⟩ := HXBy.out.box.cell 4 (v := .slice Al nl cl) rfl
                  obtain ⟨iK, hiK, izK, izK1, izK2⟩ := info_parts info_Block
                  have HIK := hide hiK
                  have HCV := hide (HXC.out.vec (S := FB hf wy (.slice Al nl cl)) (fun b h1 h2 => ⟨by omega, h2, fun e => by have := (HXB.out.own.lt b e).2; have := HHX.out; omega⟩))
                  clear hiK
                  have q1 : ∀ o, (wy.alloc o).cell? ⟨hf, 4, none⟩ = some (.slice Al nl cl) := fun o => ((HXBy.out.box.alloc o).cell 4 (v := .slice Al nl cl) rfl).1
                  by_cases hjm4 : (0 : Int) < ((m3 - j4 : Nat) : Int)
                  · have hte4 : ((t5.2 : Int) == 0) = false := by
                      have : t5.2 ≠ 0 := fun h => hjl4 ⟨by omega, h⟩
                      simp; omega
                    obtain ⟨e1, e2⟩ := HRC.out.see
                    clear hjl4
                    go_wp2_with (at_builtin; refine wpList_append_c (wy.alloc (.cells #[.slice Ac nc cc] 43)) (by rfl) _ _ _ (by rfl) (hf + 1) iK _ 24 Tryd.underlying36 HIK.out izK izK1 izK2 rfl (by omega) (by omega) (.slice Al nl cl) yb nl HNL.out (by rfl) (HXBy.out.own.alloc _) (yc.map (·.1), .slice Ac nc cc) rfl (by simp [blkC, Value.oneCell']) wy.heap.size #[.slice Ac nc cc] (Box.new wy _ _) rfl (by rfl) (by omega) (by simp only [World.size_alloc]; omega) ?_; intro g9 cap9 w9 ho9 hg9 hgg9 hlt9; have HXB9 := hide (HXBy.out.app HCV.out (below1 wy _) hg9 ho9 (hv5_of (below1 wy _) hgg9)); have HRS9 := hide (apd_rs (j := 4) (v5 := .slice (some ⟨g9, 0, none⟩) (nl + 1) cap9) HRC.out hgf HXBy.out.box HXBy.out.own (below1 wy _) hg9); have HRD9 := hide (apd_read (j := 4) (v5 := .slice (some ⟨g9, 0, none⟩) (nl + 1) cap9) HREy.out HXBy.out.box HXBy.out.own (below1 wy _) hg9 (by have := HHF.out; omega)); have f5 := (HXBy.out.box.belowB (apd_below HXBy.out.box HXBy.out.own (below1 wy _) hg9) (by omega)).cell 4 (v := .slice Al nl cl) rfl; obtain ⟨f7, f8⟩ := f5; have f9 := (HXBy.out.box.belowB (apd_below HXBy.out.box HXBy.out.own (below1 wy _) hg9) (by omega)).lt; clear hg9 ho9 hgg9)
                    go_roundw
                    case rel => exact ⟨j2 + 1, lb ++ [yc.map (·.1)], t5, _, yb ++ [(yc.map (·.1), .slice Ac nc cc)], hjl3, by go_num, hide (HUB.out.step blkT_keep (by rw [HLC.out]; exact HBK.out)), hide (by rw [List.map_append, HLB4.out]; rfl), HXB9, HRS9, HRD9⟩
                    case measure => simp [intOf]; omega
                  · clear hjl4
                    go_wp2_with (at_builtin; refine wpList_append_c (wy.alloc (.cells #[.slice Ac nc cc] 43)) (by rfl) _ _ _ (by rfl) (hf + 1) iK _ 24 Tryd.underlying36 HIK.out izK izK1 izK2 rfl (by omega) (by omega) (.slice Al nl cl) yb nl HNL.out (by rfl) (HXBy.out.own.alloc _) (yc.map (·.1), .slice Ac nc cc) rfl (by simp [blkC, Value.oneCell']) wy.heap.size #[.slice Ac nc cc] (Box.new wy _ _) rfl (by rfl) (by omega) (by simp only [World.size_alloc]; omega) ?_; intro g9 cap9 w9 ho9 hg9 hgg9 hlt9; have HXB9 := hide (HXBy.out.app HCV.out (below1 wy _) hg9 ho9 (hv5_of (below1 wy _) hgg9)); have HRS9 := hide (apd_rs (j := 4) (v5 := .slice (some ⟨g9, 0, none⟩) (nl + 1) cap9) HRC.out hgf HXBy.out.box HXBy.out.own (below1 wy _) hg9); have HRD9 := hide (apd_read (j := 4) (v5 := .slice (some ⟨g9, 0, none⟩) (nl + 1) cap9) HREy.out HXBy.out.box HXBy.out.own (below1 wy _) hg9 (by have := HHF.out; omega)); have f5 := (HXBy.out.box.belowB (apd_below HXBy.out.box HXBy.out.own (below1 wy _) hg9) (by omega)).cell 4 (v := .slice Al nl cl) rfl; obtain ⟨f7, f8⟩ := f5; have f9 := (HXBy.out.box.belowB (apd_below HXBy.out.box HXBy.out.own (below1 wy _) hg9) (by omega)).lt; clear hg9 ho9 hgg9)
                    go_roundw
                    case rel => exact ⟨j2 + 1, lb ++ [yc.map (·.1)], t5, _, yb ++ [(yc.map (·.1), .slice Ac nc cc)], hjl3, by go_num, hide (HUB.out.step blkT_keep (by rw [HLC.out]; exact HBK.out)), hide (by rw [List.map_append, HLB4.out]; rfl), HXB9, HRS9, HRD9⟩
                    case measure => simp [intOf]; omega
            case neg =>
              have HFU := hide (HBT.out lb t4 (HUB.out.stop blkT_keep hj2 (by
                by_cases h1 : j2 = m2
                · exact .inl h1
                · exact .inr (fun h2 => hjl2 ⟨by omega, h2⟩))))
              clear HBT HUB
              have HXPx := hide (HXP.out.read HRE.out hgp)
              have HBXx := hide (HRE.out.box HBX.out (by omega))
              have HRDx := hide (HRD.out.trans HRE.out)
              have hpl4 := HXPx.out.box.lt
              obtain ⟨p0, pz0⟩ := HXPx.out.box.cell 0 (v := .slice Av nv cv) rfl
              obtain ⟨b0, z0⟩ := HXB.out.box.cell 0 (v := .slice Ak nk ck) rfl
              obtain ⟨b1, z1⟩ := HXB.out.box.cell 1 (v := .slice Ab nb cb) rfl
              obtain ⟨b2, z2⟩ := HXB.out.box.cell 2 (v := .int .i64 p) rfl
              obtain ⟨b3, z3⟩ := HXB.out.box.cell 3 (v := .int .i64 r) rfl
              obtain ⟨b4, z4⟩ := HXB.out.box.cell 4 (v := .slice Al nl cl) rfl
              obtain ⟨iF, hiF, izF, izF1, izF2⟩ := info_parts info_Func
              have HIF := hide hiF
              have HFN := hide (HXB.out.fun HPR.out HRR.out (S := FB hp wx (.slice Av nv cv)) (fun b h1 h2 => ⟨by omega, h2, fun e => by have := (HXP.out.own.lt b e).2; have := HHF.out; omega⟩))
              clear hiF
              have q1 : ∀ o, (wx.alloc o).cell? ⟨hp, 0, none⟩ = some (.slice Av nv cv) := fun o => ((HXPx.out.box.alloc o).cell 0 (v := .slice Av nv cv) rfl).1
              by_cases hjm2 : (0 : Int) < ((m2 - j2 : Nat) : Int)
              · have hte2 : ((t4.2 : Int) == 0) = false := by
                  have : t4.2 ≠ 0 := fun h => hjl2 ⟨by omega, h⟩
                  simp; omega
                obtain ⟨e1, e2⟩ := HRB.out.see
                clear hjl2
                go_wp2_with (at_builtin; refine wpList_append_c (wx.alloc (.cells #[.slice Ak nk ck, .slice Ab nb cb, .int .i64 p, .int .i64 r, .slice Al nl cl] 38)) (by rfl) _ _ _ (by rfl) (hp + 1) iF _ 88 Tryd.underlying24 HIF.out izF izF1 izF2 rfl (by omega) (by omega) (.slice Av nv cv) ys nv HNV.out (by rfl) (HXPx.out.own.alloc _) (⟨ks, bs, p, r, yb.map (·.1)⟩, .slice Ak nk ck, .slice Ab nb cb, .slice Al nl cl) rfl (by simp [funC, Value.oneCell']) wx.heap.size #[.slice Ak nk ck, .slice Ab nb cb, .int .i64 p, .int .i64 r, .slice Al nl cl] (Box.new wx _ _) rfl (by rfl) (by omega) (by simp only [World.size_alloc]; omega) ?_; intro g9 cap9 w9 ho9 hg9 hgg9 hlt9; have HXP9 := hide (HXPx.out.app HFN.out (below1 wx _) hg9 ho9 (hv5_of (below1 wx _) hgg9)); have HRS9 := hide (apd_rs (j := 0) (v5 := .slice (some ⟨g9, 0, none⟩) (nv + 1) cap9) HRB.out hgp HXPx.out.box HXPx.out.own (below1 wx _) hg9); have HRD9 := hide (apd_read (j := 0) (v5 := .slice (some ⟨g9, 0, none⟩) (nv + 1) cap9) HRDx.out HXPx.out.box HXPx.out.own (below1 wx _) hg9 (by omega)); have HBX9 := hide ((HBXx.out.belowB (apd_below HXPx.out.box HXPx.out.own (below1 wx _) hg9) (by omega)).other (g := hp) (j := 0) (v := .slice (some ⟨g9, 0, none⟩) (nv + 1) cap9) (by omega)); have f5 := (HXPx.out.box.belowB (apd_below HXPx.out.box HXPx.out.own (below1 wx _) hg9) (by omega)).cell 0 (v := .slice Av nv cv) rfl; obtain ⟨f7, f8⟩ := f5; have f9 := (HXPx.out.box.belowB (apd_below HXPx.out.box HXPx.out.own (below1 wx _) hg9) (by omega)).lt; clear hg9 ho9 hgg9)
                go_roundw
                case rel => exact ⟨k + 1, l ++ [⟨ks, bs, p, r, yb.map (·.1)⟩], t4, _, _, hkl, by go_num, hide (HUP.out.step funT_keep (by have := HFU.out; rw [HLK.out, HLB.out] at this; rw [HLB4.out]; exact this)), HXP9, hide (by rw [List.map_append, HYL.out]; rfl), HRS9, HRD9, HBX9⟩
                case measure => simp [intOf]; omega
              · clear hjl2
                go_wp2_with (at_builtin; refine wpList_append_c (wx.alloc (.cells #[.slice Ak nk ck, .slice Ab nb cb, .int .i64 p, .int .i64 r, .slice Al nl cl] 38)) (by rfl) _ _ _ (by rfl) (hp + 1) iF _ 88 Tryd.underlying24 HIF.out izF izF1 izF2 rfl (by omega) (by omega) (.slice Av nv cv) ys nv HNV.out (by rfl) (HXPx.out.own.alloc _) (⟨ks, bs, p, r, yb.map (·.1)⟩, .slice Ak nk ck, .slice Ab nb cb, .slice Al nl cl) rfl (by simp [funC, Value.oneCell']) wx.heap.size #[.slice Ak nk ck, .slice Ab nb cb, .int .i64 p, .int .i64 r, .slice Al nl cl] (Box.new wx _ _) rfl (by rfl) (by omega) (by simp only [World.size_alloc]; omega) ?_; intro g9 cap9 w9 ho9 hg9 hgg9 hlt9; have HXP9 := hide (HXPx.out.app HFN.out (below1 wx _) hg9 ho9 (hv5_of (below1 wx _) hgg9)); have HRS9 := hide (apd_rs (j := 0) (v5 := .slice (some ⟨g9, 0, none⟩) (nv + 1) cap9) HRB.out hgp HXPx.out.box HXPx.out.own (below1 wx _) hg9); have HRD9 := hide (apd_read (j := 0) (v5 := .slice (some ⟨g9, 0, none⟩) (nv + 1) cap9) HRDx.out HXPx.out.box HXPx.out.own (below1 wx _) hg9 (by omega)); have HBX9 := hide ((HBXx.out.belowB (apd_below HXPx.out.box HXPx.out.own (below1 wx _) hg9) (by omega)).other (g := hp) (j := 0) (v := .slice (some ⟨g9, 0, none⟩) (nv + 1) cap9) (by omega)); have f5 := (HXPx.out.box.belowB (apd_below HXPx.out.box HXPx.out.own (below1 wx _) hg9) (by omega)).cell 0 (v := .slice Av nv cv) rfl; obtain ⟨f7, f8⟩ := f5; have f9 := (HXPx.out.box.belowB (apd_below HXPx.out.box HXPx.out.own (below1 wx _) hg9) (by omega)).lt; clear hg9 ho9 hgg9)
                go_roundw
                case rel => exact ⟨k + 1, l ++ [⟨ks, bs, p, r, yb.map (·.1)⟩], t4, _, _, hkl, by go_num, hide (HUP.out.step funT_keep (by have := HFU.out; rw [HLK.out, HLB.out] at this; rw [HLB4.out]; exact this)), HXP9, hide (by rw [List.map_append, HYL.out]; rfl), HRS9, HRD9, HBX9⟩
                case measure => simp [intOf]; omega
end Go.Proofs.YtkimocfofihjbaaDoor
