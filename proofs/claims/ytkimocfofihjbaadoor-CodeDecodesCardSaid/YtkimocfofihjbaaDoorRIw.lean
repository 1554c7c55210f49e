/- The contract of the reference's (*reader).ins: the state is what insT leaves; the value is insT's where no error came. -/
import Derived.Test.YtkimocfofihjbaaDoorRIi
import Derived.Deep.Cut
set_option linter.unusedSimpArgs false
set_option linter.unusedVariables false
namespace Go.Proofs.YtkimocfofihjbaaDoor
open Go.RowKit
attribute [local go_sem ↓] Go.wp_at_zero Go.wp_at_succ

set_option maxHeartbeats 2000000 in
set_option maxRecDepth 100000 in
theorem rdins_any (g B : Nat) (s : St) (w : World) (h : RSr w g B s) :
    Calls Tryd.prog 15 #[.pointer (some ⟨g, 0, none⟩)] w fun e w' => ∃ (x : InsV) (va : Value), e = .returned (.agg #[.int .i64 x.op, .int .i64 x.d, .int .i64 x.a, .int .i64 x.b, .int .i64 x.n, .int .i64 x.m, va]) ∧ InsI w' (fun b => Made w w' b ∧ TB w' 3 b) va x ∧ ReadTr w g B (insT s).2 w' ∧ ((insT s).2.2 = 0 → x = (insT s).1) := by
  have hgw := h.lt
  have hio := insT_op s
  have hst := onlyT_st s
  have hnR := numT_R h.byt
  have hN := rdnum_any g B s (w.alloc (.cells (insBox (bare 0) (.slice none 0 0)) 40)) (h.alloc _)
  generalize (onlyT isOpB 5 s).2 = s1 at *
  generalize numT s = q at *
  obtain ⟨op, t1⟩ := q
  simp only at hio hst hnR hN
  have HIO := hide hio
  have hopR : i64R op := ⟨by omega, by omega⟩
  have HOP := hide hopR
  have HP := hide (fun W => rparts_any op W)
  have HL := hide (partsN_letter op)
  have hpl := partsN_len op
  obtain ⟨tx, htx⟩ : ∃ t, strOf (partsN op) = t := ⟨_, rfl⟩
  obtain ⟨htz, hat⟩ := strat_i (partsN_letter op) htx
  have HAT := hide hat
  have HTX := hide htx
  have HTZ := hide htz
  rw [htx] at HP
  have HST := hide hst
  have HN := hide hN
  obtain ⟨ln, hln⟩ : ∃ n, (partsN op).length = n := ⟨_, rfl⟩
  have HLN := hide hln
  have htl : tx.size ≤ 8 := by omega
  clear h hio hst hN hat htx htz hln hpl hopR hnR
  go_enter Tryd.func15, Tryd.ntmps15
  go_upto_region 2 with (go_at_call 14; refine HN.out.mono ?_; rintro e w1 ⟨rfl, hr1⟩; have hz1 := hr1.read.size; simp at hz1; have HBR1 := hide (hr1.read.box (Box.new w _ _) (by omega)); have HR1 := hide hr1; clear hr1)
  obtain ⟨w2, hw2⟩ : ∃ w2, w2 = w1.alloc (.cells #[.int .i64 op, .int .i64 0, .int .i64 0, .int .i64 0, .int .i64 0, .int .i64 0, .slice none 0 0] 40) := ⟨_, rfl⟩
  obtain ⟨hx, hhx⟩ : ∃ hx, w1.heap.size = hx := ⟨_, rfl⟩
  have HBX2 := hide (show Box w2 hx (insBox (bare op) (.slice none 0 0)) 40 by rw [hw2, ← hhx]; exact Box.new w1 _ _)
  have HBR2 := hide (show Box w2 w.heap.size (insBox (bare 0) (.slice none 0 0)) 40 by rw [hw2]; exact HBR1.out.alloc _)
  have HRS2 := hide (show RSr w2 g B t1 by rw [hw2]; exact HR1.out.rs.alloc _)
  have HRD2 := hide (show Read g w w2 by rw [hw2]; exact ((Read.refl g w).alloc _).trans (HR1.out.read.alloc _))
  have hgx : g < hx := by rw [← hhx]; exact HR1.out.rs.lt.2
  have h0x : w.heap.size < hx := by omega
  have hz2 : hx + 1 ≤ w2.heap.size := by rw [hw2, World.size_alloc]; omega
  rw [← hw2, hhx]
  clear hw2 hhx hz1 HBR1 HR1 HN
  have x0 := (HBX2.out.cell 0 (v := .int .i64 op) rfl).1
  obtain ⟨e1, e2⟩ := HRS2.out.see
  go_upto_region 3 with (go_at_call 9; refine (HP.out _).mono ?_; rintro e w' ⟨rfl, rfl⟩)
  clear x0 HP
  -- what the region of the test leaves: the state s1
  have HX0 := hide (show ∀ W : World, RSr W g B s1 → Box W hx (insBox (bare op) (.slice none 0 0)) 40 → hx + 1 ≤ W.heap.size → XIR W g B hx (hx + 1) (bare op) s1 from fun W h1 h2 h3 => ⟨.slice none 0 0, h2, Ow.nil _ _ _ _, ⟨HOP.out, by unfold i64R; simp [bare], by unfold i64R; simp [bare], by unfold i64R; simp [bare], by unfold i64R; simp [bare], by unfold i64R; simp [bare]⟩, fun z hz => absurd hz (by simp [bare]), h1, by omega, h3, by omega⟩)
  by_cases hA : t1.2 = 0 ∧ partsN op = []
  · have hs1 : s1 = (t1.1, 5) := by rw [HST.out, if_pos hA]
    subst hs1
    obtain ⟨hA1, hA2⟩ := hA
    have htx0 : tx = ⟨#[]⟩ := by rw [← HTX.out, hA2]; rfl
    subst htx0
    have hln0 : ln = 0 := by rw [← HLN.out, hA2]; rfl
    have HA2 := hide hA2
    have hE0 : (t1.2 : Int) = 0 := by omega
    rw [hE0] at e1
    have HF := hide (HRS2.out.fail (E := 5))
    clear hA1 hA2 hE0
    go_wp2
    go_loopw [5] (fun i wr => i = .int .i64 0 ∧ wr = w2.setCell ⟨g, 1, none⟩ (.int .i64 5)) (fun i _ => 0)
    case atStart => exact ⟨rfl, rfl⟩
    case round =>
      obtain ⟨rfl, hwr⟩ := hrel
      have HBR := hide (show Box wr w.heap.size (insBox (bare 0) (.slice none 0 0)) 40 by rw [hwr]; exact HF.out.read.box HBR2.out (by omega))
      have hXI := HX0.out wr (by rw [hwr]; exact HF.out.rs) (by rw [hwr]; exact HF.out.read.box HBX2.out (by omega)) (by rw [hwr, World.size_setCell]; omega)
      have HRD := hide (show Read g w wr by rw [hwr]; exact HRD2.out.trans HF.out.read)
      have HEQ := hide (show (insT s).2 = (t1.1, 5) ∧ ((insT s).2.2 = 0 → bare op = (insT s).1) from by
        have h1 := HIO.out
        rw [HA2.out] at h1
        exact ⟨h1.1, fun h => (h1.2 h).symm⟩)
      obtain ⟨r, hr⟩ : ∃ r, r = bare op := ⟨_, rfl⟩
      rw [← hr] at HEQ hXI
      clear hwr HX0 e1 e2 HBX2 HBR2 HRS2 HRD2 HF hr
      obtain ⟨A, n, c, hbx, hi, hrs⟩ := XIR.insI hXI w.heap.size (by omega)
      have HBX := hide hbx
      have HI := hide hi
      have HRS := hide hrs
      have y0 := (hbx.cell 0 (v := .int .i64 r.op) rfl).1
      have y1 := (hbx.cell 1 (v := .int .i64 r.d) rfl).1
      have y2 := (hbx.cell 2 (v := .int .i64 r.a) rfl).1
      have y3 := (hbx.cell 3 (v := .int .i64 r.b) rfl).1
      have y4 := (hbx.cell 4 (v := .int .i64 r.n) rfl).1
      have y5 := (hbx.cell 5 (v := .int .i64 r.m) rfl).1
      have y6 := (hbx.cell 6 (v := .slice A n c) rfl).1
      obtain ⟨x0, z0⟩ := HBR.out.cell 0 (v := .int .i64 0) rfl
      obtain ⟨x1, z1⟩ := HBR.out.cell 1 (v := .int .i64 0) rfl
      obtain ⟨x2, z2⟩ := HBR.out.cell 2 (v := .int .i64 0) rfl
      obtain ⟨x3, z3⟩ := HBR.out.cell 3 (v := .int .i64 0) rfl
      obtain ⟨x4, z4⟩ := HBR.out.cell 4 (v := .int .i64 0) rfl
      obtain ⟨x5, z5⟩ := HBR.out.cell 5 (v := .int .i64 0) rfl
      obtain ⟨x6, z6⟩ := HBR.out.cell 6 (v := .slice none 0 0) rfl
      have hq1 := hbx.lt
      have hq2 := HBR.out.lt
      obtain ⟨hr1, hr2⟩ := hrs.see
      have hr3 := hrs.lt
      clear hbx hi hrs
      go_wp2
      have hB := ((((((HBR.out.set 0 (.int .i64 r.op)).set 1 (.int .i64 r.d)).set 2 (.int .i64 r.a)).set 3 (.int .i64 r.b)).set 4 (.int .i64 r.n)).set 5 (.int .i64 r.m)).set 6 (.slice A n c)
      have c0 := (hB.cell 0 (v := .int .i64 r.op) (by simp)).1
      have c1 := (hB.cell 1 (v := .int .i64 r.d) (by simp)).1
      have c2 := (hB.cell 2 (v := .int .i64 r.a) (by simp)).1
      have c3 := (hB.cell 3 (v := .int .i64 r.b) (by simp)).1
      have c4 := (hB.cell 4 (v := .int .i64 r.n) (by simp)).1
      have c5 := (hB.cell 5 (v := .int .i64 r.m) (by simp)).1
      have c6 := (hB.cell 6 (v := .slice A n c) (by simp)).1
      have hsame : Same' (fun b => w.heap.size < b ∧ b < wr.heap.size ∧ TB wr 3 b) wr (((((((wr.setCell ⟨w.heap.size, 0, none⟩ (.int .i64 r.op)).setCell ⟨w.heap.size, 1, none⟩ (.int .i64 r.d)).setCell ⟨w.heap.size, 2, none⟩ (.int .i64 r.a)).setCell ⟨w.heap.size, 3, none⟩ (.int .i64 r.b)).setCell ⟨w.heap.size, 4, none⟩ (.int .i64 r.n)).setCell ⟨w.heap.size, 5, none⟩ (.int .i64 r.m)).setCell ⟨w.heap.size, 6, none⟩ (.slice A n c)) :=
        ((((((same_set' (fun b hb => by omega)).trans (same_set' (fun b hb => by omega))).trans (same_set' (fun b hb => by omega))).trans (same_set' (fun b hb => by omega))).trans (same_set' (fun b hb => by omega))).trans (same_set' (fun b hb => by omega))).trans (same_set' (fun b hb => by omega))
      refine bodyPost_ret (v := .agg #[.int .i64 r.op, .int .i64 r.d, .int .i64 r.a, .int .i64 r.b, .int .i64 r.n, .int .i64 r.m, .slice A n c]) (by simp [results, Tryd.results15, go_sem, c0, c1, c2, c3, c4, c5, c6]) rfl ⟨r, .slice A n c, rfl, ?_, ?_, HEQ.out.2⟩
      · exact HI.out.keep hsame (fun b hb => ⟨by unfold Made; simp only [World.size_setCell]; omega, ((((((hb.2.2.set (by omega)).set (by omega)).set (by omega)).set (by omega)).set (by omega)).set (by omega)).set (by omega)⟩)
      · rw [HEQ.out.1]
        exact ⟨((((((HRS.out.set (by omega)).set (by omega)).set (by omega)).set (by omega)).set (by omega)).set (by omega)).set (by omega), ((((((HRD.out.set (Or.inl (Nat.le_refl _))).set (Or.inl (Nat.le_refl _))).set (Or.inl (Nat.le_refl _))).set (Or.inl (Nat.le_refl _))).set (Or.inl (Nat.le_refl _))).set (Or.inl (Nat.le_refl _))).set (Or.inl (Nat.le_refl _))⟩
  · have hs1 : s1 = t1 := by rw [HST.out, if_neg hA]
    subst hs1
    have HXS := hide (HX0.out w2 HRS2.out HBX2.out hz2)
    by_cases hE : s1.2 = 0
    · have hls : partsN op ≠ [] := fun h => hA ⟨hE, h⟩
      have htn : (tx.toList == []) = false := by
        have := strOf_nil hls
        rw [HTX.out] at this
        simpa using this
      have hE0 : (s1.2 : Int) = 0 := by omega
      rw [hE0] at e1
      clear hA hls HX0 HST hE0 hE
      go_wp2
      go_loopw [5] (fun i wr => ∃ k : Nat, k ≤ ln ∧ i = .int .i64 k ∧ RIi s1 op w g B w.heap.size hx k wr) (fun i _ => ln - (intOf i).toNat)
      case atStart => exact ⟨0, Nat.zero_le _, rfl, HBR2.out, HXS.out, HRD2.out⟩
      case round =>
        obtain ⟨k, hk, rfl, hbr, hxi, hrd⟩ := hrel
        have HBR := hide hbr
        have HRD := hide hrd
        have hszr := hrd.size
        clear hbr hrd e1 e2 htn HBX2 HBR2 HRS2 HRD2 HXS
        obtain ⟨r, t, hq⟩ : ∃ r t, ((partsN op).take k).foldl partT (bare op, s1) = (r, t) := ⟨_, _, rfl⟩
        rw [hq] at hxi
        simp only at hxi
        have HQ := hide hq
        have HXI := hide hxi
        by_cases hend : k < ln ∧ t.2 = 0
        · obtain ⟨hlt, ht0⟩ := hend
          have hkt : k < tx.size := by have := HTZ.out; have := HLN.out; omega
          have HK := hide hlt
          obtain ⟨d, hd⟩ : ∃ d, (partsN op)[k]? = some d := ⟨_, List.getElem?_eq_getElem (by have := HLN.out; omega)⟩
          have hdt := HAT.out k d hd hkt
          have hlc := HL.out d (List.mem_of_getElem? hd)
          have hfo := fold_take (f := partT) (a := (bare op, s1)) hd
          rw [hq] at hfo
          have HFO := hide hfo
          have HD := hide hd
          obtain ⟨u0, hbx, ho, hR, hz, hrs, hgb, hbs, hne⟩ := hxi
          have hby := hrs.byt
          obtain ⟨e1, e2⟩ := hrs.see
          have ht0' : (t.2 : Int) = 0 := by omega
          rw [ht0'] at e1
          have HBX := hide hbx
          have HRS := hide hrs
          have HR := hide hR
          have HOW := hide ho
          have HZ := hide hz
          have hq1 := hbx.lt
          have hgl := hrs.lt
          have hq2 := HBR.out.lt
          clear hq hd hfo hbx ho hR hz hrs ht0 ht0' hlt
          unfold isLetter at hlc
          rcases hlc with rfl | rfl | rfl | rfl | rfl | rfl | rfl
          · have hpt := hide (show ((partsN op).take (k + 1)).foldl partT (bare op, s1) = ({ r with d := (numT t).1 }, (numT t).2) by rw [HFO.out]; exact part_num (by omega) (by omega))
            have hN := rdnum_any g B t wr HRS.out
            have hiR := (HR.out.setF 68 (numT_i64 hby) : InsR { r with d := (numT t).1 })
            have HIR := hide hiR
            generalize numT t = u at *
            have HN := hide hN
            clear hN hiR hby
            go_wp2_with (go_at_call 14; refine HN.out.mono ?_; rintro e w3 ⟨rfl, hr3⟩; have hb3 := hr3.read.box HBX.out (by omega); obtain ⟨y7, z7⟩ := hb3.cell 1 (v := .int .i64 r.d) rfl; have hq3 := hb3.lt; have HR3 := hide hr3; clear hb3 hr3)
            go_roundw
            case rel => exact ⟨k + 1, HK.out, by go_num, (HR3.out.read.box HBR.out (by omega)).other (by omega), by rw [hpt.out]; exact (HXI.out.read HR3.out).fld (by omega) (by omega) 1 _ _ (fun _ => rfl) rfl HIR.out, (HRD.out.trans HR3.out.read).set (Or.inl (by omega))⟩
            case measure => have := HK.out; simp [intOf]; omega
          · have hpt := hide (show ((partsN op).take (k + 1)).foldl partT (bare op, s1) = ({ r with a := (numT t).1 }, (numT t).2) by rw [HFO.out]; exact part_num (by omega) (by omega))
            have hN := rdnum_any g B t wr HRS.out
            have hiR := (HR.out.setF 65 (numT_i64 hby) : InsR { r with a := (numT t).1 })
            have HIR := hide hiR
            generalize numT t = u at *
            have HN := hide hN
            clear hN hiR hby
            go_wp2_with (go_at_call 14; refine HN.out.mono ?_; rintro e w3 ⟨rfl, hr3⟩; have hb3 := hr3.read.box HBX.out (by omega); obtain ⟨y7, z7⟩ := hb3.cell 2 (v := .int .i64 r.a) rfl; have hq3 := hb3.lt; have HR3 := hide hr3; clear hb3 hr3)
            go_roundw
            case rel => exact ⟨k + 1, HK.out, by go_num, (HR3.out.read.box HBR.out (by omega)).other (by omega), by rw [hpt.out]; exact (HXI.out.read HR3.out).fld (by omega) (by omega) 2 _ _ (fun _ => rfl) rfl HIR.out, (HRD.out.trans HR3.out.read).set (Or.inl (by omega))⟩
            case measure => have := HK.out; simp [intOf]; omega
          · have hpt := hide (show ((partsN op).take (k + 1)).foldl partT (bare op, s1) = ({ r with b := (numT t).1 }, (numT t).2) by rw [HFO.out]; exact part_num (by omega) (by omega))
            have hN := rdnum_any g B t wr HRS.out
            have hiR := (HR.out.setF 66 (numT_i64 hby) : InsR { r with b := (numT t).1 })
            have HIR := hide hiR
            generalize numT t = u at *
            have HN := hide hN
            clear hN hiR hby
            go_wp2_with (go_at_call 14; refine HN.out.mono ?_; rintro e w3 ⟨rfl, hr3⟩; have hb3 := hr3.read.box HBX.out (by omega); obtain ⟨y7, z7⟩ := hb3.cell 3 (v := .int .i64 r.b) rfl; have hq3 := hb3.lt; have HR3 := hide hr3; clear hb3 hr3)
            go_roundw
            case rel => exact ⟨k + 1, HK.out, by go_num, (HR3.out.read.box HBR.out (by omega)).other (by omega), by rw [hpt.out]; exact (HXI.out.read HR3.out).fld (by omega) (by omega) 3 _ _ (fun _ => rfl) rfl HIR.out, (HRD.out.trans HR3.out.read).set (Or.inl (by omega))⟩
            case measure => have := HK.out; simp [intOf]; omega
          · have hpt := hide (show ((partsN op).take (k + 1)).foldl partT (bare op, s1) = ({ r with n := (numT t).1 }, (numT t).2) by rw [HFO.out]; exact part_num (by omega) (by omega))
            have hN := rdnum_any g B t wr HRS.out
            have hiR := (HR.out.setF 78 (numT_i64 hby) : InsR { r with n := (numT t).1 })
            have HIR := hide hiR
            generalize numT t = u at *
            have HN := hide hN
            clear hN hiR hby
            go_wp2_with (go_at_call 14; refine HN.out.mono ?_; rintro e w3 ⟨rfl, hr3⟩; have hb3 := hr3.read.box HBX.out (by omega); obtain ⟨y7, z7⟩ := hb3.cell 4 (v := .int .i64 r.n) rfl; have hq3 := hb3.lt; have HR3 := hide hr3; clear hb3 hr3)
            go_roundw
            case rel => exact ⟨k + 1, HK.out, by go_num, (HR3.out.read.box HBR.out (by omega)).other (by omega), by rw [hpt.out]; exact (HXI.out.read HR3.out).fld (by omega) (by omega) 4 _ _ (fun _ => rfl) rfl HIR.out, (HRD.out.trans HR3.out.read).set (Or.inl (by omega))⟩
            case measure => have := HK.out; simp [intOf]; omega
          · have hpt := hide (show ((partsN op).take (k + 1)).foldl partT (bare op, s1) = ({ r with m := (numT t).1 }, (numT t).2) by rw [HFO.out]; exact part_num (by omega) (by omega))
            have hN := rdnum_any g B t wr HRS.out
            have hiR := (HR.out.setF 77 (numT_i64 hby) : InsR { r with m := (numT t).1 })
            have HIR := hide hiR
            generalize numT t = u at *
            have HN := hide hN
            clear hN hiR hby
            go_wp2_with (go_at_call 14; refine HN.out.mono ?_; rintro e w3 ⟨rfl, hr3⟩; have hb3 := hr3.read.box HBX.out (by omega); obtain ⟨y7, z7⟩ := hb3.cell 5 (v := .int .i64 r.m) rfl; have hq3 := hb3.lt; have HR3 := hide hr3; clear hb3 hr3)
            go_roundw
            case rel => exact ⟨k + 1, HK.out, by go_num, (HR3.out.read.box HBR.out (by omega)).other (by omega), by rw [hpt.out]; exact (HXI.out.read HR3.out).fld (by omega) (by omega) 5 _ _ (fun _ => rfl) rfl HIR.out, (HRD.out.trans HR3.out.read).set (Or.inl (by omega))⟩
            case measure => have := HK.out; simp [intOf]; omega
          · have hpt := hide (show ((partsN op).take (k + 1)).foldl partT (bare op, s1) = ({ r with n := (snumT t).1 }, (snumT t).2) by rw [HFO.out]; exact rfl)
            have hN := rdsig_any g B t wr HRS.out
            have hiR := (HR.out.setN (snumT_R hby) : InsR { r with n := (snumT t).1 })
            have HIR := hide hiR
            generalize snumT t = u at *
            have HN := hide hN
            clear hN hiR hby
            go_wp2_with (go_at_call 25; refine HN.out.mono ?_; rintro e w3 ⟨rfl, hr3⟩; have hb3 := hr3.read.box HBX.out (by omega); obtain ⟨y7, z7⟩ := hb3.cell 4 (v := .int .i64 r.n) rfl; have hq3 := hb3.lt; have HR3 := hide hr3; clear hb3 hr3)
            go_roundw
            case rel => exact ⟨k + 1, HK.out, by go_num, (HR3.out.read.box HBR.out (by omega)).other (by omega), by rw [hpt.out]; exact (HXI.out.read HR3.out).fld (by omega) (by omega) 4 _ _ (fun _ => rfl) rfl HIR.out, (HRD.out.trans HR3.out.read).set (Or.inl (by omega))⟩
            case measure => have := HK.out; simp [intOf]; omega
          · have ha := args_nil HD.out (s := s1)
            rw [HQ.out] at ha
            simp only at ha
            have hU := rdupto_any g B 9 4 9 4 rfl (by omega) rfl t wr HRS.out
            have hcR := cntT_R (lo := 0) (hi := 4) hby (by omega)
            obtain ⟨m, hm⟩ : ∃ m : Nat, (cntT 0 4 t).1 = (m : Int) := ⟨(cntT 0 4 t).1.toNat, by omega⟩
            have hpt : ((partsN op).take (k + 1)).foldl partT (bare op, s1) = ({ r with args := (manyT numT m (cntT 0 4 t).2).1 }, (manyT numT m (cntT 0 4 t).2).2) := by
              rw [HFO.out]
              show ({ r with args := (listT t).1 }, (listT t).2) = _
              have : listT t = manyT numT m (cntT 0 4 t).2 := by unfold listT; rw [hm]; rfl
              rw [this]
            have HPT := hide hpt
            change Calls _ _ _ _ (fun e w' => e = .returned (.int .i64 (cntT 0 4 t).1) ∧ ReadTr wr g B (cntT 0 4 t).2 w') at hU
            rw [hm] at hU hcR
            have hm4 : m ≤ 4 := by omega
            have HRA := hide (show ∀ v : List Int, v = [] → { r with args := v } = r from fun v hv => by rw [hv, ← ha])
            generalize (cntT 0 4 t).2 = c at *
            have HU := hide hU
            obtain ⟨wo, rfl⟩ : ∃ wo, wo = wr := ⟨_, rfl⟩
            obtain ⟨i0, hi0, iz0, iz1, iz2⟩ := info_parts info_i64
            have HI0 := hide hi0
            clear hU hpt hm ha hby hcR hi0
            go_wp2_with (go_at_call 13; refine HU.out.mono ?_; rintro e w3 ⟨rfl, hr3⟩; have HR3 := hide hr3; clear hr3)
            have hz3 := HR3.out.read.size
            go_loopw [6] (fun i wr => ∃ j : Nat, j ≤ m ∧ i = .int .i64 ((m - j : Nat) : Int) ∧ RIj r c w g B w.heap.size hx j wr) (fun i _ => (intOf i).toNat)
            case atStart => exact ⟨0, Nat.zero_le _, by simp, HR3.out.read.box HBR.out (by omega), by show XIR w3 g B hx (hx + 1) { r with args := [] } c; rw [HRA.out [] rfl]; exact HXI.out.read HR3.out, HRD.out.trans HR3.out.read⟩
            case round =>
              obtain ⟨j, hj, rfl, hbr, hxi, hrd⟩ := hrel
              by_cases hjl : j < m
              · obtain ⟨p, hp⟩ : ∃ p, manyT numT j c = p := ⟨_, rfl⟩
                have hst := hide (show (manyT numT (j + 1) c).2 = (numT p.2).2 by rw [manyT_st, hp])
                have hls := hide (show (manyT numT (j + 1) c).1 = p.1 ++ [(numT p.2).1] by rw [manyT_ls, hp])
                have hlen : p.1.length = j := by rw [← hp]; exact manyT_len _ _ _
                rw [hp] at hxi
                obtain ⟨v, hbx, ho, hR, hzs, hrs, hgb, hbs, hne⟩ := hxi
                obtain ⟨A0, c0, rfl, -, -, -⟩ := ho.sl
                simp only at hbx ho hzs hrs
                have hN := rdnum_any g B p.2 (wr.drewN 1) (hrs.drewN 1)
                have hir := numT_i64 hrs.byt
                generalize numT p.2 = y at *
                have HN := hide hN
                have HIR := hide hir
                have HBXj := hide hbx
                have HOWj := hide ho
                have HRj := hide hR
                have HZj := hide hzs
                have HRDj := hide hrd
                have HBRj := hide hbr
                have hap := ho.apart hbx (by decide)
                have b6 := (hbx.cell 6 (v := .slice A0 p.1.length c0) rfl).1
                have hq1j := hbx.lt
                have hzr := hrd.size
                have HLEN := hide hlen
                have hlp : p.1.length ≤ 4 := by omega
                have HAP := hide hap
                have hown : ∀ b, (Value.slice A0 p.1.length c0).ownBlock = some b → b ≠ g := fun b hb e => by
                  have := (Ow.row ho b hb).1
                  omega
                have HOG := hide (show (Value.slice A0 p.1.length c0).ownBlock ≠ some g from fun e => hown g e rfl)
                clear hN hir hbx ho hR hzs hrs hrd hbr hp hap hlen hown
                obtain ⟨np, hnp⟩ : ∃ n, p.1.length = n := ⟨_, rfl⟩
                have HNP := hide hnp
                rw [hnp] at b6 hlp
                clear hnp
                have hij : (0 : Int) < ((m - j : Nat) : Int) := by omega
                go_upto_region 25 with (fail)
                go_region_law
                  (first
                    | (refine step_append_sl (w3.alloc (.cells #[.int .i64 y.1] 3)) (by rfl) _ _ _ (by rfl) (hx + 1) 3 .i64 i0 _ 8 Tryd.underlying35 HI0.out iz0 iz1 iz2 rfl (by omega) (.slice A0 np c0) p.1 (by rfl) (by rw [← HNP.out]; exact (HOWj.out.read HR3j.out.read HOG.out).alloc _) (w3.heap.size + 1) (some ⟨w3.heap.size, 0, none⟩) 1 1 [y.1] (by rfl) rfl (Sl.lit w3 _ _ _ _ rfl) (by have := HNP.out; omega) (by simp only [World.size_alloc]; omega) ?_; intro v5 w5 ho5 hg5; obtain ⟨A5, c5, hv5, -, -, -⟩ := ho5.sl; obtain ⟨n5, hn5⟩ : ∃ n5, (p.1 ++ [y.1]).length = n5 := ⟨_, rfl⟩; rw [hn5] at hv5; subst hv5; clear hn5; have hend := XIR.app (r := { r with args := p.1 }) HB3j.out (HOWj.out.read HR3j.out.read HOG.out) HRj.out HZj.out HR3j.out.rs (by omega) (by omega) (by omega) (by omega) (alloc1 w3 (.cells #[.int .i64 y.1] 3)) (by rw [HNP.out]; exact hg5) ho5 HIR.out (HRDj.out.trans HR3j.out.read) (by omega); have hbb := hend.2.2; have f6 := (HB3j.out.belowB hbb (by omega)).cell 6 (v := .slice A0 p.1.length c0) rfl; obtain ⟨f7, f8⟩ := f6; have HEND := hide hend; clear hend hbb)
                    | (rw [if_pos (by rfl)]; go_simp; go_at_call 14; refine HN.out.mono ?_; rintro e w3 ⟨rfl, hr3'⟩; have hr3 : ReadTr wr g B y.2 w3 := ⟨hr3'.rs, ⟨hr3'.read.os, hr3'.read.tape, hr3'.read.output, hr3'.read.size, hr3'.read.block⟩⟩; have HR3j := hide hr3; have HB3j := hide (hr3.read.box HBXj.out (by omega)); have q6 := (HB3j.out.cell 6 (v := .slice A0 p.1.length c0) rfl).1; rw [HNP.out] at q6; have q7 := ((HB3j.out.alloc (.cells #[.int .i64 y.1] 3)).cell 6 (v := .slice A0 p.1.length c0) rfl).1; rw [HNP.out] at q7; have q8 := HB3j.out.lt; have hz3j := hr3.read.size; clear hr3 hr3'))
                all_goals
                  go_wp2
                  go_roundw
                  case rel => exact ⟨j + 1, by omega, by go_num, (HR3j.out.read.box HBRj.out (by omega) |>.belowB HEND.out.2.2 (by omega)).other (by omega), by rw [hst.out, hls.out]; exact HEND.out.1, HEND.out.2.1⟩
                  case measure => simp [intOf]; omega
              · have hjm : j = m := by omega
                subst hjm
                have HBRj := hide hbr
                have HXIj := hide hxi
                have HRDj := hide hrd
                clear hbr hxi hrd
                go_wp2
                go_roundw
                case rel => exact ⟨k + 1, HK.out, by go_num, HBRj.out, by rw [HPT.out]; exact HXIj.out, HRDj.out⟩
                case measure => have := HK.out; simp [intOf]; omega
        · have HEQ := hide (show (insT s).2 = t ∧ ((insT s).2.2 = 0 → r = (insT s).1) from by
            have h1 := HIO.out
            by_cases hkl : k < ln
            · have hte : t.2 ≠ 0 := fun e => hend ⟨hkl, e⟩
              have hf := fold_stop (l := partsN op) (p := (bare op, s1)) (k := k) (by rw [hq]; exact hte)
              rw [hq] at hf
              rw [hf] at h1
              exact ⟨h1.1, fun h => absurd h (by rw [h1.1]; exact hte)⟩
            · rw [List.take_of_length_le (by have := HLN.out; omega)] at hq
              rw [hq] at h1
              exact ⟨h1.1, fun h => (h1.2 h).symm⟩)
          have hkc : ¬ k < tx.size ∨ (k < tx.size ∧ ((t.2 : Int) == 0) = false) := by
            have := HTZ.out
            have := HLN.out
            by_cases hkl : k < ln
            · exact .inr ⟨by omega, by
                have : t.2 ≠ 0 := fun e => hend ⟨hkl, e⟩
                simp; omega⟩
            · exact .inl (by omega)
          have hXI := HXI.out
          clear hq HQ hxi hend HXI
          rcases hkc with hkc | ⟨hkc, hkd⟩
          · obtain ⟨A, n, c, hbx, hi, hrs⟩ := XIR.insI hXI w.heap.size (by omega)
            have HBX := hide hbx
            have HI := hide hi
            have HRS := hide hrs
            have y0 := (hbx.cell 0 (v := .int .i64 r.op) rfl).1
            have y1 := (hbx.cell 1 (v := .int .i64 r.d) rfl).1
            have y2 := (hbx.cell 2 (v := .int .i64 r.a) rfl).1
            have y3 := (hbx.cell 3 (v := .int .i64 r.b) rfl).1
            have y4 := (hbx.cell 4 (v := .int .i64 r.n) rfl).1
            have y5 := (hbx.cell 5 (v := .int .i64 r.m) rfl).1
            have y6 := (hbx.cell 6 (v := .slice A n c) rfl).1
            obtain ⟨x0, z0⟩ := HBR.out.cell 0 (v := .int .i64 0) rfl
            obtain ⟨x1, z1⟩ := HBR.out.cell 1 (v := .int .i64 0) rfl
            obtain ⟨x2, z2⟩ := HBR.out.cell 2 (v := .int .i64 0) rfl
            obtain ⟨x3, z3⟩ := HBR.out.cell 3 (v := .int .i64 0) rfl
            obtain ⟨x4, z4⟩ := HBR.out.cell 4 (v := .int .i64 0) rfl
            obtain ⟨x5, z5⟩ := HBR.out.cell 5 (v := .int .i64 0) rfl
            obtain ⟨x6, z6⟩ := HBR.out.cell 6 (v := .slice none 0 0) rfl
            have hq1 := hbx.lt
            have hq2 := HBR.out.lt
            obtain ⟨hr1, hr2⟩ := hrs.see
            have hr3 := hrs.lt
            clear hbx hi hrs
            go_wp2
            have hB := ((((((HBR.out.set 0 (.int .i64 r.op)).set 1 (.int .i64 r.d)).set 2 (.int .i64 r.a)).set 3 (.int .i64 r.b)).set 4 (.int .i64 r.n)).set 5 (.int .i64 r.m)).set 6 (.slice A n c)
            have c0 := (hB.cell 0 (v := .int .i64 r.op) (by simp)).1
            have c1 := (hB.cell 1 (v := .int .i64 r.d) (by simp)).1
            have c2 := (hB.cell 2 (v := .int .i64 r.a) (by simp)).1
            have c3 := (hB.cell 3 (v := .int .i64 r.b) (by simp)).1
            have c4 := (hB.cell 4 (v := .int .i64 r.n) (by simp)).1
            have c5 := (hB.cell 5 (v := .int .i64 r.m) (by simp)).1
            have c6 := (hB.cell 6 (v := .slice A n c) (by simp)).1
            have hsame : Same' (fun b => w.heap.size < b ∧ b < wr.heap.size ∧ TB wr 3 b) wr (((((((wr.setCell ⟨w.heap.size, 0, none⟩ (.int .i64 r.op)).setCell ⟨w.heap.size, 1, none⟩ (.int .i64 r.d)).setCell ⟨w.heap.size, 2, none⟩ (.int .i64 r.a)).setCell ⟨w.heap.size, 3, none⟩ (.int .i64 r.b)).setCell ⟨w.heap.size, 4, none⟩ (.int .i64 r.n)).setCell ⟨w.heap.size, 5, none⟩ (.int .i64 r.m)).setCell ⟨w.heap.size, 6, none⟩ (.slice A n c)) :=
              ((((((same_set' (fun b hb => by omega)).trans (same_set' (fun b hb => by omega))).trans (same_set' (fun b hb => by omega))).trans (same_set' (fun b hb => by omega))).trans (same_set' (fun b hb => by omega))).trans (same_set' (fun b hb => by omega))).trans (same_set' (fun b hb => by omega))
            refine bodyPost_ret (v := .agg #[.int .i64 r.op, .int .i64 r.d, .int .i64 r.a, .int .i64 r.b, .int .i64 r.n, .int .i64 r.m, .slice A n c]) (by simp [results, Tryd.results15, go_sem, c0, c1, c2, c3, c4, c5, c6]) rfl ⟨r, .slice A n c, rfl, ?_, ?_, HEQ.out.2⟩
            · exact HI.out.keep hsame (fun b hb => ⟨by unfold Made; simp only [World.size_setCell]; omega, ((((((hb.2.2.set (by omega)).set (by omega)).set (by omega)).set (by omega)).set (by omega)).set (by omega)).set (by omega)⟩)
            · rw [HEQ.out.1]
              exact ⟨((((((HRS.out.set (by omega)).set (by omega)).set (by omega)).set (by omega)).set (by omega)).set (by omega)).set (by omega), ((((((HRD.out.set (Or.inl (Nat.le_refl _))).set (Or.inl (Nat.le_refl _))).set (Or.inl (Nat.le_refl _))).set (Or.inl (Nat.le_refl _))).set (Or.inl (Nat.le_refl _))).set (Or.inl (Nat.le_refl _))).set (Or.inl (Nat.le_refl _))⟩
          · obtain ⟨A, n, c, hbx, hi, hrs⟩ := XIR.insI hXI w.heap.size (by omega)
            have HBX := hide hbx
            have HI := hide hi
            have HRS := hide hrs
            have y0 := (hbx.cell 0 (v := .int .i64 r.op) rfl).1
            have y1 := (hbx.cell 1 (v := .int .i64 r.d) rfl).1
            have y2 := (hbx.cell 2 (v := .int .i64 r.a) rfl).1
            have y3 := (hbx.cell 3 (v := .int .i64 r.b) rfl).1
            have y4 := (hbx.cell 4 (v := .int .i64 r.n) rfl).1
            have y5 := (hbx.cell 5 (v := .int .i64 r.m) rfl).1
            have y6 := (hbx.cell 6 (v := .slice A n c) rfl).1
            obtain ⟨x0, z0⟩ := HBR.out.cell 0 (v := .int .i64 0) rfl
            obtain ⟨x1, z1⟩ := HBR.out.cell 1 (v := .int .i64 0) rfl
            obtain ⟨x2, z2⟩ := HBR.out.cell 2 (v := .int .i64 0) rfl
            obtain ⟨x3, z3⟩ := HBR.out.cell 3 (v := .int .i64 0) rfl
            obtain ⟨x4, z4⟩ := HBR.out.cell 4 (v := .int .i64 0) rfl
            obtain ⟨x5, z5⟩ := HBR.out.cell 5 (v := .int .i64 0) rfl
            obtain ⟨x6, z6⟩ := HBR.out.cell 6 (v := .slice none 0 0) rfl
            have hq1 := hbx.lt
            have hq2 := HBR.out.lt
            obtain ⟨hr1, hr2⟩ := hrs.see
            have hr3 := hrs.lt
            clear hbx hi hrs
            go_wp2
            have hB := ((((((HBR.out.set 0 (.int .i64 r.op)).set 1 (.int .i64 r.d)).set 2 (.int .i64 r.a)).set 3 (.int .i64 r.b)).set 4 (.int .i64 r.n)).set 5 (.int .i64 r.m)).set 6 (.slice A n c)
            have c0 := (hB.cell 0 (v := .int .i64 r.op) (by simp)).1
            have c1 := (hB.cell 1 (v := .int .i64 r.d) (by simp)).1
            have c2 := (hB.cell 2 (v := .int .i64 r.a) (by simp)).1
            have c3 := (hB.cell 3 (v := .int .i64 r.b) (by simp)).1
            have c4 := (hB.cell 4 (v := .int .i64 r.n) (by simp)).1
            have c5 := (hB.cell 5 (v := .int .i64 r.m) (by simp)).1
            have c6 := (hB.cell 6 (v := .slice A n c) (by simp)).1
            have hsame : Same' (fun b => w.heap.size < b ∧ b < wr.heap.size ∧ TB wr 3 b) wr (((((((wr.setCell ⟨w.heap.size, 0, none⟩ (.int .i64 r.op)).setCell ⟨w.heap.size, 1, none⟩ (.int .i64 r.d)).setCell ⟨w.heap.size, 2, none⟩ (.int .i64 r.a)).setCell ⟨w.heap.size, 3, none⟩ (.int .i64 r.b)).setCell ⟨w.heap.size, 4, none⟩ (.int .i64 r.n)).setCell ⟨w.heap.size, 5, none⟩ (.int .i64 r.m)).setCell ⟨w.heap.size, 6, none⟩ (.slice A n c)) :=
              ((((((same_set' (fun b hb => by omega)).trans (same_set' (fun b hb => by omega))).trans (same_set' (fun b hb => by omega))).trans (same_set' (fun b hb => by omega))).trans (same_set' (fun b hb => by omega))).trans (same_set' (fun b hb => by omega))).trans (same_set' (fun b hb => by omega))
            refine bodyPost_ret (v := .agg #[.int .i64 r.op, .int .i64 r.d, .int .i64 r.a, .int .i64 r.b, .int .i64 r.n, .int .i64 r.m, .slice A n c]) (by simp [results, Tryd.results15, go_sem, c0, c1, c2, c3, c4, c5, c6]) rfl ⟨r, .slice A n c, rfl, ?_, ?_, HEQ.out.2⟩
            · exact HI.out.keep hsame (fun b hb => ⟨by unfold Made; simp only [World.size_setCell]; omega, ((((((hb.2.2.set (by omega)).set (by omega)).set (by omega)).set (by omega)).set (by omega)).set (by omega)).set (by omega)⟩)
            · rw [HEQ.out.1]
              exact ⟨((((((HRS.out.set (by omega)).set (by omega)).set (by omega)).set (by omega)).set (by omega)).set (by omega)).set (by omega), ((((((HRD.out.set (Or.inl (Nat.le_refl _))).set (Or.inl (Nat.le_refl _))).set (Or.inl (Nat.le_refl _))).set (Or.inl (Nat.le_refl _))).set (Or.inl (Nat.le_refl _))).set (Or.inl (Nat.le_refl _))).set (Or.inl (Nat.le_refl _))⟩
    · have hEb : ((s1.2 : Int) == 0) = false := by simp; omega
      have HNE := hide hE
      clear hA hE HX0 HST
      go_wp2
      go_loopw [5] (fun i wr => i = .int .i64 0 ∧ wr = w2) (fun i _ => 0)
      case atStart => exact ⟨rfl, rfl⟩
      case round =>
        obtain ⟨rfl, hwr⟩ := hrel
        have HBR := hide (show Box wr w.heap.size (insBox (bare 0) (.slice none 0 0)) 40 by rw [hwr]; exact HBR2.out)
        have hXI : XIR wr g B hx (hx + 1) (bare op) s1 := by rw [hwr]; exact HXS.out
        have HRD := hide (show Read g w wr by rw [hwr]; exact HRD2.out)
        have HEQ := hide (show (insT s).2 = s1 ∧ ((insT s).2.2 = 0 → bare op = (insT s).1) from by
          have h1 := HIO.out.1
          rw [fold_keep _ _ HNE.out] at h1
          exact ⟨h1, fun h => absurd h (by rw [h1]; exact HNE.out)⟩)
        obtain ⟨r, hr⟩ : ∃ r, r = bare op := ⟨_, rfl⟩
        rw [← hr] at HEQ hXI
        clear hwr HXS e1 e2 HBX2 HBR2 HRS2 HRD2 hr
        by_cases hkc : 0 < tx.size
        · obtain ⟨A, n, c, hbx, hi, hrs⟩ := XIR.insI hXI w.heap.size (by omega)
          have HBX := hide hbx
          have HI := hide hi
          have HRS := hide hrs
          have y0 := (hbx.cell 0 (v := .int .i64 r.op) rfl).1
          have y1 := (hbx.cell 1 (v := .int .i64 r.d) rfl).1
          have y2 := (hbx.cell 2 (v := .int .i64 r.a) rfl).1
          have y3 := (hbx.cell 3 (v := .int .i64 r.b) rfl).1
          have y4 := (hbx.cell 4 (v := .int .i64 r.n) rfl).1
          have y5 := (hbx.cell 5 (v := .int .i64 r.m) rfl).1
          have y6 := (hbx.cell 6 (v := .slice A n c) rfl).1
          obtain ⟨x0, z0⟩ := HBR.out.cell 0 (v := .int .i64 0) rfl
          obtain ⟨x1, z1⟩ := HBR.out.cell 1 (v := .int .i64 0) rfl
          obtain ⟨x2, z2⟩ := HBR.out.cell 2 (v := .int .i64 0) rfl
          obtain ⟨x3, z3⟩ := HBR.out.cell 3 (v := .int .i64 0) rfl
          obtain ⟨x4, z4⟩ := HBR.out.cell 4 (v := .int .i64 0) rfl
          obtain ⟨x5, z5⟩ := HBR.out.cell 5 (v := .int .i64 0) rfl
          obtain ⟨x6, z6⟩ := HBR.out.cell 6 (v := .slice none 0 0) rfl
          have hq1 := hbx.lt
          have hq2 := HBR.out.lt
          obtain ⟨hr1, hr2⟩ := hrs.see
          have hr3 := hrs.lt
          clear hbx hi hrs
          go_wp2
          have hB := ((((((HBR.out.set 0 (.int .i64 r.op)).set 1 (.int .i64 r.d)).set 2 (.int .i64 r.a)).set 3 (.int .i64 r.b)).set 4 (.int .i64 r.n)).set 5 (.int .i64 r.m)).set 6 (.slice A n c)
          have c0 := (hB.cell 0 (v := .int .i64 r.op) (by simp)).1
          have c1 := (hB.cell 1 (v := .int .i64 r.d) (by simp)).1
          have c2 := (hB.cell 2 (v := .int .i64 r.a) (by simp)).1
          have c3 := (hB.cell 3 (v := .int .i64 r.b) (by simp)).1
          have c4 := (hB.cell 4 (v := .int .i64 r.n) (by simp)).1
          have c5 := (hB.cell 5 (v := .int .i64 r.m) (by simp)).1
          have c6 := (hB.cell 6 (v := .slice A n c) (by simp)).1
          have hsame : Same' (fun b => w.heap.size < b ∧ b < wr.heap.size ∧ TB wr 3 b) wr (((((((wr.setCell ⟨w.heap.size, 0, none⟩ (.int .i64 r.op)).setCell ⟨w.heap.size, 1, none⟩ (.int .i64 r.d)).setCell ⟨w.heap.size, 2, none⟩ (.int .i64 r.a)).setCell ⟨w.heap.size, 3, none⟩ (.int .i64 r.b)).setCell ⟨w.heap.size, 4, none⟩ (.int .i64 r.n)).setCell ⟨w.heap.size, 5, none⟩ (.int .i64 r.m)).setCell ⟨w.heap.size, 6, none⟩ (.slice A n c)) :=
            ((((((same_set' (fun b hb => by omega)).trans (same_set' (fun b hb => by omega))).trans (same_set' (fun b hb => by omega))).trans (same_set' (fun b hb => by omega))).trans (same_set' (fun b hb => by omega))).trans (same_set' (fun b hb => by omega))).trans (same_set' (fun b hb => by omega))
          refine bodyPost_ret (v := .agg #[.int .i64 r.op, .int .i64 r.d, .int .i64 r.a, .int .i64 r.b, .int .i64 r.n, .int .i64 r.m, .slice A n c]) (by simp [results, Tryd.results15, go_sem, c0, c1, c2, c3, c4, c5, c6]) rfl ⟨r, .slice A n c, rfl, ?_, ?_, HEQ.out.2⟩
          · exact HI.out.keep hsame (fun b hb => ⟨by unfold Made; simp only [World.size_setCell]; omega, ((((((hb.2.2.set (by omega)).set (by omega)).set (by omega)).set (by omega)).set (by omega)).set (by omega)).set (by omega)⟩)
          · rw [HEQ.out.1]
            exact ⟨((((((HRS.out.set (by omega)).set (by omega)).set (by omega)).set (by omega)).set (by omega)).set (by omega)).set (by omega), ((((((HRD.out.set (Or.inl (Nat.le_refl _))).set (Or.inl (Nat.le_refl _))).set (Or.inl (Nat.le_refl _))).set (Or.inl (Nat.le_refl _))).set (Or.inl (Nat.le_refl _))).set (Or.inl (Nat.le_refl _))).set (Or.inl (Nat.le_refl _))⟩
        · obtain ⟨A, n, c, hbx, hi, hrs⟩ := XIR.insI hXI w.heap.size (by omega)
          have HBX := hide hbx
          have HI := hide hi
          have HRS := hide hrs
          have y0 := (hbx.cell 0 (v := .int .i64 r.op) rfl).1
          have y1 := (hbx.cell 1 (v := .int .i64 r.d) rfl).1
          have y2 := (hbx.cell 2 (v := .int .i64 r.a) rfl).1
          have y3 := (hbx.cell 3 (v := .int .i64 r.b) rfl).1
          have y4 := (hbx.cell 4 (v := .int .i64 r.n) rfl).1
          have y5 := (hbx.cell 5 (v := .int .i64 r.m) rfl).1
          have y6 := (hbx.cell 6 (v := .slice A n c) rfl).1
          obtain ⟨x0, z0⟩ := HBR.out.cell 0 (v := .int .i64 0) rfl
          obtain ⟨x1, z1⟩ := HBR.out.cell 1 (v := .int .i64 0) rfl
          obtain ⟨x2, z2⟩ := HBR.out.cell 2 (v := .int .i64 0) rfl
          obtain ⟨x3, z3⟩ := HBR.out.cell 3 (v := .int .i64 0) rfl
          obtain ⟨x4, z4⟩ := HBR.out.cell 4 (v := .int .i64 0) rfl
          obtain ⟨x5, z5⟩ := HBR.out.cell 5 (v := .int .i64 0) rfl
          obtain ⟨x6, z6⟩ := HBR.out.cell 6 (v := .slice none 0 0) rfl
          have hq1 := hbx.lt
          have hq2 := HBR.out.lt
          obtain ⟨hr1, hr2⟩ := hrs.see
          have hr3 := hrs.lt
          clear hbx hi hrs
          go_wp2
          have hB := ((((((HBR.out.set 0 (.int .i64 r.op)).set 1 (.int .i64 r.d)).set 2 (.int .i64 r.a)).set 3 (.int .i64 r.b)).set 4 (.int .i64 r.n)).set 5 (.int .i64 r.m)).set 6 (.slice A n c)
          have c0 := (hB.cell 0 (v := .int .i64 r.op) (by simp)).1
          have c1 := (hB.cell 1 (v := .int .i64 r.d) (by simp)).1
          have c2 := (hB.cell 2 (v := .int .i64 r.a) (by simp)).1
          have c3 := (hB.cell 3 (v := .int .i64 r.b) (by simp)).1
          have c4 := (hB.cell 4 (v := .int .i64 r.n) (by simp)).1
          have c5 := (hB.cell 5 (v := .int .i64 r.m) (by simp)).1
          have c6 := (hB.cell 6 (v := .slice A n c) (by simp)).1
          have hsame : Same' (fun b => w.heap.size < b ∧ b < wr.heap.size ∧ TB wr 3 b) wr (((((((wr.setCell ⟨w.heap.size, 0, none⟩ (.int .i64 r.op)).setCell ⟨w.heap.size, 1, none⟩ (.int .i64 r.d)).setCell ⟨w.heap.size, 2, none⟩ (.int .i64 r.a)).setCell ⟨w.heap.size, 3, none⟩ (.int .i64 r.b)).setCell ⟨w.heap.size, 4, none⟩ (.int .i64 r.n)).setCell ⟨w.heap.size, 5, none⟩ (.int .i64 r.m)).setCell ⟨w.heap.size, 6, none⟩ (.slice A n c)) :=
            ((((((same_set' (fun b hb => by omega)).trans (same_set' (fun b hb => by omega))).trans (same_set' (fun b hb => by omega))).trans (same_set' (fun b hb => by omega))).trans (same_set' (fun b hb => by omega))).trans (same_set' (fun b hb => by omega))).trans (same_set' (fun b hb => by omega))
          refine bodyPost_ret (v := .agg #[.int .i64 r.op, .int .i64 r.d, .int .i64 r.a, .int .i64 r.b, .int .i64 r.n, .int .i64 r.m, .slice A n c]) (by simp [results, Tryd.results15, go_sem, c0, c1, c2, c3, c4, c5, c6]) rfl ⟨r, .slice A n c, rfl, ?_, ?_, HEQ.out.2⟩
          · exact HI.out.keep hsame (fun b hb => ⟨by unfold Made; simp only [World.size_setCell]; omega, ((((((hb.2.2.set (by omega)).set (by omega)).set (by omega)).set (by omega)).set (by omega)).set (by omega)).set (by omega)⟩)
          · rw [HEQ.out.1]
            exact ⟨((((((HRS.out.set (by omega)).set (by omega)).set (by omega)).set (by omega)).set (by omega)).set (by omega)).set (by omega), ((((((HRD.out.set (Or.inl (Nat.le_refl _))).set (Or.inl (Nat.le_refl _))).set (Or.inl (Nat.le_refl _))).set (Or.inl (Nat.le_refl _))).set (Or.inl (Nat.le_refl _))).set (Or.inl (Nat.le_refl _))).set (Or.inl (Nat.le_refl _))⟩
end Go.Proofs.YtkimocfofihjbaaDoor
