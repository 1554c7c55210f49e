/- Layer 17: the reference: Order. Condition: no more than 1000 moves. -/
import Derived.Test.YtkilfejcohnceaaPaIK
set_option linter.unusedSimpArgs false
set_option linter.unusedVariables false
namespace Go.Proofs.Ytkilfejcohnceaa
open Go.RowKit

/-- Looked through from the last one down to the j-th: the first one that is free, or -1. -/
def NxR (l : List MvV) (j : Nat) (z : Int) : Prop := (z = -1 ∧ ∀ i, j ≤ i → i < l.length → askB l (mvAt l i).t = true) ∨ (∃ p : Nat, z = p ∧ j ≤ p ∧ p < l.length ∧ askB l (mvAt l p).t = false ∧ ∀ i, j ≤ i → i < p → askB l (mvAt l i).t = true)
theorem NxR.start (l : List MvV) : NxR l l.length (-1) := .inl ⟨rfl, fun i h1 h2 => absurd h2 (by omega)⟩
theorem NxR.yes {l : List MvV} {j : Nat} {z : Int} (h : NxR l (j + 1) z) (ha : askB l (mvAt l j).t = true) : NxR l j z := by
  rcases h with ⟨h1, h2⟩ | ⟨p, h1, h2, h3, h4, h5⟩
  · exact .inl ⟨h1, fun i hi hl => by
      by_cases e : i = j
      · subst e; exact ha
      · exact h2 i (by omega) hl⟩
  · exact .inr ⟨p, h1, by omega, h3, h4, fun i hi hl => by
      by_cases e : i = j
      · subst e; exact ha
      · exact h5 i (by omega) hl⟩
theorem NxR.no {l : List MvV} {j : Nat} (hj : j < l.length) (ha : askB l (mvAt l j).t = false) : NxR l j (j : Int) := .inr ⟨j, rfl, Nat.le_refl _, hj, ha, fun i h1 h2 => absurd h2 (by omega)⟩
theorem NxR.done {l : List MvV} {z : Int} (h : NxR l 0 z) : (z = -1 ∧ ¬ freeN l < l.length) ∨ (z = ((freeN l : Nat) : Int) ∧ freeN l < l.length) := by
  rcases h with ⟨h1, h2⟩ | ⟨p, h1, h2, h3, h4, h5⟩
  · exact .inl ⟨h1, by rw [free_none (fun j hj => h2 j (by omega) hj)]; omega⟩
  · have e := free_eq (fun j hj => h5 j (by omega) hj) h3 h4
    exact .inr ⟨by rw [e]; exact h1, by rw [e]; exact h3⟩
theorem ask_snoc {l : List MvV} {k : Nat} {m : MvV} {x : LcV} (h : l[k]? = some m) : askB (l.take (k + 1)) x = (askB (l.take k) x || decide (m.f = x)) := by
  unfold askB
  rw [List.take_add_one, h, Option.toList_some, List.any_append]
  simp
/-- The reference's order under way. -/
def ROrd (w6 : World) (hs base : Nat) (sp : LcV) (fin : List MvV) (K : Nat) (vl vd : Value) (wr : World) : Prop :=
  ∃ left done k, k = K ∧ OwC mvC 38 4 wr base vl left ∧ OwC mvC 38 4 wr base vd done ∧ (∀ g, vl.ownBlock = some g → vd.ownBlock ≠ some g) ∧ InvO sp left ∧ dueN left ≤ k ∧ done ++ ordN sp k left = fin ∧ left.length ≤ 1000 ∧ done.length + k ≤ 5000 ∧ mvR left ∧ mvR done ∧ Below base w6 wr ∧ Box wr hs #[.int .i64 sp.k, .int .i64 sp.n] 24
theorem ROrd.next {w6 w' : World} {hs base k : Nat} {sp : LcV} {fin left done left' : List MvV} {m : MvV} {vl' vd' : Value} (hst : stepO sp left = (m, left')) (hol : OwC mvC 38 4 w' base vl' left') (hod : OwC mvC 38 4 w' base vd' (done ++ [m])) (hsep : ∀ g, vl'.ownBlock = some g → vd'.ownBlock ≠ some g) (hi : InvO sp left) (h0 : 0 < left.length) (hk : dueN left ≤ k + 1) (hf : done ++ ordN sp (k + 1) left = fin) (hl : left.length ≤ 1000) (hd : done.length + (k + 1) ≤ 5000) (hmr : mvR left) (hr : mvR done) (hsp : lcR sp) (hb : Below base w6 w') (hx : Box w' hs #[.int .i64 sp.k, .int .i64 sp.n] 24) : ROrd w6 hs base sp fin k vl' vd' w' := by
  have e1 : (stepO sp left).1 = m := by rw [hst]
  have e2 : (stepO sp left).2 = left' := by rw [hst]
  refine ⟨left', done ++ [m], k, rfl, hol, hod, hsep, by rw [← e2]; exact hi.step, by have := due_step hi h0; rw [e2] at this; omega, by rw [List.append_assoc, List.singleton_append, ← e1, ← e2, ← ord_step k h0]; exact hf, by rw [← e2]; exact Nat.le_trans step_len hl, by rw [List.length_append, List.length_singleton]; omega, ?_, fun q hq => ?_, hb, hx⟩
  · rw [← e2]
    unfold stepO
    split
    · exact fun q hq => hmr q (List.mem_of_mem_eraseIdx hq)
    · exact mvR_save hmr hsp
  · rcases List.mem_append.1 hq with hq | hq
    · exact hr q hq
    · rw [List.mem_singleton] at hq
      subst hq
      rw [← e1]
      exact step_R hmr hsp h0
theorem left_snoc {l : List MvV} {k : Nat} {m : MvV} (h : l[k]? = some m) : leftO (l.take (k + 1)) = leftO (l.take k) ++ (if selfB m = true then [] else [m]) := by
  unfold leftO
  rw [List.take_add_one, h, Option.toList_some, List.filter_append]
  congr 1
  cases h : selfB m <;> simp [h]
set_option maxHeartbeats 8000000 in
set_option maxRecDepth 100000 in
theorem irorder_any (v : Value) (l : List MvV) (sp : LcV) (w : World) (hl : MvsV w (· < w.heap.size) v l) (hm : l.length ≤ 1000) (hsp : lcR sp) :
    Calls Try.prog 10 #[v, lcA sp] w (OrdA w l sp) := by
  have HRT := hide (fun (W : World) (hW : Below w.heap.size w W) => irright_any v l W (hl.up hW) hm)
  have HMV := hide (fun (W : World) => imay_any sp W)
  have HMR := hide hl.range
  have HSP := hide hsp
  have HLM := hide hm
  obtain ⟨A, c, rfl, -, -⟩ := hl.open'
  have HOK := hide (show okO l sp = (right17 l && (mayB17 sp && !(l.any (fun m => decide (m.t = sp) || decide (m.f = sp))))) from rfl)
  have HIN := hide (fun (h : okO l sp = true) => ok_inv h)
  obtain ⟨b1, hb1⟩ := letl (right17 l)
  obtain ⟨b2, hb2⟩ := letl (mayB17 sp)
  rw [hb1] at HRT HOK
  rw [hb2] at HMV HOK
  obtain ⟨n, hn⟩ := letl l.length
  rw [hn] at hl HRT hm ⊢
  have HS := hide (fun (W : World) (hW : Below w.heap.size w W) (b o : Nat) (hA : A = some ⟨b, o, none⟩) (j : Nat) (y : MvV) (hy : l[j]? = some y) => (hA ▸ hl).at' hW hy)
  have HAA := hide (fun (j : Nat) (y : MvV) (hy : l[j]? = some y) => (show (∃ b o, A = some ⟨b, o, none⟩) from by
    obtain ⟨b, o, e, -⟩ := hl.get hy
    exact ⟨b, o, e⟩))
  have HN := hide hn
  obtain ⟨i0, hi0, iz0, iz1, iz2⟩ := info_parts info_mv
  have HI := hide hi0
  obtain ⟨sk, sn⟩ := sp
  unfold lcA at HMV ⊢
  clear hl hsp hb1 hb2 hn hi0
  go_enter Try.func10, Try.ntmps10
  go_upto_region 1 with (fail)
  obtain ⟨w1, hw1⟩ := letr (w.alloc (.cells #[.int .i64 sk, .int .i64 sn] 24))
  obtain ⟨hs, hhs⟩ := letl w.heap.size
  have HXS := lBox hw1 hhs
  have HB1 := lBel hw1
  rw [← hw1, hhs]
  clear hw1 hhs
  have x0 := (HXS.out.cell 0 (v := .int .i64 sk) rfl).1
  have x1 := (HXS.out.cell 1 (v := .int .i64 sn) rfl).1
  have lx := HXS.out.lt
  cases b1 with
  | false =>
    have HE := hide (show okO l ⟨sk, sn⟩ = false from by rw [HOK.out]; rfl)
    go_wp2_with (go_at_call 13; (with_reducible refine (HRT.out w1 HB1.out).mono ?_); rintro e w2 ⟨rfl, hb2⟩)
    go_ret2
    unfold OrdA
    exact ⟨fun h => (by rw [HE.out] at h; cases h), fun _ => rfl, HB1.out.trans (hb2.mono HB1.out.size)⟩
  | true =>
  cases b2 with
  | false =>
    have HE := hide (show okO l ⟨sk, sn⟩ = false from by rw [HOK.out]; rfl)
    go_wp2_with (first
      | (go_at_call 17; (with_reducible refine (HMV.out w2).mono ?_); rintro e w3 ⟨rfl, hb3⟩; have c3 := hide (c2.out.trans (hb3.mono c2.out.size)); clear hb3)
      | (go_at_call 13; (with_reducible refine (HRT.out w1 HB1.out).mono ?_); rintro e w2 ⟨rfl, hb2⟩; have c2 := hide (HB1.out.trans (hb2.mono HB1.out.size)); have x0 := (hb2.cell (p := ⟨hs, 0, none⟩) lx).trans x0; have x1 := (hb2.cell (p := ⟨hs, 1, none⟩) lx).trans x1; have lx : hs < w2.heap.size := Nat.lt_of_lt_of_le lx hb2.size; clear hb2))
    go_ret2
    unfold OrdA
    exact ⟨fun h => (by rw [HE.out] at h; cases h), fun _ => rfl, c3.out⟩
  | true =>
  have HOK2 := hide (show okO l ⟨sk, sn⟩ = !(l.any (fun m => decide (m.t = ⟨sk, sn⟩) || decide (m.f = ⟨sk, sn⟩))) from by rw [HOK.out]; rfl)
  go_wp2_with (first
    | (go_at_call 17; (with_reducible refine (HMV.out w2).mono ?_); rintro e w3 ⟨rfl, hb3⟩; have c3 := hide (c2.out.trans (hb3.mono c2.out.size)); clear hb3)
    | (go_at_call 13; (with_reducible refine (HRT.out w1 HB1.out).mono ?_); rintro e w2 ⟨rfl, hb2⟩; have c2 := hide hb2; have x0 := (hb2.cell (p := ⟨hs, 0, none⟩) lx).trans x0; have x1 := (hb2.cell (p := ⟨hs, 1, none⟩) lx).trans x1; have lx : hs < w2.heap.size := Nat.lt_of_lt_of_le lx hb2.size; clear hb2))
  clear x0 x1 lx HOK HRT HMV
  go_loopw [6, 8] (fun u z wr => ∃ k : Nat, k ≤ n ∧ z = .int .i64 (k : Int) ∧ Hid (OwC mvC 38 4 wr w1.heap.size u (leftO (l.take k))) ∧ Below w1.heap.size w1 wr ∧ Hid (∀ m ∈ l.take k, (decide (m.t = ⟨sk, sn⟩) || decide (m.f = ⟨sk, sn⟩)) = false)) (fun _ z _ => n - (intOf z).toNat)
  case atStart => exact ⟨0, Nat.zero_le _, rfl, hide (OwC.nil _ _), c3.out, hide (fun m hm => by cases hm)⟩
  case round =>
    obtain ⟨k, hk, rfl, HOU, hb, HNO⟩ := hrel
    obtain ⟨wo, rfl⟩ : ∃ wo, wo = wr := ⟨_, rfl⟩
    have HB := hide hb
    clear hb
    have HBW := hide (HB1.out.trans (HB.out.mono HB1.out.size))
    obtain ⟨Au, cu, hvu, -, -⟩ := HOU.out.sl
    subst hvu
    obtain ⟨nu, hnu⟩ := letl (leftO (l.take k)).length
    rw [hnu] at HOU ⊢
    have HNU := hide hnu
    have HUB := hide (show nu ≤ k from by rw [← hnu]; exact Nat.le_trans (List.length_filter_le _ _) (by rw [List.length_take]; omega))
    clear hnu
    by_cases hlt : k < n
    case neg =>
      obtain rfl : n = k := by omega
      have hnn : ¬ ((n : Int) < (n : Int)) := by omega
      have htk : l.take n = l := List.take_of_length_le (by have := HN.out; omega)
      rw [htk] at HOU HNO HNU
      have HE := hide (show okO l ⟨sk, sn⟩ = true from by
        rw [HOK2.out, Bool.not_eq_true']
        exact List.any_eq_false.2 (fun m hm => by rw [HNO.out m hm]; simp))
      have HINV := hide (HIN.out HE.out)
      obtain ⟨fin, hfin⟩ := letl (orderL l ⟨sk, sn⟩)
      have HFIN := hide hfin
      have HLL := hide (show (leftO l).length ≤ 1000 from Nat.le_trans (List.length_filter_le _ _) HLM.out)
      obtain ⟨F, hF⟩ := letl (dueN (leftO l))
      have HL0 := hide (show ROrd wo hs w1.heap.size ⟨sk, sn⟩ fin F (.slice Au nu cu) (.slice none 0 0) wo from ⟨leftO l, [], F, rfl, HOU.out, OwC.nil _ _, fun g hg e => by simp [Value.ownBlock] at e, HINV.out, by omega, by rw [List.nil_append, ← hF]; exact hfin, HLL.out, by
        rw [← hF]
        have := HLL.out
        unfold dueN
        simp only [List.length_nil]
        split <;> omega, fun m hm => HMR.out m (List.mem_filter.1 hm).1, (fun m hm => by cases hm), Below.refl _ _, (HB.out.block hs HXS.out.lt).trans HXS.out⟩)
      clear hfin hF htk HNO HIN HOK2
      go_wp2
      go_loopg [6, 7] F (fun K u o wr => ROrd wo hs w1.heap.size ⟨sk, sn⟩ fin K u o wr)
      case atStart => exact HL0.out
      case round =>
        obtain ⟨left, done, k, hkK, hol, hod, hsep, hi, hdue, hff, hll, hdd, hmr, hrd, hb, hx⟩ := hrel
        obtain ⟨w7, rfl⟩ : ∃ w7, w7 = wr := ⟨_, rfl⟩
        obtain ⟨Al, cl, hvl, hclA, hclB⟩ := hol.sl
        subst hvl
        obtain ⟨Ad, cd, hvd, -, -⟩ := hod.sl
        subst hvd
        rcases Nat.eq_zero_or_pos left.length with h0 | h0
        · have hl0 : left = [] := List.eq_nil_of_length_eq_zero h0
          have HF := hide (show done = orderL l ⟨sk, sn⟩ from by rw [HFIN.out, ← hff, hl0, ord_nil, List.append_nil])
          have HRD := hide hrd
          have HOD := hide hod
          have HBE := hide (HBW.out.trans (hb.mono HB1.out.size))
          rw [h0]
          clear hol hod hsep hi hdue hff hll hdd hmr hrd hb hx h0 hclA hclB
          go_wp2
          go_ret2
          unfold OrdA
          exact ⟨fun _ => ⟨_, rfl, by rw [← HF.out]; exact HOD.out.lower HB1.out.size, by rw [← HF.out]; exact HRD.out⟩, fun h => (by rw [HE.out] at h; cases h), HBE.out⟩
        obtain ⟨k', rfl⟩ : ∃ k', k = k' + 1 := ⟨k - 1, by unfold dueN at hdue; omega⟩
        obtain ⟨gl, cl', hvl, -, -, -, -, -⟩ := hol.blk h0
        injection hvl with e1 _ e3
        subst e1
        subst e3
        have HNXT := hide (fun (w' : World) (m : MvV) (left' : List MvV) (vl' vd' : Value) (hst : stepO ⟨sk, sn⟩ left = (m, left')) (h1 : OwC mvC 38 4 w' w1.heap.size vl' left') (h2 : OwC mvC 38 4 w' w1.heap.size vd' (done ++ [m])) (h3 : ∀ g, vl'.ownBlock = some g → vd'.ownBlock ≠ some g) (hb' : Below w1.heap.size w7 w') => ROrd.next (hs := hs) (w6 := wo) hst h1 h2 h3 hi h0 hdue hff hll hdd hmr hrd HSP.out (hb.trans hb') (hx.belowB hb' HXS.out.lt))
        have HST := hide (show (freeN left < left.length → stepO ⟨sk, sn⟩ left = (mvAt left (freeN left), left.eraseIdx (freeN left))) ∧ (¬ freeN left < left.length → stepO ⟨sk, sn⟩ left = (⟨⟨sk, sn⟩, (mvAt left 0).t⟩, saveL (mvAt left 0).t ⟨sk, sn⟩ left)) from ⟨fun hf => by unfold stepO; rw [if_pos hf], fun hf => by unfold stepO; rw [if_neg hf]⟩)
        have HOWN := hide (fun (j : Nat) (m : MvV) (h : left[j]? = some m) => (hi.own m (List.mem_of_getElem? h)).1)
        have HDN := hide (fun (z : Int) (h : NxR left 0 z) => h.done)
        have HN0 := hide (NxR.start left)
        have HNY := hide (fun (j : Nat) (z : Int) (h : NxR left (j + 1) z) (ha : askB left (mvAt left j).t = true) => h.yes ha)
        have HNN := hide (fun (j : Nat) (hj : j < left.length) (ha : askB left (mvAt left j).t = false) => NxR.no hj ha)
        have HALL := hide (fun (x : LcV) => (show askB (left.take left.length) x = askB left x by rw [List.take_of_length_le (Nat.le_refl _)]))
        have HDL := hide (show done.length < 1000000 from by omega)
        have HBB := hide (show w1.heap.size ≤ w7.heap.size from by have := hb.size; have := HB.out.size; omega)
        have HMIX := hide (fun (x : LcV) (w' : World) (h : OwC mvC 38 4 w' w1.heap.size (.slice (some ⟨gl, 0, none⟩) left.length cl) (mixL x ⟨sk, sn⟩ left left.length)) => (show OwC mvC 38 4 w' w1.heap.size (.slice (some ⟨gl, 0, none⟩) left.length cl) (saveL x ⟨sk, sn⟩ left) from by rwa [mix_end (Nat.le_refl _)] at h))
        obtain ⟨nl, hnl⟩ := letl left.length
        obtain ⟨nd, hnd⟩ := letl done.length
        rw [hnl] at hol hsep hll h0 HST HN0 HNN HALL HMIX hclA ⊢
        rw [hnd] at hod hsep HDL ⊢
        have HOL := hide hol
        have HOD := hide hod
        have HSEP := hide hsep
        have HX7 := hide hx
        have HNL := hide hnl
        have HND := hide hnd
        have HCL := hide (And.intro hclA hclB)
        have hsw : IntKind.i64.wrap ((nl : Int) - 1) = (nl : Int) - 1 := IntWalk.i64_in _ ⟨by omega, by omega⟩
        have hnl9 : nl ≤ 1000 := hll
        have hg0 : (0 : Int) < (nl : Int) := by omega
        clear hol hod hsep hi hdue hff hdd hmr hrd hb hx hnl hnd hclA hclB hll
        go_wp2
        go_loopw [9, 10] (fun z i wr => ∃ (j : Nat) (zz : Int), j ≤ nl ∧ i = .int .i64 ((j : Int) - 1) ∧ z = .int .i64 zz ∧ Hid (NxR left j zz) ∧ Below w7.heap.size w7 wr) (fun _ i _ => (intOf i + 1).toNat)
        case atStart => exact ⟨nl, -1, Nat.le_refl _, rfl, rfl, HN0, Below.refl _ _⟩
        case round =>
          obtain ⟨j, zz, hj, rfl, rfl, HNX, hb⟩ := hrel
          obtain ⟨w8, rfl⟩ : ∃ w8, w8 = wr := ⟨_, rfl⟩
          have HB8 := hide hb
          clear hb
          rcases Nat.eq_zero_or_pos j with hj0 | hj0
          rotate_left
          · obtain ⟨j, rfl⟩ : ∃ i, j = i + 1 := ⟨j - 1, by omega⟩
            have hje : ((j + 1 : Nat) : Int) - 1 = (j : Int) := by omega
            rw [hje]
            obtain ⟨y, hy⟩ : ∃ y, left[j]? = some y := ⟨_, List.getElem?_eq_getElem (by have := HNL.out; omega)⟩
            have HYJ := hide hy
            have HNY2 := hide (fun (h : askB left y.t = true) => HNY.out j _ HNX.out (by rw [mvAt_of hy]; exact h))
            have HNN2 := hide (fun (h : askB left y.t = false) => HNN.out j (by omega) (by rw [mvAt_of hy]; exact h))
            have HOY := hide (HOWN.out j y hy)
            have hj1 : (0 : Int) ≤ (j : Int) := by omega
            have hj2 : (j : Int) < (nl : Int) := by omega
            have hjl : j < nl := by omega
            have hjw : IntKind.i64.wrap ((j : Int) - 1) = (j : Int) - 1 := IntWalk.i64_in _ ⟨by omega, by omega⟩
            have HJ := hide (And.intro hj hjl)
            obtain ⟨⟨yk, yn⟩, ⟨zk, zn⟩⟩ := y
            simp only at HNY2 HNN2 HOY
            clear hy hj0
            go_wp2
            go_loopw [11, 12] (fun b z wr => ∃ k : Nat, k ≤ nl ∧ z = .int .i64 (k : Int) ∧ b = .bool (askB (left.take k) ⟨yk, yn⟩) ∧ Below w7.heap.size w7 wr) (fun _ z _ => nl - (intOf z).toNat)
            case atStart => exact ⟨0, Nat.zero_le _, rfl, rfl, HB8.out⟩
            case round =>
              obtain ⟨k, hk, rfl, rfl, hb⟩ := hrel
              obtain ⟨w9, rfl⟩ : ∃ w9, w9 = wr := ⟨_, rfl⟩
              have HB9 := hide hb
              clear hb
              by_cases hkl : k < nl
              case neg =>
                obtain rfl : nl = k := by omega
                have hnn : ¬ ((nl : Int) < (nl : Int)) := by omega
                rw [HALL.out]
                cases hb : askB left ⟨yk, yn⟩ with
                | true =>
                  have HR := hide (HNY2.out hb)
                  clear hb
                  go_wp2
                  go_roundw
                  case rel => exact ⟨j, zz, by have := HJ.out; omega, rfl, rfl, HR, HB9.out⟩
                  case measure => first | (simp [intOf]; done) | (simp [intOf]; omega)
                | false =>
                  have HR := hide (HNN2.out hb)
                  clear hb
                  go_wp2
                  go_roundw
                  case rel => exact ⟨j, (j : Int), by have := HJ.out; omega, rfl, rfl, HR, HB9.out⟩
                  case measure => first | (simp [intOf]; done) | (simp [intOf]; omega)
              have HKL := hide hkl
              obtain ⟨x, hx⟩ : ∃ y, left[k]? = some y := ⟨_, List.getElem?_eq_getElem (by have := HNL.out; omega)⟩
              obtain ⟨-, -, ⟨d3, -⟩, ⟨d4, -⟩⟩ := mv_cells (HOL.out.below HB9.out) HNL.out hx
              obtain ⟨⟨y1, -⟩, ⟨y2, -⟩, -, -⟩ := mv_cells (HOL.out.below HB9.out) HNL.out HYJ.out
              have lgl : gl < w9.heap.size := ((HOL.out.below HB9.out).lt gl rfl).2
              have HSN := hide (ask_snoc (x := ⟨yk, yn⟩) hx)
              have e1 := lc_cases x.f ⟨yk, yn⟩
              have HXJ := hide (fun (h : k = j) => (show x.f ≠ ⟨yk, yn⟩ from by
                subst h
                have t := HYJ.out
                rw [hx] at t
                injection t with t
                subst t
                exact fun e => HOY.out e.symm))
              have hk0 : (0 : Int) ≤ (k : Int) := by omega
              have hk1 : (k : Int) < (nl : Int) := by omega
              obtain ⟨⟨xk, xn⟩, ⟨fk, fn⟩⟩ := x
              simp only at d3 d4 y1 y2 HSN e1 HXJ
              clear hx
              cases hbk : askB (left.take k) ⟨yk, yn⟩ with
              | true =>
                have HR := hide (show askB (left.take (k + 1)) ⟨yk, yn⟩ = true from by rw [HSN.out, hbk]; rfl)
                clear hbk
                go_wp2
                go_quiet (fail)
                go_wp2
                go_roundw
                case rel => exact ⟨k + 1, by have := HKL.out; omega, by go_num, by rw [HR.out], below_drewN HB9.out _⟩
                case measure => have := HKL.out; simp [intOf]; omega
              | false =>
                by_cases hkj : k = j
                · have HR := hide (show askB (left.take (k + 1)) ⟨yk, yn⟩ = false from by rw [HSN.out, hbk, decide_eq_false (HXJ.out hkj)]; rfl)
                  subst hkj
                  clear hbk
                  go_wp2
                  go_quiet (fail)
                  go_wp2
                  go_roundw
                  case rel => exact ⟨k + 1, by have := HKL.out; omega, by go_num, by rw [HR.out], below_drewN HB9.out _⟩
                  case measure => have := HKL.out; simp [intOf]; omega
                · have hkj2 : ((k : Int) == (j : Int)) = false := by simp; omega
                  have hkj3 : ((k : Int) != (j : Int)) = true := by simp; omega
                  have hkj4 : ¬ (k : Int) = (j : Int) := by omega
                  rcases e1 with e1 | e1
                  · have HR := hide (show askB (left.take (k + 1)) ⟨yk, yn⟩ = true from by rw [HSN.out, hbk, decide_eq_true e1]; rfl)
                    injection e1 with e1 e2
                    subst e1
                    subst e2
                    clear hbk
                    go_wp2
                    go_quiet (fail)
                    go_wp2
                    go_roundw
                    case rel => exact ⟨k + 1, by have := HKL.out; omega, by go_num, by rw [HR.out], below_drewN HB9.out _⟩
                    case measure => have := HKL.out; simp [intOf]; omega
                  · have HR := hide (show askB (left.take (k + 1)) ⟨yk, yn⟩ = false from by rw [HSN.out, hbk, lc_ne (a := ⟨fk, fn⟩) (b := ⟨yk, yn⟩) e1]; rfl)
                    clear hbk
                    rcases e1 with e1 | ⟨e0, e1⟩
                    all_goals
                      try simp only at e1
                      try simp only at e0
                      try subst e0
                      go_wp2
                      go_quiet (fail)
                      go_wp2
                      go_roundw
                      case rel => exact ⟨k + 1, by have := HKL.out; omega, by go_num, by rw [HR.out], below_drewN HB9.out _⟩
                      case measure => have := HKL.out; simp [intOf]; omega
          subst hj0
          have HDO := hide (HDN.out _ HNX.out)
          have hj9 : ((0 : Nat) : Int) - 1 = -1 := by omega
          rw [hj9]
          have HOL8 := hide (HOL.out.below HB8.out)
          have HOD8 := hide (HOD.out.below HB8.out)
          have HX8 := hide (HX7.out.below HB8.out)
          have HBB8 := hide (show w1.heap.size ≤ w8.heap.size from Nat.le_trans HBB.out HB8.out.size)
          clear HNX HN0 HNY HNN HALL HOWN
          rcases HDO.out with ⟨rfl, hf⟩ | ⟨hz, hf⟩
          rotate_left
          · rw [HNL.out] at hf
            have HE2 := hide (HST.out.1 hf)
            obtain ⟨p, hp⟩ := letl (freeN left)
            rw [hp] at hz hf HE2
            subst hz
            obtain ⟨m, hm⟩ : ∃ x, left[p]? = some x := ⟨_, List.getElem?_eq_getElem (by have := HNL.out; omega)⟩
            rw [mvAt_of hm] at HE2
            obtain ⟨⟨d1, -⟩, ⟨d2, -⟩, ⟨d3, -⟩, ⟨d4, -⟩⟩ := mv_cells HOL8.out HNL.out hm
            have lgl : gl < w8.heap.size := (HOL8.out.lt gl rfl).2
            have hp0 : (0 : Int) ≤ (p : Int) := by omega
            have hp1 : (p : Int) < (nl : Int) := by omega
            have HPN := hide hf
            have HWO := hide (fun (W : World) (hW : OwC mvC 38 4 W w1.heap.size (.slice (some ⟨gl, 0, none⟩) nl cl) left) => irwithout_any w1.heap.size gl nl cl p left W HNL.out HPN.out hnl9 HCL.out.1 HCL.out.2 hW)
            obtain ⟨⟨tk, tn⟩, ⟨fk, fn⟩⟩ := m
            simp only at d1 d2 d3 d4
            clear hm hp hf HDO HST HMIX
            go_wp2_with (first
              | (go_at_call 26; (with_reducible refine (HWO.out w10 HLK.out).mono ?_); rintro e w11 ⟨v11, rfl, ho11, hb11⟩; have HO11 := hide ho11; have HB11 := hide hb11; clear ho11 hb11)
              | (at_builtin; refine wpList_append_c (c := mvC) (sz := 4) (w8.alloc (.cells #[.int .i64 tk, .int .i64 tn, .int .i64 fk, .int .i64 fn] 38)) (by rfl) _ _ _ (by rfl) w1.heap.size i0 _ 32 Try.underlying22 HI.out iz0 iz1 iz2 rfl (by omega) (by omega) (.slice Ad nd cd) done nd HND.out (by rfl) (HOD8.out.below (alloc1 w8 _)) ⟨⟨tk, tn⟩, ⟨fk, fn⟩⟩ rfl (fun u hu => by simp only [mvC, List.mem_cons, List.mem_nil_iff, or_false] at hu; rcases hu with rfl | rfl | rfl | rfl <;> rfl) w8.heap.size _ (Box.new w8 _ _) rfl (by rfl) HDL.out (by have := HBB8.out; simp only [World.size_alloc]; omega) ?_; intro g5 k5 w10 ho5 hg5 hv5 hl5; have HO5 := hide ho5; have HLK := hide (show OwC mvC 38 4 w10 w1.heap.size (.slice (some ⟨gl, 0, none⟩) nl cl) left from (HOL8.out.below (alloc1 w8 _)).kept fun g hg => hg5.block g ((HOL8.out.below (alloc1 w8 _)).lt g hg).2 (fun e => HSEP.out g hg e.symm)); have HB10 := hide (show Below w1.heap.size w7 w10 from (((HB8.out.trans ((alloc1 w8 _).mono HB8.out.size)).mono HBB.out).grown hg5 (by have := HBB8.out; simp only [World.size_alloc]; omega) (fun k hk => (HOD8.out.lt k hk).1))); clear ho5 hg5 hv5 hl5 d1 d2 d3 d4 lgl))
            obtain ⟨A11, c11, hv11, -, -⟩ := HO11.out.sl
            subst hv11
            go_roundg k'
            case measure => omega
            case rel => exact HNXT.out w11 _ _ _ _ HE2.out (HO11.out.lower (by have := HB10.out.size; have := HBB.out; omega)) (HO5.out.below HB11.out) (fun g hg e => by have h1 := (HO11.out.lt g hg).1; have h2 := (HO5.out.lt g e).2; omega) (HB10.out.trans (HB11.out.mono (by have := HB10.out.size; have := HBB.out; omega)))
          · rw [HNL.out] at hf
            have HE2 := hide (HST.out.2 hf)
            obtain ⟨m, hm⟩ : ∃ x, left[0]? = some x := ⟨_, List.getElem?_eq_getElem (by have := HNL.out; omega)⟩
            rw [mvAt_of hm] at HE2
            obtain ⟨⟨d1, -⟩, ⟨d2, -⟩, -, -⟩ := mv_cells HOL8.out HNL.out hm
            rw [Nat.zero_mul] at d1 d2
            rw [Nat.zero_add] at d2
            have lgl : gl < w8.heap.size := (HOL8.out.lt gl rfl).2
            have s0 := (HX8.out.cell 0 (v := .int .i64 sk) rfl).1
            have s1 := (HX8.out.cell 1 (v := .int .i64 sn) rfl).1
            have ls := HX8.out.lt
            obtain ⟨⟨xk, xn⟩, ⟨fk, fn⟩⟩ := m
            simp only at d1 d2 HE2
            have HMX := hide (HMIX.out ⟨xk, xn⟩)
            clear hm hf HDO HST HMIX
            go_upto_region 27 with (fail)
            obtain ⟨w9, hw9⟩ := letr (w8.alloc (.cells #[.int .i64 xk, .int .i64 xn] 24))
            obtain ⟨hx, hhx⟩ := letl w8.heap.size
            have HXX := lBox hw9 hhx
            have HB9 := lBel hw9
            rw [← hw9, hhx]
            clear hw9 hhx d1 d2 lgl s0 s1 ls
            have s0 := ((HX8.out.below HB9.out).cell 0 (v := .int .i64 sk) rfl).1
            have s1 := ((HX8.out.below HB9.out).cell 1 (v := .int .i64 sn) rfl).1
            have ls := (HX8.out.below HB9.out).lt
            have x0 := (HXX.out.cell 0 (v := .int .i64 xk) rfl).1
            have x1 := (HXX.out.cell 1 (v := .int .i64 xn) rfl).1
            have lx := HXX.out.lt
            have HOD9 := hide (HOD8.out.below HB9.out)
            have HOL9 := hide (HOL8.out.below HB9.out)
            have HBB9 := hide (show w1.heap.size ≤ w9.heap.size from Nat.le_trans HBB8.out HB9.out.size)
            go_upto_region 28 with (at_builtin; refine wpList_append_c (c := mvC) (sz := 4) (w9.alloc (.cells #[.int .i64 sk, .int .i64 sn, .int .i64 xk, .int .i64 xn] 38)) (by rfl) _ _ _ (by rfl) w1.heap.size i0 _ 32 Try.underlying22 HI.out iz0 iz1 iz2 rfl (by omega) (by omega) (.slice Ad nd cd) done nd HND.out (by rfl) (HOD9.out.below (alloc1 w9 _)) ⟨⟨sk, sn⟩, ⟨xk, xn⟩⟩ rfl (fun u hu => by simp only [mvC, List.mem_cons, List.mem_nil_iff, or_false] at hu; rcases hu with rfl | rfl | rfl | rfl <;> rfl) w9.heap.size _ (Box.new w9 _ _) rfl (by rfl) HDL.out (by have := HBB9.out; simp only [World.size_alloc]; omega) ?_; intro g5 k5 w10 ho5 hg5 hv5 hl5; have HO5 := hide ho5; have HLK := hide (show OwC mvC 38 4 w10 w1.heap.size (.slice (some ⟨gl, 0, none⟩) nl cl) left from (HOL9.out.below (alloc1 w9 _)).kept fun g hg => hg5.block g ((HOL9.out.below (alloc1 w9 _)).lt g hg).2 (fun e => HSEP.out g hg e.symm)); have HB10 := hide (show Below w1.heap.size w7 w10 from (((HB8.out.trans ((HB9.out.trans ((alloc1 w9 _).mono HB9.out.size)).mono HB8.out.size)).mono HBB.out).grown hg5 (by have := HBB9.out; simp only [World.size_alloc]; omega) (fun k hk => (HOD9.out.lt k hk).1))); have HXX10 := hide (show Box w10 hx #[.int .i64 xk, .int .i64 xn] 24 from (hg5.block hx (by have := HXX.out.lt; simp only [World.size_alloc]; omega) (fun e => HOD9.out.apart HXX.out.tb (by decide) e.symm)).trans (HXX.out.alloc _)); have HXS10 := hide (show Box w10 hs #[.int .i64 sk, .int .i64 sn] 24 from HX7.out.belowB HB10.out HXS.out.lt); have HV5 := hide (show g5 ≠ gl from fun e => by (rcases hv5 with h | h; exact HSEP.out gl rfl (by rw [h, e]); have := (HOL9.out.lt gl rfl).2; simp only [World.size_alloc] at h; omega)); clear ho5 hg5 hv5 hl5 s0 s1 ls x0 x1 lx)
            go_wp2
            have HNG := hide (And.intro (show some gl ≠ some hx from fun e => by injection e with e; exact HLK.out.apart HXX10.out.tb (by decide) (by rw [← e]; rfl)) (show some gl ≠ some hs from fun e => by injection e with e; exact HLK.out.apart HXS10.out.tb (by decide) (by rw [← e]; rfl)))
            go_loopw [14] (fun z wr => ∃ k : Nat, k ≤ nl ∧ z = .int .i64 (k : Int) ∧ FrG (some gl) w10 wr ∧ Hid (OwC mvC 38 4 wr w1.heap.size (.slice (some ⟨gl, 0, none⟩) nl cl) (mixL ⟨xk, xn⟩ ⟨sk, sn⟩ left k))) (fun z _ => nl - (intOf z).toNat)
            case atStart => exact ⟨0, Nat.zero_le _, rfl, FrG.refl _ _, by rw [mix_zero]; exact HLK⟩
            case round =>
              obtain ⟨k, hk, rfl, hfr, HK⟩ := hrel
              obtain ⟨w12, rfl⟩ : ∃ w12, w12 = wr := ⟨_, rfl⟩
              have HFR := hide hfr
              clear hfr
              by_cases hlt : k < nl
              case neg =>
                obtain rfl : nl = k := by omega
                have hnn : ¬ ((nl : Int) < (nl : Int)) := by omega
                have HEN := hide (HMX.out w12 HK.out)
                go_wp2
                go_roundg k'
                case measure => omega
                case rel => exact HNXT.out w12 _ _ _ _ HE2.out HEN.out (HO5.out.kept fun g hg => HFR.out.block g (HO5.out.lt g hg).2 (fun e => HV5.out ((show g5 = g by simpa [Value.ownBlock] using hg).trans (by injection e with e; exact e.symm)))) (fun g hg e => HV5.out ((show g5 = g by simpa [Value.ownBlock] using e).trans (show g = gl by simpa [Value.ownBlock] using hg.symm))) (HB10.out.trans (HFR.out.below (by have := HB10.out.size; have := HBB.out; omega) (fun g hg => by injection hg with hg; have := (HLK.out.lt gl rfl).1; omega)))
              have HLT := hide hlt
              obtain ⟨y, hy⟩ : ∃ y, left[k]? = some y := ⟨_, List.getElem?_eq_getElem (by have := HNL.out; omega)⟩
              have HLM := hide (show (mixL ⟨xk, xn⟩ ⟨sk, sn⟩ left k).length = nl by rw [mix_len]; exact HNL.out)
              obtain ⟨-, -, ⟨d3, z3⟩, ⟨d4, z4⟩⟩ := mv_cells HK.out HLM.out (mix_at hy)
              have HXO := hide (HFR.out.box HXX10.out HNG.out.1)
              have HSO := hide (HFR.out.box HXS10.out HNG.out.2)
              have lgl : gl < w12.heap.size := (HK.out.lt gl rfl).2
              have HYS := hide (fun (e : y.f = ⟨xk, xn⟩) => (show mixL ⟨xk, xn⟩ ⟨sk, sn⟩ left (k + 1) = (mixL ⟨xk, xn⟩ ⟨sk, sn⟩ left k).set k ⟨y.t, ⟨sk, sn⟩⟩ by rw [mix_step hy, if_pos e]))
              have HYN := hide (fun (e : y.f ≠ ⟨xk, xn⟩) => mix_keep (sp := ⟨sk, sn⟩) hy e)
              have HMA := hide (mix_at (x := ⟨xk, xn⟩) (sp := ⟨sk, sn⟩) hy)
              have e1 := lc_cases y.f ⟨xk, xn⟩
              have hk0 : (0 : Int) ≤ (k : Int) := by omega
              have hk1 : (k : Int) < (nl : Int) := by omega
              obtain ⟨⟨tk, tn⟩, ⟨fk, fn⟩⟩ := y
              simp only at d3 d4 e1 HYS HYN
              clear hy
              have b0 := (HXO.out.cell 0 (v := .int .i64 xk) rfl).1
              have b1 := (HXO.out.cell 1 (v := .int .i64 xn) rfl).1
              have l4 := HXO.out.lt
              have s0 := (HSO.out.cell 0 (v := .int .i64 sk) rfl).1
              have s1 := (HSO.out.cell 1 (v := .int .i64 sn) rfl).1
              have l5 := HSO.out.lt
              rcases e1 with e1 | e1
              · have HS := hide (HYS.out e1)
                injection e1 with e1 e2
                subst e1
                subst e2
                have HP := hide (show OwC mvC 38 4 ((w12.setCell ⟨gl, k * 4 + 2, none⟩ (.int .i64 sk)).setCell ⟨gl, k * 4 + 3, none⟩ (.int .i64 sn)) w1.heap.size (.slice (some ⟨gl, 0, none⟩) nl cl) (mixL ⟨fk, fn⟩ ⟨sk, sn⟩ left (k + 1)) from by
                  have t1 := HK.out.putE HLM.out (fun _ => rfl) (i := 2) (y' := ⟨⟨tk, tn⟩, ⟨sk, fn⟩⟩) (u := .int .i64 sk) HMA.out (by omega) rfl
                  have t2 := t1.putE (by rw [List.length_set]; exact HLM.out) (fun _ => rfl) (j := k) (i := 3) (y := ⟨⟨tk, tn⟩, ⟨sk, fn⟩⟩) (y' := ⟨⟨tk, tn⟩, ⟨sk, sn⟩⟩) (u := .int .i64 sn) (by rw [List.getElem?_set, if_pos rfl, if_pos (by have := HLM.out; have := HLT.out; omega)]) (by omega) rfl
                  rw [List.set_set] at t2
                  rw [HS.out]
                  exact t2)
                go_wp2
                go_quiet (fail)
                go_wp2
                go_roundw
                case rel => exact ⟨k + 1, by have := HLT.out; omega, by go_num, FrG.trans HFR.out (FrG.trans (FrG.of_below (below_drewN (Below.refl _ _) _)) (FrG.refl (some gl) _).set.set), hide HP.out⟩
                case measure => have := HLT.out; simp [intOf]; omega
              · have HS := hide (HYN.out (fun e => by have t := lc_ne (a := ⟨fk, fn⟩) (b := ⟨xk, xn⟩) e1; rw [decide_eq_true e] at t; cases t))
                have HP := hide (show OwC mvC 38 4 w12 w1.heap.size (.slice (some ⟨gl, 0, none⟩) nl cl) (mixL ⟨xk, xn⟩ ⟨sk, sn⟩ left (k + 1)) from by rw [HS.out]; exact HK.out)
                rcases e1 with e1 | ⟨e0, e1⟩
                all_goals
                  try simp only at e1
                  try simp only at e0
                  try subst e0
                  go_wp2
                  go_quiet (fail)
                  go_wp2
                  go_roundw
                  case rel => exact ⟨k + 1, by have := HLT.out; omega, by go_num, FrG.trans HFR.out (FrG.of_below (below_drewN (Below.refl _ _) _)), hide HP.out⟩
                  case measure => have := HLT.out; simp [intOf]; omega
    have HLT := hide hlt
    obtain ⟨y, hy⟩ : ∃ y, l[k]? = some y := ⟨_, List.getElem?_eq_getElem (by have := HN.out; omega)⟩
    obtain ⟨be, oe, hA⟩ := HAA.out k y hy
    subst hA
    obtain ⟨d0, d1, d2, d3, lb⟩ := HS.out wo HBW.out be oe rfl k y hy
    have HXO := hide (show Box wo hs #[.int .i64 sk, .int .i64 sn] 24 from (HB.out.block hs HXS.out.lt).trans HXS.out)
    have s0 := (HXO.out.cell 0 (v := .int .i64 sk) rfl).1
    have s1 := (HXO.out.cell 1 (v := .int .i64 sn) rfl).1
    have ls := HXO.out.lt
    have HBAD := hide (fun (h : y.t = ⟨sk, sn⟩ ∨ y.f = ⟨sk, sn⟩) => (show okO l ⟨sk, sn⟩ = false from by
      rw [HOK2.out, Bool.not_eq_false']
      exact List.any_eq_true.2 ⟨y, List.mem_of_getElem? hy, by rcases h with h | h <;> simp [h]⟩))
    have HGD := hide (fun (h1 : decide (y.t = ⟨sk, sn⟩) = false) (h2 : decide (y.f = ⟨sk, sn⟩) = false) => (show ∀ m ∈ l.take (k + 1), (decide (m.t = ⟨sk, sn⟩) || decide (m.f = ⟨sk, sn⟩)) = false from fun m hm => by
      rw [List.take_add_one, hy] at hm
      rcases List.mem_append.1 hm with hm | hm
      · exact HNO.out m hm
      · simp at hm
        subst hm
        rw [h1, h2]
        rfl))
    have HLS := hide (left_snoc hy)
    have HYE := hide hy
    have HSB := hide (show selfB y = decide (y.t = y.f) from rfl)
    have e1 := lc_cases y.t ⟨sk, sn⟩
    have e2 := lc_cases y.f ⟨sk, sn⟩
    have e3 := lc_cases y.t y.f
    have hk0 : (0 : Int) ≤ (k : Int) := by omega
    have hk1 : (k : Int) < (n : Int) := by omega
    obtain ⟨⟨tk, tn⟩, ⟨fk, fn⟩⟩ := y
    simp only at d0 d1 d2 d3 e1 e2 e3 HBAD HGD HSB
    clear hy
    rcases e1 with e1 | e1
    · have HE := hide (HBAD.out (.inl e1))
      injection e1 with e1 e4
      subst e1
      subst e4
      clear e2 e3
      go_wp2
      go_quiet (fail)
      go_wp2
      go_ret2
      unfold OrdA
      exact ⟨fun h => (by rw [HE.out] at h; cases h), fun _ => rfl, below_drewN HBW.out _⟩
    have HN1 := hide (lc_ne (a := ⟨tk, tn⟩) (b := ⟨sk, sn⟩) e1)
    rcases e2 with e2 | e2
    · have HE := hide (HBAD.out (.inr e2))
      injection e2 with e2 e4
      subst e2
      subst e4
      clear e3
      rcases e1 with e1 | ⟨e0, e1⟩
      all_goals
        try simp only at e1
        try simp only at e0
        try subst e0
        go_wp2
        go_quiet (fail)
        go_wp2
        go_ret2
        unfold OrdA
        exact ⟨fun h => (by rw [HE.out] at h; cases h), fun _ => rfl, below_drewN HBW.out _⟩
    have HN2 := hide (lc_ne (a := ⟨fk, fn⟩) (b := ⟨sk, sn⟩) e2)
    have HG2 := hide (HGD.out HN1.out HN2.out)
    have HCE := hide (fun (W : World) (hW : Below w.heap.size w W) => HS.out W hW be oe rfl k _ HYE.out)
    clear HN1 HN2 HBAD HGD
    go_upto_region 7 with (fail)
    go_cut [44] from 29 to 44 (fun b wx => b = .bool false ∧ Below wo.heap.size wo wx)
    case first =>
      clear e3
      rcases e1 with e1 | ⟨e0, e1⟩ <;> rcases e2 with e2 | ⟨e5, e2⟩
      all_goals
        try simp only at e1
        try simp only at e2
        try simp only at e0
        try simp only at e5
        try subst e0
        try subst e5
        go_quiet (fail)
        go_wp2_with fail
        go_meet
        exact ⟨rfl, below_drewN (Below.refl _ _) _⟩
    case rest =>
      obtain ⟨hbf, hbx⟩ := hcut
      subst hbf
      obtain ⟨w5, rfl⟩ : ∃ w5, w5 = wc := ⟨_, rfl⟩
      have HB5 := hide hbx
      have HC5 := hide (HBW.out.trans (hbx.mono HBW.out.size))
      obtain ⟨d0, d1, d2, d3, lb⟩ := HCE.out w5 HC5.out
      simp only at d0 d1 d2 d3
      clear hbx e1 e2
      go_upto_region 9 with (fail)
      rcases e3 with e3 | e3
      · have HL2 := hide (show leftO (l.take (k + 1)) = leftO (l.take k) from by rw [HLS.out, HSB.out, decide_eq_true e3]; simp)
        injection e3 with e3 e4
        subst e3
        subst e4
        go_quiet (fail)
        go_wp2
        go_roundw
        case rel => exact ⟨k + 1, by have := HLT.out; omega, by go_num, (by rw [HL2.out]; exact hide (HOU.out.below (HB5.out.trans (below_drewN (Below.refl _ _) _)))), HB.out.trans ((HB5.out.trans (below_drewN (Below.refl _ _) _)).mono HB.out.size), HG2⟩
        case measure => have := HLT.out; simp [intOf]; omega
      have HL2 := hide (show leftO (l.take (k + 1)) = leftO (l.take k) ++ [⟨⟨tk, tn⟩, ⟨fk, fn⟩⟩] from by rw [HLS.out, HSB.out, lc_ne (a := ⟨tk, tn⟩) (b := ⟨fk, fn⟩) e3]; simp)
      clear HSB HLS
      go_cut [55] from 45 to 55 (fun b wx => b = .bool true ∧ Below w5.heap.size w5 wx)
      case first =>
        rcases e3 with e3 | ⟨e6, e3⟩
        all_goals
          try simp only at e3
          try simp only at e6
          try subst e6
          go_quiet (fail)
          go_wp2_with fail
          go_meet
          exact ⟨rfl, below_drewN (Below.refl _ _) _⟩
      case rest =>
        obtain ⟨hbf, hbx⟩ := hcut
        subst hbf
        obtain ⟨w6, rfl⟩ : ∃ w6, w6 = wc := ⟨_, rfl⟩
        have HB6 := hide (HB5.out.trans (hbx.mono HB5.out.size))
        have HC6 := hide (HBW.out.trans (HB6.out.mono HBW.out.size))
        obtain ⟨d0, d1, d2, d3, lb⟩ := HCE.out w6 HC6.out
        simp only at d0 d1 d2 d3
        have HO6 := hide (HOU.out.below HB6.out)
        have HBS := hide (show w1.heap.size ≤ w6.heap.size from by have := HB.out.size; have := HB6.out.size; omega)
        have HNR := hide (show nu < 1000000 from by have := HUB.out; have := HLT.out; omega)
        clear hbx e3
        go_wp2_with (at_builtin; refine wpList_append_c (c := mvC) (sz := 4) (w6.alloc (.cells #[.int .i64 tk, .int .i64 tn, .int .i64 fk, .int .i64 fn] 38)) (by rfl) _ _ _ (by rfl) w1.heap.size i0 _ 32 Try.underlying22 HI.out iz0 iz1 iz2 rfl (by omega) (by omega) (.slice Au nu cu) (leftO (l.take k)) nu HNU.out (by rfl) (HO6.out.below (alloc1 w6 _)) ⟨⟨tk, tn⟩, ⟨fk, fn⟩⟩ rfl (fun u hu => by simp only [mvC, List.mem_cons, List.mem_nil_iff, or_false] at hu; rcases hu with rfl | rfl | rfl | rfl <;> rfl) w6.heap.size _ (Box.new w6 _ _) rfl (by rfl) HNR.out (by have := HBS.out; simp only [World.size_alloc]; omega) ?_; intro g5 k5 w10 ho5 hg5 hv5 hl5; have HO5 := hide ho5; have HB10 := hide (show Below w1.heap.size w1 w10 from ((HB.out.trans ((HB6.out.trans ((alloc1 w6 _).mono HB6.out.size)).mono HB.out.size)).grown hg5 (by have := HBS.out; simp only [World.size_alloc]; omega) (fun k hk => (HO6.out.lt k hk).1))); clear ho5 hg5 hv5 hl5)
        go_roundw
        case rel => exact ⟨k + 1, by have := HLT.out; omega, by go_num, (by rw [HL2.out]; exact HO5), HB10.out, HG2⟩
        case measure => have := HLT.out; simp [intOf]; omega
end Go.Proofs.Ytkilfejcohnceaa
