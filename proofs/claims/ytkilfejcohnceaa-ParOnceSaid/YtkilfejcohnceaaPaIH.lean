/- Layer 17, the program: Right, Order. Condition: no more than 1000 moves. -/
import Derived.Test.YtkilfejcohnceaaPaIG
import Derived.Deep.LoopGhost
set_option linter.unusedSimpArgs false
set_option linter.unusedVariables false
namespace Go.Proofs.Ytkilfejcohnceaa
open Go.RowKit

theorem right_snoc : ∀ (l : List MvV) (m : MvV), right17 (l ++ [m]) = (right17 l && (mayB17 m.t && (mayB17 m.f && !metO l m.t)))
  | [], m => by simp [right17, metO]
  | x :: l, m => by
    have ih := right_snoc l m
    rw [List.cons_append, right17, ih, right17]
    have e : metO (l ++ [m]) x.t = (metO l x.t || decide (m.t = x.t)) := by simp [metO]
    have e2 : metO (x :: l) m.t = (decide (x.t = m.t) || metO l m.t) := by simp [metO]
    rw [e, e2]
    by_cases h : m.t = x.t
    · rw [h]
      simp
    · have h2 : ¬ x.t = m.t := fun e => h e.symm
      simp [h, h2]
      cases mayB17 x.t <;> cases mayB17 x.f <;> cases metO l x.t <;> cases right17 l <;> cases mayB17 m.t <;> cases mayB17 m.f <;> cases metO l m.t <;> rfl
theorem right_pre : ∀ (a b : List MvV), right17 (a ++ b) = true → right17 a = true
  | [], _, _ => rfl
  | x :: a, b, h => by
    simp only [List.cons_append, right17, Bool.and_eq_true, Bool.not_eq_true'] at h ⊢
    refine ⟨h.1, h.2.1, ?_, right_pre a b h.2.2.2⟩
    have e : metO (a ++ b) x.t = (metO a x.t || metO b x.t) := by simp [metO]
    rw [e, Bool.or_eq_false_iff] at h
    exact h.2.2.1.1
theorem right_bad {l : List MvV} {k : Nat} {m : MvV} (hm : l[k]? = some m) (h : (mayB17 m.t && (mayB17 m.f && !metO (l.take k) m.t)) = false) : right17 l = false := by
  cases e : right17 l
  · rfl
  · have e2 : l = l.take (k + 1) ++ l.drop (k + 1) := (List.take_append_drop _ _).symm
    rw [e2] at e
    have t := right_pre _ _ e
    rw [List.take_add_one, hm, Option.toList_some, right_snoc, h, Bool.and_false] at t
    cases t
theorem right_next {l : List MvV} {k : Nat} {m : MvV} (hm : l[k]? = some m) (hr : right17 (l.take k) = true) (h : (mayB17 m.t && (mayB17 m.f && !metO (l.take k) m.t)) = true) : right17 (l.take (k + 1)) = true := by
  rw [List.take_add_one, hm, Option.toList_some, right_snoc, hr, h]
  rfl
theorem met_next {l : List MvV} {k : Nat} {m : MvV} (hm : l[k]? = some m) : (fun y => metO (l.take k) y || decide (m.t = y)) = metO (l.take (k + 1)) := by
  funext y
  rw [List.take_add_one, hm]
  simp [metO]
theorem SetL.cast {w : World} {b n : Nat} {T U : LcV → Bool} (h : SetL w b n T) (e : T = U) : SetL w b n U := e ▸ h
set_option maxHeartbeats 4000000 in
set_option maxRecDepth 100000 in
theorem iright_any (v : Value) (l : List MvV) (w : World) (hl : MvsV w (· < w.heap.size) v l) (hm : l.length ≤ 1000) :
    Calls Try.prog 12 #[v] w fun e w' => e = .returned (.bool (right17 l)) ∧ Below w.heap.size w w' := by
  have hmm := @run_makeMap Try.prog
  have HR := hide hl.range
  obtain ⟨A, c, rfl, hc, hcm⟩ := hl.open'
  obtain ⟨n, hn⟩ := letl l.length
  rw [hn] at hl hc hm ⊢
  have HS := hide (fun (W : World) (hW : Below w.heap.size w W) (b o : Nat) (hA : A = some ⟨b, o, none⟩) (j : Nat) (y : MvV) (hy : l[j]? = some y) => (hA ▸ hl).at' hW hy)
  have HAA := hide (fun (j : Nat) (y : MvV) (hy : l[j]? = some y) => (show (∃ b o, A = some ⟨b, o, none⟩) from by
    obtain ⟨b, o, e, -⟩ := hl.get hy
    exact ⟨b, o, e⟩))
  have HN := hide hn
  clear hl hn
  go_enter Try.func12, Try.ntmps12
  go_upto_region 2 with (fail)
  obtain ⟨w1, hw1⟩ := letr (w.alloc (.map #[] 0))
  obtain ⟨gm, hgm⟩ := letl w.heap.size
  have HM1 := hide (show SetL w1 gm 0 (fun _ => false) from by rw [hw1, ← hgm]; exact SetL.start w)
  have HB1 := lBel hw1
  have HG := hide hgm
  rw [← hw1, hgm]
  clear hw1 hgm hmm
  go_wp2
  go_loopw [11] (fun i wr => ∃ k : Nat, k ≤ n ∧ i = .int .i64 (k : Int) ∧ Below gm w wr ∧ Hid (SetL wr gm k (metO (l.take k))) ∧ Hid (right17 (l.take k) = true)) (fun i _ => n - (intOf i).toNat)
  case atStart => exact ⟨0, Nat.zero_le _, rfl, by have t := HB1.out; rwa [HG.out] at t, HM1, hide rfl⟩
  case round =>
    obtain ⟨k, hk, rfl, hb, HM, HRT⟩ := hrel
    obtain ⟨wo, rfl⟩ : ∃ wo, wo = wr := ⟨_, rfl⟩
    have HB := hide hb
    clear hb
    have HBW := hide (show Below w.heap.size w wo from by rw [HG.out]; exact HB.out)
    have HGS := hide (show gm ≤ wo.heap.size from by have := HBW.out.size; have := HG.out; omega)
    by_cases hlt : k < n
    case neg =>
      have HE := hide (show right17 l = true by have t := HRT.out; rwa [List.take_of_length_le (by have := HN.out; omega)] at t)
      go_wp2
      go_ret
      exact ⟨by rw [HE.out]; rfl, HBW.out⟩
    have HLT := hide hlt
    obtain ⟨y, hy⟩ : ∃ y, l[k]? = some y := ⟨_, List.getElem?_eq_getElem (by have := HN.out; omega)⟩
    obtain ⟨be, oe, hA⟩ := HAA.out k y hy
    subst hA
    obtain ⟨d0, d1, d2, d3, lb⟩ := HS.out wo HBW.out be oe rfl k y hy
    have HYR := hide (HR.out y (List.mem_of_getElem? hy))
    have HBAD := hide (fun h => right_bad hy h)
    have HNX := hide (fun h => right_next hy HRT.out h)
    have HMN := hide (met_next hy)
    have HT := hide (fun (W : World) => imov_any y.t W)
    have HF := hide (fun (W : World) => imov_any y.f W)
    unfold lcA at HT HF
    obtain ⟨bm, hbm⟩ := letl (metO (l.take k) y.t)
    obtain ⟨bt, hbt⟩ := letl (mayB17 y.t)
    obtain ⟨bf, hbf⟩ := letl (mayB17 y.f)
    rw [hbm, hbt, hbf] at HBAD HNX
    rw [hbt] at HT
    rw [hbf] at HF
    have HBM := hide hbm
    obtain ⟨⟨tk, tn⟩, ⟨fk, fn⟩⟩ := y
    simp only at d0 d1 d2 d3 HT HF HBM
    have hk0 : (0 : Int) ≤ (k : Int) := by omega
    have hk1 : (k : Int) < (n : Int) := by omega
    clear hy hbm hbt hbf
    go_upto_region 5 with (fail)
    obtain ⟨w5, hw5⟩ := letr (wo.alloc (.cells #[.int .i64 tk, .int .i64 tn, .int .i64 fk, .int .i64 fn] 38))
    obtain ⟨h5, hh5⟩ := letl wo.heap.size
    have HX5 := lBox hw5 hh5
    have HB5 := lBel hw5
    have HH5 := hide hh5
    rw [← hw5, hh5]
    clear hw5 hh5 d0 d1 d2 d3 lb
    have x0 := (HX5.out.cell 0 (v := .int .i64 tk) rfl).1
    have x1 := (HX5.out.cell 1 (v := .int .i64 tn) rfl).1
    have lx := HX5.out.lt
    have hlk := (HM.out.below HB5.out).look HYR.out.1
    rw [HBM.out] at hlk
    simp only at hlk
    go_upto_region 6 with (fail)
    obtain ⟨w6, hw6⟩ := letr (w5.alloc (.cells #[] 52))
    have HB6 := hide (HB5.out.trans ((lBel hw6).out.mono HB5.out.size))
    have HX6 := hide (HX5.out.below (lBel hw6).out)
    rw [← hw6]
    clear hw6 hlk x0 x1 lx
    have HM6 := hide (HM.out.below HB6.out)
    have HC6 := hide (HBW.out.trans (HB6.out.mono HBW.out.size))
    have x0 := (HX6.out.cell 0 (v := .int .i64 tk) rfl).1
    have x1 := (HX6.out.cell 1 (v := .int .i64 tn) rfl).1
    have x2 := (HX6.out.cell 2 (v := .int .i64 fk) rfl).1
    have x3 := (HX6.out.cell 3 (v := .int .i64 fn) rfl).1
    have lx := HX6.out.lt
    cases bm with
    | true =>
      have HE := hide (HBAD.out (by simp))
      go_wp2
      go_ret
      exact ⟨by rw [HE.out]; rfl, HC6.out⟩
    | false =>
      cases bt with
      | false =>
        have HE := hide (HBAD.out (by simp))
        go_wp2_with (go_at_call 21; (with_reducible refine (HT.out w6).mono ?_); rintro e w7 ⟨rfl, hb7⟩)
        go_ret
        exact ⟨by rw [HE.out]; rfl, HC6.out.trans (hb7.mono HC6.out.size)⟩
      | true =>
        cases bf with
        | false =>
          have HE := hide (HBAD.out (by simp))
          go_wp2_with (first
            | (go_at_call 21; (with_reducible refine (HF.out w7).mono ?_); rintro e w8 ⟨rfl, hb8⟩; have c8 := hide (c7.out.trans (hb8.mono c7.out.size)); clear hb8)
            | (go_at_call 21; (with_reducible refine (HT.out w6).mono ?_); rintro e w7 ⟨rfl, hb7⟩; have c7 := hide (HC6.out.trans (hb7.mono HC6.out.size)); have x2 := (hb7.cell (p := ⟨h5, 2, none⟩) lx).trans x2; have x3 := (hb7.cell (p := ⟨h5, 3, none⟩) lx).trans x3; have lx : h5 < w7.heap.size := Nat.lt_of_lt_of_le lx hb7.size; clear hb7 x0 x1))
          go_ret
          exact ⟨by rw [HE.out]; rfl, c8.out⟩
        | true =>
          have HE := hide (HNX.out (by simp))
          have HM7 := hide (fun (W : World) (hW : Below w6.heap.size w6 W) => (HM6.out.below hW).put HYR.out.1 (by have := HLT.out; omega))
          simp only at HM7
          go_wp2_with (first
            | (go_at_call 21; (with_reducible refine (HF.out w7).mono ?_); rintro e w8 ⟨rfl, hb8⟩; have c8 := hide (c7.out.trans (hb8.mono c7.out.size)); have x0 := (hb8.cell (p := ⟨h5, 0, none⟩) lx).trans x0; have x1 := (hb8.cell (p := ⟨h5, 1, none⟩) lx).trans x1; have lx : h5 < w8.heap.size := Nat.lt_of_lt_of_le lx hb8.size; obtain ⟨w9, hput, hm9, hg9⟩ := HM7.out w8 c8.out; have HM9 := hide hm9; have HG9 := hide hg9; clear hb8 x2 x3 hm9 hg9)
            | (go_at_call 21; (with_reducible refine (HT.out w6).mono ?_); rintro e w7 ⟨rfl, hb7⟩; have c7 := hide hb7; have x0 := (hb7.cell (p := ⟨h5, 0, none⟩) lx).trans x0; have x1 := (hb7.cell (p := ⟨h5, 1, none⟩) lx).trans x1; have x2 := (hb7.cell (p := ⟨h5, 2, none⟩) lx).trans x2; have x3 := (hb7.cell (p := ⟨h5, 3, none⟩) lx).trans x3; have lx : h5 < w7.heap.size := Nat.lt_of_lt_of_le lx hb7.size; clear hb7))
          go_roundw
          case rel => exact ⟨k + 1, by have := HLT.out; omega, by go_num, (HB.out.trans ((HB6.out.trans (c8.out.mono HB6.out.size)).mono HGS.out)).grown HG9.out (by have := HGS.out; have := HB6.out.size; have := c8.out.size; omega) (fun z hz => by injection hz with hz; omega), hide (HM9.out.cast HMN.out), HE⟩
          case measure => have := HLT.out; simp [intOf]; omega
/-- What Order answers. -/
def OrdA (w : World) (l : List MvV) (sp : LcV) (e : Ending) (w' : World) : Prop :=
  (okO l sp = true → ∃ v, e = .returned (.tuple #[v, .int .i64 0]) ∧ OwC mvC 38 4 w' w.heap.size v (orderL l sp) ∧ mvR (orderL l sp)) ∧ (okO l sp = false → e = .returned (.tuple #[.slice none 0 0, .int .i64 1])) ∧ Below w.heap.size w w'
theorem step_R {l : List MvV} {sp : LcV} (hr : mvR l) (hs : lcR sp) (h0 : 0 < l.length) : lcR (stepO sp l).1.t ∧ lcR (stepO sp l).1.f := by
  unfold stepO
  split
  · rename_i hf
    exact hr _ (mvAt_mem hf)
  · exact ⟨hs, (hr _ (mvAt_mem h0)).1⟩
theorem step_len {l : List MvV} {sp : LcV} : (stepO sp l).2.length ≤ l.length := by
  unfold stepO
  split
  · rename_i hf
    simp only
    rw [List.length_eraseIdx_of_lt hf]
    omega
  · simp only
    rw [save_len]
    exact Nat.le_refl _
/-- Order's loop under way. -/
def OrdL (w : World) (h hs base gm : Nat) (sp : LcV) (fin : List MvV) (K : Nat) (wr : World) : Prop :=
  ∃ left done vl vd n k, k = K ∧ QuS wr h base vl vd gm n left done ∧ InvO sp left ∧ dueN left ≤ k ∧ done ++ ordN sp k left = fin ∧ n + 4 * k ≤ 50000 ∧ left.length ≤ 1000 ∧ done.length + k ≤ 5000 ∧ mvR done ∧ Below base w wr ∧ Box wr hs #[.int .i64 sp.k, .int .i64 sp.n] 24
theorem OrdL.next {w wr w' : World} {h hs base gm k n : Nat} {sp : LcV} {fin left done : List MvV} {vl' vd' : Value} (hq : QuS w' h base vl' vd' gm (n + 4) (stepO sp left).2 (done ++ [(stepO sp left).1])) (hi : InvO sp left) (h0 : 0 < left.length) (hk : dueN left ≤ k + 1) (hf : done ++ ordN sp (k + 1) left = fin) (hn : n + 4 * (k + 1) ≤ 50000) (hl : left.length ≤ 1000) (hd : done.length + (k + 1) ≤ 5000) (hr : mvR done) (hmr : mvR left) (hsp : lcR sp) (hb : Below base w wr) (hb' : Below base wr w') (hx : Box w' hs #[.int .i64 sp.k, .int .i64 sp.n] 24) : OrdL w h hs base gm sp fin k w' :=
  ⟨(stepO sp left).2, done ++ [(stepO sp left).1], vl', vd', n + 4, k, rfl, hq, hi.step, by have := due_step hi h0; omega, by rw [List.append_assoc, List.singleton_append, ← ord_step k h0]; exact hf, by omega, Nat.le_trans step_len hl, by rw [List.length_append, List.length_singleton]; omega, fun m hm => by
    rcases List.mem_append.1 hm with hm | hm
    · exact hr m hm
    · rw [List.mem_singleton] at hm
      subst hm
      exact step_R hmr hsp h0, hb.trans hb', hx⟩
set_option maxHeartbeats 4000000 in
set_option maxRecDepth 100000 in
theorem iorder_any (v : Value) (l : List MvV) (sp : LcV) (w : World) (hl : MvsV w (· < w.heap.size) v l) (hm : l.length ≤ 1000) (hsp : lcR sp) :
    Calls Try.prog 9 #[v, lcA sp] w (OrdA w l sp) := by
  have HRT := hide (fun (W : World) (hW : Below w.heap.size w W) => iright_any v l W (hl.up hW) hm)
  have HMV := hide (fun (W : World) => imov_any sp W)
  have HCT := hide (fun (W : World) (hW : Below w.heap.size w W) => hl.up hW)
  have HWT := hide (fun (W : World) (hW : Below w.heap.size w W) => iwait_any v l W (hl.up hW) hm)
  have HMR := hide hl.range
  have HSP := hide hsp
  have HLM := hide hm
  obtain ⟨A, c, rfl, -, -⟩ := hl.open'
  have HCN := hide (fun (gs : Nat) (W : World) (hW : MvsV W (· < W.heap.size) (.slice A l.length c) l) => icont_any gs (fun m => decide (m.t = sp) || decide (m.f = sp)) l A c W hm hW)
  have HO1 := hide (fun (gs : Nat) (m : MvV) (W : World) (hb : Box W gs #[.int .i64 sp.k, .int .i64 sp.n] 24) => iord1_any gs m sp W hb)
  have HOK := hide (show okO l sp = (right17 l && (mayB17 sp && !(l.any (fun m => decide (m.t = sp) || decide (m.f = sp))))) from rfl)
  have HIN := hide (fun (h : okO l sp = true) => ok_inv h)
  obtain ⟨b1, hb1⟩ := letl (right17 l)
  obtain ⟨b2, hb2⟩ := letl (mayB17 sp)
  obtain ⟨b3, hb3⟩ := letl (l.any (fun m => decide (m.t = sp) || decide (m.f = sp)))
  rw [hb1] at HRT HOK
  rw [hb2] at HMV HOK
  rw [hb3] at HCN HOK
  obtain ⟨n, hn⟩ := letl l.length
  rw [hn] at HRT HCT HCN HWT ⊢
  obtain ⟨sk, sn⟩ := sp
  unfold lcA at HMV ⊢
  clear hl hm hsp hb1 hb2 hb3 hn
  go_enter Try.func9, Try.ntmps9
  go_upto_region 1 with (fail)
  obtain ⟨w1, hw1⟩ := letr (w.alloc (.cells #[.int .i64 sk, .int .i64 sn] 24))
  obtain ⟨hs, hhs⟩ := letl w.heap.size
  have HXS := lBox hw1 hhs
  have HB1 := lBel hw1
  have HHS := hide hhs
  rw [← hw1, hhs]
  clear hw1 hhs
  have x0 := (HXS.out.cell 0 (v := .int .i64 sk) rfl).1
  have x1 := (HXS.out.cell 1 (v := .int .i64 sn) rfl).1
  have lx := HXS.out.lt
  cases b1 with
  | false =>
    have HE := hide (show okO l ⟨sk, sn⟩ = false from by rw [HOK.out]; rfl)
    go_wp2_with (go_at_call 12; (with_reducible refine (HRT.out w1 HB1.out).mono ?_); rintro e w2 ⟨rfl, hb2⟩)
    go_ret2
    unfold OrdA
    exact ⟨fun h => (by rw [HE.out] at h; cases h), fun _ => rfl, HB1.out.trans (hb2.mono HB1.out.size)⟩
  | true =>
  cases b2 with
  | false =>
    have HE := hide (show okO l ⟨sk, sn⟩ = false from by rw [HOK.out]; rfl)
    go_wp2_with (first
      | (go_at_call 21; (with_reducible refine (HMV.out w2).mono ?_); rintro e w3 ⟨rfl, hb3⟩; have c3 := hide (c2.out.trans (hb3.mono c2.out.size)); clear hb3)
      | (go_at_call 12; (with_reducible refine (HRT.out w1 HB1.out).mono ?_); rintro e w2 ⟨rfl, hb2⟩; have c2 := hide (HB1.out.trans (hb2.mono HB1.out.size)); have x0 := (hb2.cell (p := ⟨hs, 0, none⟩) lx).trans x0; have x1 := (hb2.cell (p := ⟨hs, 1, none⟩) lx).trans x1; have lx : hs < w2.heap.size := Nat.lt_of_lt_of_le lx hb2.size; clear hb2))
    go_ret2
    unfold OrdA
    exact ⟨fun h => (by rw [HE.out] at h; cases h), fun _ => rfl, c3.out⟩
  | true =>
  have HCN2 := hide (fun (W : World) (hW : Below w1.heap.size w1 W) => HCN.out hs W (HCT.out W (HB1.out.trans (hW.mono HB1.out.size))) (fun W' hW' m hm => HO1.out hs m W' (HXS.out.below (hW.trans (hW'.mono hW.size)))))
  cases b3 with
  | true =>
    have HE := hide (show okO l ⟨sk, sn⟩ = false from by rw [HOK.out]; rfl)
    go_wp2_with (first
      | (go_at_call 22; (with_reducible refine (HCN2.out w3 c3.out).mono ?_); rintro e w4 ⟨rfl, hb4⟩; have c4 := hide (c3.out.trans (hb4.mono c3.out.size)); clear hb4)
      | (go_at_call 21; (with_reducible refine (HMV.out w2).mono ?_); rintro e w3 ⟨rfl, hb3⟩; have c3 := hide (c2.out.trans (hb3.mono c2.out.size)); clear hb3)
      | (go_at_call 12; (with_reducible refine (HRT.out w1 HB1.out).mono ?_); rintro e w2 ⟨rfl, hb2⟩; have c2 := hide hb2; have x0 := (hb2.cell (p := ⟨hs, 0, none⟩) lx).trans x0; have x1 := (hb2.cell (p := ⟨hs, 1, none⟩) lx).trans x1; have lx : hs < w2.heap.size := Nat.lt_of_lt_of_le lx hb2.size; clear hb2))
    go_ret2
    unfold OrdA
    exact ⟨fun h => (by rw [HE.out] at h; cases h), fun _ => rfl, HB1.out.trans (c4.out.mono HB1.out.size)⟩
  | false =>
    have HE := hide (show okO l ⟨sk, sn⟩ = true from by rw [HOK.out]; rfl)
    have HI := hide (HIN.out HE.out)
    have HW2 := hide (fun (W : World) (hW : Below w1.heap.size w1 W) => HWT.out W (HB1.out.trans (hW.mono HB1.out.size)))
    go_upto_region 4 with (first
      | (go_at_call 24; (with_reducible refine (HW2.out w4 c4.out).mono ?_); rintro e w5 ⟨vl, gm, rfl, hol, hml, hgm, hb5⟩; obtain ⟨A5, c5, rfl, -, -⟩ := hol.sl; have HOL := hide hol; have HML := hide hml; have HGM := hide hgm; have d5 := hide (c4.out.trans (hb5.mono c4.out.size)); clear hol hml hgm hb5)
      | (go_at_call 22; (with_reducible refine (HCN2.out w3 c3.out).mono ?_); rintro e w4 ⟨rfl, hb4⟩; have c4 := hide (c3.out.trans (hb4.mono c3.out.size)); clear hb4)
      | (go_at_call 21; (with_reducible refine (HMV.out w2).mono ?_); rintro e w3 ⟨rfl, hb3⟩; have c3 := hide (c2.out.trans (hb3.mono c2.out.size)); clear hb3)
      | (go_at_call 12; (with_reducible refine (HRT.out w1 HB1.out).mono ?_); rintro e w2 ⟨rfl, hb2⟩; have c2 := hide hb2; have x0 := (hb2.cell (p := ⟨hs, 0, none⟩) lx).trans x0; have x1 := (hb2.cell (p := ⟨hs, 1, none⟩) lx).trans x1; have lx : hs < w2.heap.size := Nat.lt_of_lt_of_le lx hb2.size; clear hb2))
    clear x0 x1 lx
    obtain ⟨w6, hw6⟩ := letr (w5.alloc (.cells #[.slice A5 (leftO l).length c5, .map (some gm), .slice none 0 0] 47))
    obtain ⟨h, hh⟩ := letl w5.heap.size
    have HX6 := lBox hw6 hh
    have HB6 := lBel hw6
    have HH := hide hh
    rw [← hw6, hh]
    clear hw6 hh
    have HC6 := hide (d5.out.trans (HB6.out.mono d5.out.size))
    obtain ⟨fin, hfin⟩ := letl (orderL l ⟨sk, sn⟩)
    have HFIN := hide hfin
    have HXS6 := hide (HXS.out.below HC6.out)
    have HL0 := hide (show OrdL w6 h hs w1.heap.size gm ⟨sk, sn⟩ fin (dueN (leftO l)) w6 from ⟨leftO l, [], _, _, 2000, _, rfl, ⟨HX6.out, (HOL.out.lower c4.out.size).below HB6.out, HML.out.below HB6.out, OwC.nil _ _, fun g hg e => by simp [Value.ownBlock] at e, fun m hm => HMR.out m (List.mem_filter.1 hm).1, by have := HH.out; have := d5.out.size; omega, by have := HGM.out; have := c4.out.size; omega, HC6.out.size⟩, HI.out, Nat.le_refl _, by rw [List.nil_append]; exact hfin, by
      have : (leftO l).length ≤ 1000 := Nat.le_trans (List.length_filter_le _ _) HLM.out
      unfold dueN
      split <;> omega, Nat.le_trans (List.length_filter_le _ _) HLM.out, by
      have : (leftO l).length ≤ 1000 := Nat.le_trans (List.length_filter_le _ _) HLM.out
      unfold dueN
      simp only [List.length_nil]
      split <;> omega, (fun m hm => by cases hm), Below.refl _ _, HXS6.out⟩)
    have HBW := hide (show Below w.heap.size w w6 from HB1.out.trans (HC6.out.mono HB1.out.size))
    obtain ⟨F, hF⟩ := letl (dueN (leftO l))
    rw [hF] at HL0
    clear hfin hF
    go_loopg [] F (fun k wr => OrdL w6 h hs w1.heap.size gm ⟨sk, sn⟩ fin k wr)
    case atStart => exact HL0.out
    case round =>
      obtain ⟨left, done, vl, vd, m, k, hkK, hq, hi, hdue, hff, hnn, hll, hdd, hrd, hb, hx⟩ := hrel
      obtain ⟨wo, rfl⟩ : ∃ wo, wo = wr := ⟨_, rfl⟩
      have HQ := hide hq
      obtain ⟨Al, cl, hvl, -, -⟩ := hq.own.sl
      subst hvl
      obtain ⟨Ad, cd, hvd, -, -⟩ := hq.out.sl
      subst hvd
      have q0 := (hq.box.cell 0 (v := .slice Al left.length cl) rfl).1
      have q2 := (hq.box.cell 2 (v := .slice Ad done.length cd) rfl).1
      have lq := hq.box.lt
      rcases Nat.eq_zero_or_pos left.length with h0 | h0
      · have hl0 : left = [] := List.eq_nil_of_length_eq_zero h0
        have HF := hide (show done = orderL l ⟨sk, sn⟩ from by rw [HFIN.out, ← hff, hl0, ord_nil, List.append_nil])
        have HRD := hide hrd
        have HB := hide hb
        rw [h0] at q0
        clear hq hi hdue hff hnn hll hdd hrd hb hx h0
        go_wp2
        go_ret2
        unfold OrdA
        exact ⟨fun _ => ⟨_, rfl, by rw [← HF.out]; exact HQ.out.out.lower HB1.out.size, by rw [← HF.out]; exact HRD.out⟩, fun h => (by rw [HE.out] at h; cases h), HBW.out.trans (HB.out.mono HB1.out.size)⟩
      · obtain ⟨k', rfl⟩ : ∃ k', k = k' + 1 := ⟨k - 1, by unfold dueN at hdue; omega⟩
        have HNXT := hide (inext_any h w1.heap.size gm m _ _ left done ⟨sk, sn⟩ wo hq hi HSP.out h0 hll (by omega) (by omega))
        have HNL := hide (fun (w' : World) (vl' vd' : Value) (hq' : QuS w' h w1.heap.size vl' vd' gm (m + 4) (stepO ⟨sk, sn⟩ left).2 (done ++ [(stepO ⟨sk, sn⟩ left).1])) (hb' : Below w1.heap.size wo w') => OrdL.next (hs := hs) hq' hi h0 hdue hff hnn hll hdd hrd hq.mr HSP.out hb hb')
        have HBH := hide hx
        have y0 := (hx.cell 0 (v := .int .i64 sk) rfl).1
        have y1 := (hx.cell 1 (v := .int .i64 sn) rfl).1
        have ly := hx.lt
        have hg0 : (0 : Int) < (left.length : Int) := by omega
        unfold lcA at HNXT
        clear hq hi hdue hff hnn hll hdd hrd hb hx
        go_wp2_with (go_at_call 25; (with_reducible refine HNXT.out.mono ?_); rintro e w7 ⟨rfl, ⟨vl', vd', hq'⟩, hb'⟩; have HQ7 := hide hq'; have HB7 := hide hb'; clear hq' hb')
        go_roundg k'
        case measure => omega
        case rel => exact HNL.out w7 _ _ HQ7.out HB7.out (HBH.out.belowB HB7.out HXS.out.lt)
end Go.Proofs.Ytkilfejcohnceaa
