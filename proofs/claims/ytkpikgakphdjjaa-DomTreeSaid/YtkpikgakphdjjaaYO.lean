/- The statement DomTree, walked: it answers true. Condition: no slice of the program is longer than any machine's memory. -/
import Derived.Test.YtkpikgakphdjjaaYU
import Derived.Test.YtkpikgakphdjjaaFU
set_option linter.unusedSimpArgs false
set_option linter.unusedVariables false
namespace Go.Proofs.Ytkpikgakphdjjaa
open Go.RowKit
attribute [local go_sem ↓] Go.wp_at_zero Go.wp_at_succ

theorem AbvOf.trn {f : FunV} {A : List Int} (hok : FlowOk f) (h1 : 1 ≤ f.blocks.length) (h : AbvOf f A) : ∃ tn, Tr tn (inA A) (upA A) ∧ ∀ b, inA A b → tn b < f.blocks.length := by
  obtain ⟨o, ho, hr⟩ := h
  refine ⟨_, hr.gi.tr, fun b hb => ?_⟩
  have h2 := (tnO_lt ((hr.all b).1 hb)).1
  obtain ⟨m, lF, hD, rfl⟩ := ho
  have h3 := dfs_len hok h1 hD
  rw [List.length_reverse] at h2
  omega
/-- Up the tree from c: x is reached after s steps. -/
def UpC (A : List Int) (tn : Nat → Nat) (c x s : Nat) : Prop := (inA A c ∧ inA A x ∧ Anc (upA A) x c ∧ s + tn x ≤ tn c) ∨ (¬ inA A c ∧ x = c ∧ s = 0)
theorem tree_cases {f : FunV} {A : List Int} (h : AbvOf f A) (h1 : 1 ≤ f.blocks.length) (a b c : Nat) :
    (¬ domQ A a b ∧ ¬ domQ A a c) ∨ (¬ domQ A a b ∧ domQ A a c ∧ ¬ domQ A b c) ∨ (¬ domQ A a b ∧ domQ A a c ∧ domQ A b c ∧ domQ A b a) ∨ (domQ A a b ∧ ¬ domQ A b c ∧ ¬ domQ A a c) ∨ (domQ A a b ∧ ¬ domQ A b c ∧ domQ A a c) ∨ (domQ A a b ∧ domQ A b c ∧ domQ A a c) := by
  obtain ⟨tn, ht⟩ := h.tr
  by_cases p1 : domQ A a b <;> by_cases p2 : domQ A b c <;> by_cases p3 : domQ A a c
  · exact .inr (.inr (.inr (.inr (.inr ⟨p1, p2, p3⟩))))
  · exfalso
    rw [domQ_nat h h1] at p1 p2 p3
    exact p3 ⟨p1.1, p2.2.1, p1.2.2.trans p2.2.2⟩
  · exact .inr (.inr (.inr (.inr (.inl ⟨p1, p2, p3⟩))))
  · exact .inr (.inr (.inr (.inl ⟨p1, p2, p3⟩)))
  · refine .inr (.inr (.inl ⟨p1, p3, p2, ?_⟩))
    rw [domQ_nat h h1] at p1 p2 p3 ⊢
    refine ⟨p2.1, p3.1, ?_⟩
    rcases Nat.le_total (tn a) (tn b) with hl | hl
    · exact absurd ⟨p3.1, p2.1, p3.2.2.lin ht p2.2.2 p3.2.1 hl⟩ p1
    · exact p2.2.2.lin ht p3.2.2 p3.2.1 hl
  · exact .inl ⟨p1, p3⟩
  · exact .inr (.inl ⟨p1, p3, p2⟩)
  · exact .inl ⟨p1, p3⟩
theorem up_step {f : FunV} {A : List Int} {tn : Nat → Nat} (h : AbvOf f A) (h1 : 1 ≤ f.blocks.length) (ht : Tr tn (inA A) (upA A)) {c x s : Nat} (hu : UpC A tn c x s) (hx : ¬ A.getD x (-1) = -1) : ∃ u : Nat, A.getD x (-1) = u ∧ UpC A tn c u (s + 1) ∧ tn u < tn x ∧ domQ A u c ∧ u < A.length ∧ s + 1 ≤ tn c ∧ inA A c := by
  have hxI : inA A x := .inr hx
  have x0 : x ≠ 0 := fun e => by subst e; exact hx h.zero
  rcases hu with ⟨hc, -, ha, hs⟩ | ⟨hn, rfl, -⟩
  · obtain ⟨l1, l2⟩ := ht.lt x hxI x0
    have hac : Anc (upA A) (upA A x) c := (Anc.step x0 .refl).trans ha
    exact ⟨upA A x, h.neg x hxI x0, .inl ⟨hc, l1, hac, by omega⟩, l2, (domQ_nat h h1 _ _).2 ⟨l1, hc, hac⟩, h.lt h1 _ l1, by omega, hc⟩
  · exact absurd hxI hn
theorem up_end {f : FunV} {A : List Int} {tn : Nat → Nat} (h : AbvOf f A) {c x s : Nat} (hu : UpC A tn c x s) (hx : A.getD x (-1) = -1) (hc : inA A c) : x = 0 := by
  rcases hu with ⟨-, h2, -⟩ | ⟨hn, -⟩
  · exact h2.elim id fun h => absurd hx h
  · exact absurd hc hn
set_option maxHeartbeats 4000000 in
set_option maxRecDepth 100000 in
theorem tree_law (vp : Value) (p : List FunV) (an bn cn : Nat) (ha : an < 256) (hb : bn < 256) (hc : cn < 256) (w : World) (hp : FunsV w (· < w.heap.size) vp p) (hsz : progSize p) :
    Calls Try.prog 6 #[.agg #[vp], .agg #[.int .u8 (an : Int), .int .u8 (bn : Int), .int .u8 (cn : Int)]] w fun e w' => e = .returned (.bool true) ∧ Below w.heap.size w w' := by
  have HKP := hide (fun (W : World) (hW : Below w.heap.size w W) => hp.keep (up hW (Nat.le_refl _)) (fun _ h => h))
  have HOUT := hide (fun (W : World) (hW : Below w.heap.size w W) => out6_any vp p W w.heap.size hW.size (hp.keep (up hW (Nat.le_refl _)) (fun _ h => h)) hsz)
  have HALLOK := hide (fun h => @flowOk_of p h)
  obtain ⟨A, c, rfl, hpc, hpm⟩ := hp.open'
  obtain ⟨lp, hlp⟩ : ∃ lp, p.length = lp := ⟨_, rfl⟩
  have HLP := hide hlp
  rw [hlp] at HKP HOUT hpc ⊢
  clear hp hsz hlp
  go_enter Try.func6, Try.ntmps6
  go_upto_region 1 with (fail)
  obtain ⟨w0, hw0⟩ : ∃ w0, w0 = (w.alloc (.cells #[.slice A lp c] 24)).alloc (.cells #[.int .u8 (an : Int), .int .u8 (bn : Int), .int .u8 (cn : Int)] 38) := ⟨_, rfl⟩
  obtain ⟨h2, hh2⟩ : ∃ h2, w.heap.size + 1 = h2 := ⟨_, rfl⟩
  have HX0 := hide (show Box w0 w.heap.size #[.slice A lp c] 24 by rw [hw0]; exact (Box.new w _ _).alloc _)
  have HY0 := hide (show Box w0 h2 #[.int .u8 (an : Int), .int .u8 (bn : Int), .int .u8 (cn : Int)] 38 by
    have h := Box.new (w.alloc (.cells #[.slice A lp c] 24)) #[.int .u8 (an : Int), .int .u8 (bn : Int), .int .u8 (cn : Int)] 38
    rw [World.size_alloc, hh2] at h
    rw [hw0]; exact h)
  have HB0 := hide (show Below w.heap.size w w0 by rw [hw0]; exact alloc2 w _ _)
  rw [← hw0, hh2]
  clear hw0 hh2
  go_upto_region 3 with (go_at_call 16; refine (alive6_any w0).mono ?_; rintro e w1 ⟨rfl, hb1⟩; have HX1 := hide (HX0.out.below hb1); have HY1 := hide (HY0.out.below hb1); have HC1 := hide (HB0.out.trans (hb1.mono HB0.out.size)); clear hb1)
  have x1 := (HX1.out.cell 0 (v := .slice A lp c) rfl).1
  have l1 := HX1.out.lt
  go_upto_region 5 with (go_at_call 17; refine (HOUT.out w1 HC1.out).mono ?_; rintro e w2 ⟨b1, rfl, hs2, hb2⟩; have HB2 := hide (HC1.out.trans (hb2.mono HC1.out.size)); have HX2 := hide (HX1.out.below hb2); have HY2 := hide (HY1.out.below hb2); have HS2 := hide hs2; clear x1 hb2 hs2)
  all_goals try (go_ret; exact ⟨rfl, HB2.out⟩)
  have hb1f : b1 = false := by assumption
  subst hb1f
  have HOKS := hide (HALLOK.out (HS2.out.out rfl))
  clear HOUT HALLOK HS2 HC1 HX1 HY1 l1
  go_wp2
  go_loopw [5] (fun i wr => ∃ k : Nat, k ≤ lp ∧ i = .int .i64 k ∧ Below w2.heap.size w2 wr) (fun i _ => lp - (intOf i).toNat)
  case atStart => exact ⟨0, Nat.zero_le _, rfl, Below.refl _ _⟩
  case round =>
    obtain ⟨k, hk, rfl, hb'⟩ := hrel
    obtain ⟨wo, rfl⟩ : ∃ wo, wo = wr := ⟨_, rfl⟩
    have hszo := hb'.size
    have HBEL := hide (HB2.out.trans (hb'.mono HB2.out.size))
    have HXO := hide (HX2.out.below hb')
    have HBW := hide hb'
    have HYO := hide (HY2.out.below hb')
    have xp := (HXO.out.cell 0 (v := .slice A lp c) rfl).1
    have lxp := HXO.out.lt
    clear hb'
    by_cases hlt : k < lp
    case neg =>
      go_wp2
      go_ret
      exact ⟨rfl, HBEL.out⟩
    obtain ⟨f, hf⟩ : ∃ f, p[k]? = some f := ⟨_, List.getElem?_eq_getElem (by have := HLP.out; omega)⟩
    obtain ⟨b, o, Ak, ck, Ab, cb, As, cs, hA, hbb, ⟨e0, e1, e2, e3, e4⟩, hi⟩ := (HKP.out wo HBEL.out).get hf
    subst hA
    have hbs : b < wo.heap.size := by have := HBEL.out.size; omega
    obtain ⟨hok, hls1⟩ := HOKS.out f (List.mem_of_getElem? hf)
    have kI := fun (W : World) (hW : Below wo.heap.size wo W) => hi.keep (w := wo) (S := (· < w.heap.size)) (up hW HBEL.out.size) (fun _ h => h)
    obtain ⟨AL, hAL⟩ := AbvOf.ex HBEL.out.size hi hok hls1
    have HAL := hide hAL
    have HALL := hide hAL.len
    have HALT := hide (fun b hb => hAL.lt hls1 b hb)
    have hls40 := hok.1
    obtain ⟨ra, hra⟩ : ∃ r, an % f.blocks.length = r := ⟨_, rfl⟩
    have hral : ra < f.blocks.length := by rw [← hra]; exact Nat.mod_lt _ (by omega)
    obtain ⟨rb, hrb⟩ : ∃ r, bn % f.blocks.length = r := ⟨_, rfl⟩
    have hrbl : rb < f.blocks.length := by rw [← hrb]; exact Nat.mod_lt _ (by omega)
    obtain ⟨rc, hrc⟩ : ∃ r, cn % f.blocks.length = r := ⟨_, rfl⟩
    have hrcl : rc < f.blocks.length := by rw [← hrc]; exact Nat.mod_lt _ (by omega)
    have HDT := hide (fun (W : World) (hW : Below wo.heap.size wo W) (x y : Int) (h : domQ AL x y) => ((ddom_any _ _ _ f AL hAL x y W w.heap.size (by have := hW.size; have := HBEL.out.size; omega) (kI W hW) hok hls1).mono (R' := fun e w' => e = .returned (.bool true) ∧ Below W.heap.size W w') (fun e w' ⟨d, h1, h2, h3⟩ => ⟨by rw [h1, h2.2 h], h3⟩)))
    have HDF := hide (fun (W : World) (hW : Below wo.heap.size wo W) (x y : Int) (h : ¬ domQ AL x y) => ((ddom_any _ _ _ f AL hAL x y W w.heap.size (by have := hW.size; have := HBEL.out.size; omega) (kI W hW) hok hls1).mono (R' := fun e w' => e = .returned (.bool false) ∧ Below W.heap.size W w') (fun e w' ⟨d, h1, h2, h3⟩ => ⟨by rw [h1, Bool.eq_false_iff.2 (fun h9 => h (h2.1 h9))], h3⟩)))
    have HAX := hide (fun (W : World) (hW : Below wo.heap.size wo W) => dabove_any _ _ _ f AL hAL W w.heap.size (by have := hW.size; have := HBEL.out.size; omega) (kI W hW) hok hls1)
    have HCS := hide (tree_cases hAL hls1 ra rb rc)
    obtain ⟨tn, htr, htn⟩ := hAL.trn hok hls1
    have HUS := hide (fun (c x s : Nat) hu hx => up_step (c := c) (x := x) (s := s) hAL hls1 htr hu hx)
    have HUE := hide (fun (c x s : Nat) hu hx hc => up_end (tn := tn) (c := c) (x := x) (s := s) hAL hu hx hc)
    have HTN := hide htn
    have HCC := hide (fun c : Nat => (show domQ AL c c ↔ inA AL c by rw [domQ_nat hAL hls1]; exact ⟨fun h => h.1, fun h => ⟨h, h, .refl⟩⟩))
    have HUC0 := hide (show UpC AL tn rc rc 0 by
      by_cases hc : inA AL rc
      · exact .inl ⟨hc, hc, .refl, by omega⟩
      · exact .inr ⟨hc, rfl, rfl⟩)
    generalize f.kinds.length = lk, f.base.length = lb, f.blocks.length = ls, f.params = fp, f.result = fr at *
    have ta1 : (an : Int).tmod (ls : Int) = (ra : Int) := by rw [← hra]; exact (Int.ofNat_tmod an ls).symm
    have ta2 : (an : Int) % (ls : Int) = (ra : Int) := by rw [← hra]; exact (Int.natCast_emod an ls).symm
    have Ta1 := hide ta1; have Ta2 := hide ta2
    have tb1 : (bn : Int).tmod (ls : Int) = (rb : Int) := by rw [← hrb]; exact (Int.ofNat_tmod bn ls).symm
    have tb2 : (bn : Int) % (ls : Int) = (rb : Int) := by rw [← hrb]; exact (Int.natCast_emod bn ls).symm
    have Tb1 := hide tb1; have Tb2 := hide tb2
    have tc1 : (cn : Int).tmod (ls : Int) = (rc : Int) := by rw [← hrc]; exact (Int.ofNat_tmod cn ls).symm
    have tc2 : (cn : Int) % (ls : Int) = (rc : Int) := by rw [← hrc]; exact (Int.natCast_emod cn ls).symm
    have Tc1 := hide tc1; have Tc2 := hide tc2
    have t5 : ((ls : Int) == 0) = false := by simp; omega
    have T5 := hide t5
    clear t5 ta1 ta2 hra tb1 tb2 hrb tc1 tc2 hrc
    have hki : (0 : Int) ≤ (k : Int) := by omega
    have hkl : (k : Int) < (lp : Int) := by omega
    clear hi hf kI hok hAL htr htn
    go_upto_region 9 with (fail)
    obtain ⟨w5, hw5⟩ : ∃ w5, w5 = wo.alloc (.cells #[.slice Ak lk ck, .slice Ab lb cb, .int .i64 fp, .int .i64 fr, .slice As ls cs] 30) := ⟨_, rfl⟩
    obtain ⟨h5, hh5⟩ : ∃ h5, wo.heap.size = h5 := ⟨_, rfl⟩
    have HX5 := hide (show Box w5 h5 #[.slice Ak lk ck, .slice Ab lb cb, .int .i64 fp, .int .i64 fr, .slice As ls cs] 30 by rw [hw5, ← hh5]; exact Box.new wo _ _)
    have HY5 := hide (show Box w5 h2 #[.int .u8 (an : Int), .int .u8 (bn : Int), .int .u8 (cn : Int)] 38 by rw [hw5]; exact HYO.out.alloc _)
    have HB5 := hide (show Below wo.heap.size wo w5 by rw [hw5]; exact alloc1 wo _)
    rw [← hw5, hh5]
    clear hw5 hh5 e0 e1 e2 e3 e4 hbs xp lxp
    have l5 := HX5.out.lt
    have hz5 := HB5.out.size
    have ly5 := HY5.out.lt
    have c4 := (HX5.out.cell 4 (v := .slice As ls cs) rfl).1
    go_upto_region 10 with (fail)
    have d0 := (HY5.out.cell 0 (v := .int .u8 (an : Int)) rfl).1
    have ta1 := Ta1.out; have ta2 := Ta2.out
    have ea : IntKind.i64.wrap (an : Int) = (an : Int) := IntWalk.i64_in _ ⟨by omega, by omega⟩
    have d1 := (HY5.out.cell 1 (v := .int .u8 (bn : Int)) rfl).1
    have tb1 := Tb1.out; have tb2 := Tb2.out
    have eb : IntKind.i64.wrap (bn : Int) = (bn : Int) := IntWalk.i64_in _ ⟨by omega, by omega⟩
    have d2 := (HY5.out.cell 2 (v := .int .u8 (cn : Int)) rfl).1
    have tc1 := Tc1.out; have tc2 := Tc2.out
    have ec : IntKind.i64.wrap (cn : Int) = (cn : Int) := IntWalk.i64_in _ ⟨by omega, by omega⟩
    have t5 := T5.out
    go_quiet (fail)
    obtain ⟨w6, hw6⟩ : ∃ w6, w6 = w5.drewN nq := ⟨_, rfl⟩
    have HX6 := hide (show Box w6 h5 #[.slice Ak lk ck, .slice Ab lb cb, .int .i64 fp, .int .i64 fr, .slice As ls cs] 30 by rw [hw6]; exact HX5.out)
    have HB6 := hide (show Below wo.heap.size wo w6 by rw [hw6]; exact below_drewN HB5.out nq)
    have hs6 : w6.heap.size = w5.heap.size := by rw [hw6]; rfl
    rw [← hw6]
    clear hw6 c4 t5 d0 ta1 ta2 ea d1 tb1 tb2 eb d2 tc1 tc2 ec
    have l6 : h5 < w6.heap.size := by omega
    have HK5 := hide (fun (W : World) (hW : Below w6.heap.size w6 W) => And.intro ((HX6.out.below hW).cell 0 (v := .slice Ak lk ck) rfl).1 (And.intro ((HX6.out.below hW).cell 1 (v := .slice Ab lb cb) rfl).1 (And.intro ((HX6.out.below hW).cell 2 (v := .int .i64 fp) rfl).1 (And.intro ((HX6.out.below hW).cell 3 (v := .int .i64 fr) rfl).1 ((HX6.out.below hW).cell 4 (v := .slice As ls cs) rfl).1))))
    have HUP := hide (fun (W : World) (hW : Below w6.heap.size w6 W) => HB6.out.trans (hW.mono HB6.out.size))
    have HC6 := hide (Below.refl w6.heap.size w6)
    obtain ⟨y0, y1, y2, y3, y4⟩ := HK5.out w6 HC6.out
    have HC := HC6.out
    have hwo6 := HB6.out.size
    rcases HCS.out with ⟨p1, p3⟩ | ⟨p1, p3, p2⟩ | ⟨p1, p3, p2, p4⟩ | ⟨p1, p2, p3⟩ | ⟨p1, p2, p3⟩ | ⟨p1, p2, p3⟩
    all_goals
      go_wp2_with (first
        | (go_at_call 24; refine (HAX.out _ (HUP.out _ HC)).mono ?_; rintro e wz ⟨ga, rfl, haz, -, hbz⟩; have HCZ := hide (HC.trans (hbz.mono HC.size)); have HAZ := hide haz; clear hbz haz y0 y1 y2 y3 y4)
        | (go_at_call 18; (first | refine (HDT.out _ (HUP.out _ HC) _ _ (by assumption)).mono ?_ | refine (HDF.out _ (HUP.out _ HC) _ _ (by assumption)).mono ?_); rintro e wn ⟨rfl, hbn⟩; replace HC := HC.trans (hbn.mono HC.size); clear y0 y1 y2 y3 y4 hbn; obtain ⟨y0, y1, y2, y3, y4⟩ := HK5.out wn HC; have lxn : h5 < wn.heap.size := (by have := HC.size; omega)))
      have hsz := HCZ.out.size
      clear HC HC6
      go_loopw [12, 13] (fun xv sv wr => ∃ x s : Nat, xv = .int .i64 (x : Int) ∧ sv = .int .i64 (s : Int) ∧ x < ls ∧ s ≤ 40 ∧ Hid (UpC AL tn rc x s) ∧ Below wz.heap.size wz wr) (fun xv _ _ => tn (intOf xv).toNat)
      case atStart => exact ⟨rc, 0, rfl, rfl, hrcl, by omega, HUC0, Below.refl _ _⟩
      case round =>
        obtain ⟨x, s, rfl, rfl, hxl, hs40, hin, hbx⟩ := hrel
        obtain ⟨wx, rfl⟩ : ∃ wx, wx = wr := ⟨_, rfl⟩
        have HUC := hide hin.out
        have HBX := hide hbx
        have hzx := hbx.size
        have HCx := hide (HCZ.out.trans (hbx.mono HCZ.out.size))
        clear hin hbx
        have HAx := hide (HAZ.out.below HBX.out)
        have a1 := (HAx.out.cell (b := x) (by have := HALL.out; omega)).1
        have lga : ga < wx.heap.size := Box.lt HAx.out
        have lxx : h5 < wx.heap.size := by have := HCx.out.size; omega
        obtain ⟨y0, y1, y2, y3, y4⟩ := HK5.out wx HCx.out
        have HC := HCx.out
        by_cases hx : AL.getD x (-1) = -1
        · rw [hx] at a1
          by_cases hcI : inA AL rc
          · have hx0 := HUE.out rc x s HUC.out hx hcI
            have p9 := (HCC.out rc).2 hcI
            subst hx0
            clear hx hcI
            go_wp2_with (go_at_call 18; (first | refine (HDT.out _ (HUP.out _ HC) _ _ (by assumption)).mono ?_ | refine (HDF.out _ (HUP.out _ HC) _ _ (by assumption)).mono ?_); rintro e wn ⟨rfl, hbn⟩; replace HC := HC.trans (hbn.mono HC.size); clear y0 y1 y2 y3 y4 hbn; obtain ⟨y0, y1, y2, y3, y4⟩ := HK5.out wn HC; have lxn : h5 < wn.heap.size := (by have := HC.size; omega))
            go_roundw
            case rel => exact ⟨k + 1, by omega, by go_num, HBW.out.trans ((HUP.out _ HC).mono hszo)⟩
            case measure => simp [intOf]; omega
          · have p9 : ¬ domQ AL rc rc := fun h => hcI ((HCC.out rc).1 h)
            clear hx hcI
            go_wp2_with (go_at_call 18; (first | refine (HDT.out _ (HUP.out _ HC) _ _ (by assumption)).mono ?_ | refine (HDF.out _ (HUP.out _ HC) _ _ (by assumption)).mono ?_); rintro e wn ⟨rfl, hbn⟩; replace HC := HC.trans (hbn.mono HC.size); clear y0 y1 y2 y3 y4 hbn; obtain ⟨y0, y1, y2, y3, y4⟩ := HK5.out wn HC; have lxn : h5 < wn.heap.size := (by have := HC.size; omega))
            go_roundw
            case rel => exact ⟨k + 1, by omega, by go_num, HBW.out.trans ((HUP.out _ HC).mono hszo)⟩
            case measure => simp [intOf]; omega
        · obtain ⟨u, hu, hU, hlu, p9, hul, hsc, hcI⟩ := HUS.out rc x s HUC.out hx
          rw [hu] at a1
          have hcn := HTN.out rc hcI
          have HU := hide hU
          have HLU := hide hlu
          have hul2 : u < ls := by have := HALL.out; omega
          have q1 : (0 : Int) ≤ (u : Int) := by omega
          have q2 : ¬ ls ≤ u := by omega
          have q3 : ¬ (ls : Int) ≤ (u : Int) := by omega
          have q4 : ¬ ls < s + 1 := by omega
          have q5 : ¬ (ls : Int) < (s : Int) + 1 := by omega
          have q6 : IntKind.i64.wrap ((s : Int) + 1) = ((s + 1 : Nat) : Int) := IntWalk.i64_in _ ⟨by omega, by omega⟩
          have HS1 := hide (show s + 1 ≤ 40 by omega)
          clear hu hU hlu hul hcI hcn hx
          go_wp2_with (go_at_call 18; (first | refine (HDT.out _ (HUP.out _ HC) _ _ (by assumption)).mono ?_ | refine (HDF.out _ (HUP.out _ HC) _ _ (by assumption)).mono ?_); rintro e wn ⟨rfl, hbn⟩; replace HC := HC.trans (hbn.mono HC.size); clear y0 y1 y2 y3 y4; have hbq := hbn; clear hbn; obtain ⟨y0, y1, y2, y3, y4⟩ := HK5.out wn HC; have lxn : h5 < wn.heap.size := (by have := HC.size; omega))
          go_roundw
          case rel => exact ⟨u, s + 1, rfl, by go_num, hul2, HS1.out, HU, HBX.out.trans (hbq.mono hzx)⟩
          case measure => have := HLU.out; simp [intOf]; omega
end Go.Proofs.Ytkpikgakphdjjaa
