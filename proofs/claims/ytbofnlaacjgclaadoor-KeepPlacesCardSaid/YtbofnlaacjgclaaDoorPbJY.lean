/- Layer 11, the document's answer: what is live at a place: there, at, Ahead, Behind, In, Out. Condition: the function is one of a program that may be. -/
import Derived.Test.YtbofnlaacjgclaaDoorPbJX
import Derived.Test.YtbofnlaacjgclaaDoorPbEF
set_option linter.unusedSimpArgs false
set_option linter.unusedVariables false
namespace Go.Proofs.YtbofnlaacjgclaaDoor
open Go.RowKit

theorem LvA.set {p : List FunV} {f : FunV} (h : LOk p f) {b : Nat} {l : List InsV} (hl : ∀ x ∈ l, mayB4 p f x = true) {t : List Nat} (ht : EndS f b t) {zs : List Int} (hz : ∀ u : Nat, (u : Int) ∈ zs ↔ u < f.kinds.length ∧ LvA f u b l) : ofL zs = thrS l t := by
  have hto := ht.ok h.flow
  have hjn := ht.jn h.flow
  have hok := thrS_ok (l := l) hto
  refine has_ext (ofL_tidy zs) ?_ (ofL_ok zs).2 hok.2 fun v => ?_
  · cases l with
    | nil => exact ht.tidy
    | cons x l => exact neat_tidy _
  · rw [hasB_ofL, decide_eq_true_eq, hz]
    constructor
    · rintro ⟨⟨-, h1⟩, h2⟩
      exact (LvA.thr h2 hjn).2 h1
    · intro h1
      have h2 := hasB_lt hok.1 h1
      have h3 := (LvA.thr h2 hjn).1 h1
      exact ⟨⟨lvA_var h.may h.kinds hl h3, h3⟩, h2⟩
/-- The numbers below k that are live. -/
def AtK (f : FunV) (b : Nat) (l : List InsV) (k : Nat) (zs : List Int) : Prop := ∀ u : Nat, (u : Int) ∈ zs ↔ u < k ∧ LvA f u b l
theorem AtK.yes {f : FunV} {b k : Nat} {l : List InsV} {zs : List Int} (h : AtK f b l k zs) (hk : LvA f k b l) : AtK f b l (k + 1) (zs ++ [(k : Int)]) := fun u => by
  rw [List.mem_append, h u]
  simp only [List.mem_singleton]
  constructor
  · rintro (⟨h1, h2⟩ | h1)
    · exact ⟨by omega, h2⟩
    · obtain rfl : u = k := by omega
      exact ⟨by omega, hk⟩
  · rintro ⟨h1, h2⟩
    by_cases e : u = k
    · exact .inr (by omega)
    · exact .inl ⟨by omega, h2⟩
theorem AtK.no {f : FunV} {b k : Nat} {l : List InsV} {zs : List Int} (h : AtK f b l k zs) (hk : ¬ LvA f k b l) : AtK f b l (k + 1) zs := fun u => by
  rw [h u]
  constructor
  · rintro ⟨h1, h2⟩
    exact ⟨by omega, h2⟩
  · rintro ⟨h1, h2⟩
    refine ⟨?_, h2⟩
    apply Classical.byContradiction
    intro hn
    obtain rfl : u = k := by omega
    exact hk h2
set_option maxHeartbeats 4000000 in
set_option maxRecDepth 100000 in
theorem rat11_any (p : List FunV) (vk vb vs : Value) (f : FunV) (b i : Nat) (l : List InsV) (t : List Nat) (w : World) (B : Nat) (hB : B ≤ w.heap.size) (hi : FunI w (· < B) vk vb vs f) (h : LOk p f) (hl : f.blocks[b]? = some l) (hil : i ≤ l.length) (ht : EndS f b t) :
    Calls Tryd.prog 37 #[.agg #[vk, vb, .int .i64 f.params, .int .i64 f.result, vs], .int .i64 (b : Int), .int .i64 (i : Int)] w fun e w' => ∃ r, e = .returned r ∧ SetV w' r (thrS (l.drop i) t) ∧ Below w.heap.size w w' := by
  have hk48 := h.kinds
  have HFR := hide (fun (k : Nat) (hk : k < f.kinds.length) (wo : World) (hwo : Below w.heap.size w wo) (W : World) (hW : Below wo.heap.size wo W) (bm : Nat) (hbm : wo.heap.size ≤ bm) (hM : MB W bm (List.replicate f.blocks.length false)) => (rfrom_any vk vb vs f k (by omega) h.flow h.few bm B (by have := hwo.size; omega) _ b i _ l W rfl (by simp) hl hil (by have := hwo.size; have := hW.size; omega) (hi.keep (up (hwo.trans (hW.mono hwo.size)) hB) (fun _ h => h)) hM).mono (R' := fun e w' => ∃ r, e = .returned (.bool r) ∧ (r = true ↔ LvA f k b (l.drop i)) ∧ Below wo.heap.size wo w') (fun e w' ⟨r, m', e1, e2, e3, e4⟩ => ⟨r, e1, e3.all (by omega) h.flow, e4.below hW hbm hW.size⟩))
  have HSET := hide (fun (zs : List Int) (hz : AtK f b (l.drop i) f.kinds.length zs) => LvA.set h (l := l.drop i) (fun x hx => h.may l (List.mem_of_getElem? hl) x (List.mem_of_mem_drop hx)) ht hz)
  have hls40 := h.flow.1
  have hmake : ∀ W : World, (Instr.makeSlice 73 (.int .i64 (f.blocks.length : Int)) (.int .i64 (f.blocks.length : Int))).run Tryd.prog W = .ok (.slice (some ⟨W.heap.size, 0, none⟩) f.blocks.length f.blocks.length) (W.alloc (.cells (madeCells (Value.bool false).cells (f.blocks.length * 1)) 4)) := fun W => mk_run 73 4 Tryd.underlying73 info_bool (by omega) f.blocks.length (by omega) W
  obtain ⟨mc, hmc⟩ : ∃ mc, madeCells (Value.bool false).cells (f.blocks.length * 1) = mc := ⟨_, rfl⟩
  rw [hmc] at hmake
  have HMC := hide (show mc = ((List.replicate f.blocks.length false).map Value.bool).toArray by rw [← hmc]; exact madeCells_bool _)
  have HWI := hide (fun (l : List Int) (W : World) (v : Value) (z : Int) (hz : i64R z) (h : SetV W v (ofL l)) => (show Calls Tryd.prog 65 #[v, .slice (some ⟨W.heap.size, 0, none⟩) 1 1] (W.alloc (.cells #[.int .i64 z] 3)) fun e w' => ∃ r, e = .returned r ∧ SetV w' r (ofL (l ++ [z])) ∧ Below W.heap.size W w' by
    have t := rwithV (h.below (alloc1 W (.cells #[.int .i64 z] 3))) (by have := (ofL_ok l).1; omega) (ofL_ok l).2 _ 1 1 [z] (one_lit12 W z) rfl (by omega) (by intro y hy; simp at hy; subst hy; exact hz)
    rw [ofL_app] at t
    exact t.mono fun e w' ⟨r, h1, h2, h3⟩ => ⟨r, h1, h2, (alloc1 W _).trans (h3.mono (by rw [World.size_alloc]; omega))⟩))
  obtain ⟨Ak, ck, rfl, hck, hmk⟩ := hi.1.open'
  obtain ⟨Ab, cb, rfl, hcb, hmb⟩ := hi.2.1.open'
  obtain ⟨As, cs, rfl, hcs, hms⟩ := hi.2.2.1.open'
  obtain ⟨lk, hlk⟩ : ∃ lk, f.kinds.length = lk := ⟨_, rfl⟩
  obtain ⟨ls, hls⟩ : ∃ ls, f.blocks.length = ls := ⟨_, rfl⟩
  rw [hlk] at HFR HSET hk48 hck ⊢
  rw [hls] at HFR hls40 hmake HMC hcs ⊢
  obtain ⟨ld, hld⟩ : ∃ ld, l.drop i = ld := ⟨_, rfl⟩
  rw [hld] at HFR HSET ⊢
  clear hi h hl hil ht hlk hls hld hmc
  generalize f.base.length = lb, f.params = fp, f.result = fr at *
  go_enter Tryd.func37, Tryd.ntmps37
  go_upto_region 1 with (fail)
  obtain ⟨w1, hw1⟩ : ∃ w1, w1 = w.alloc (.cells #[.slice Ak lk ck, .slice Ab lb cb, .int .i64 fp, .int .i64 fr, .slice As ls cs] 30) := ⟨_, rfl⟩
  obtain ⟨h5, hh5⟩ : ∃ h5, w.heap.size = h5 := ⟨_, rfl⟩
  have HX0 := hide (show Box w1 (h5) #[.slice Ak lk ck, .slice Ab lb cb, .int .i64 fp, .int .i64 fr, .slice As ls cs] 30 by rw [hw1, ← hh5]; exact Box.new w _ _)
  have HB1 := hide (show Below w.heap.size w w1 by rw [hw1]; exact alloc1 w _)
  have w1s := HB1.out.size
  have HK0 := hide (fun (W : World) (hW : Below w1.heap.size w1 W) => (And.intro ((HX0.out.below hW).cell 0 (v := .slice Ak lk ck) rfl).1 (And.intro ((HX0.out.below hW).cell 1 (v := .slice Ab lb cb) rfl).1 (And.intro ((HX0.out.below hW).cell 2 (v := .int .i64 fp) rfl).1 (And.intro ((HX0.out.below hW).cell 3 (v := .int .i64 fr) rfl).1 ((HX0.out.below hW).cell 4 (v := .slice As ls cs) rfl).1)))))
  have lHX0 := HX0.out.lt
  rw [← hw1, hh5]
  clear hw1 hh5
  go_wp2
  go_loopw [7, 8] (fun v j wr => ∃ (k : Nat) (zs : List Int), k ≤ lk ∧ j = .int .i64 (k : Int) ∧ Hid (SetV wr v (ofL zs)) ∧ Hid (AtK f b ld k zs) ∧ Below w1.heap.size w1 wr) (fun _ j _ => lk - (intOf j).toNat)
  case atStart => exact ⟨0, [], Nat.zero_le _, rfl, hide (SetV.nil0 _), hide (fun u => by simp), Below.refl _ _⟩
  case round =>
    obtain ⟨k, zs, hkl, rfl, HSV, HZS, hb⟩ := hrel
    obtain ⟨wo, rfl⟩ : ∃ wo, wo = wr := ⟨_, rfl⟩
    have HC := hide hb
    have HW := hide (HB1.out.trans (hb.mono HB1.out.size))
    have lwo := hb.size
    clear hb
    obtain ⟨c0, c1, c2, c3, c4⟩ := HK0.out wo HC.out
    have hlo : h5 < wo.heap.size := by omega
    obtain ⟨Av, cv, hv, -⟩ := HSV.out
    obtain ⟨nv, hnv2⟩ : ∃ n, (ofL zs).length = n := ⟨_, rfl⟩
    rw [hnv2] at hv
    subst hv
    clear hnv2
    by_cases hlt : k < lk
    case neg =>
      obtain rfl : lk = k := by omega
      have hnl : ¬ ((lk : Int) < (lk : Int)) := by omega
      have HNE := hide (rneatV HSV.out (by have := (ofL_ok zs).1; omega) (ofL_tidy _))
      have HSE := hide (HSET.out zs HZS.out)
      go_wp2_with (go_at_call 66; refine HNE.out.mono ?_; rintro e w9 ⟨r, rfl, hw9, hb9⟩; have HW9 := hide hw9; have HB9 := hide (HW.out.trans (hb9.mono HW.out.size)); clear hw9 hb9)
      go_ret
      exact ⟨r, rfl, by rw [← HSE.out]; exact HW9.out, HB9.out⟩
    have HLT := hide hlt
    have HFK := hide (HFR.out k hlt wo HW.out)
    have hk0 : (0 : Int) ≤ (k : Int) := by omega
    have hk1 : (k : Int) < (lk : Int) := by omega
    go_upto_region 5 with (fail)
    go_region_with (go_at_call 64; refine (HFK.out _ (below_drewN ((Below.refl _ _).alloc (Nat.le_refl _) _) 1) wo.heap.size (Nat.le_refl _) (by unfold MB; rw [← HMC.out]; exact Box.new wo _ _)).mono ?_; rintro e w2 ⟨r2, rfl, hr2, hb2⟩)
    all_goals
      have HB2 := hide hb2
      have HR2 := hide hr2
      clear hb2 hr2 c0 c1 c2 c3 c4 hmake
      have HC2 := hide (HC.out.trans (HB2.out.mono lwo))
      have HS2 := hide (HSV.out.below HB2.out)
      cases r2 with
      | false =>
        have HN2 := hide (HZS.out.no (fun h => by have := HR2.out.2 h; cases this))
        go_wp2
        go_roundw
        case rel => exact ⟨k + 1, zs, by have := HLT.out; omega, by go_num, HS2, HN2, HC2.out⟩
        case measure => have := HLT.out; simp [intOf]; omega
      | true =>
        have HN2 := hide (HZS.out.yes (HR2.out.1 rfl))
        go_wp2_with (go_at_call 65; refine (HWI.out zs w2 _ (k : Int) (by unfold i64R; omega) HS2.out).mono ?_; rintro e w3 ⟨r3, rfl, hv3, hb3⟩; have HS3 := hide hv3; have HC3 := hide (HC2.out.trans (hb3.mono HC2.out.size)); clear hv3 hb3)
        go_roundw
        case rel => exact ⟨k + 1, _, by have := HLT.out; omega, by go_num, HS3, HN2, HC3.out⟩
        case measure => have := HLT.out; simp [intOf]; omega
set_option maxHeartbeats 1000000 in
set_option maxRecDepth 100000 in
theorem rthere11_any (vk vb vs : Value) (f : FunV) (b i : Int) (w : World) (B : Nat) (hB : B ≤ w.heap.size) (hi : FunI w (· < B) vk vb vs f) :
    Calls Tryd.prog 36 #[.agg #[vk, vb, .int .i64 f.params, .int .i64 f.result, vs], .int .i64 b, .int .i64 i] w fun e w' => e = .returned (.bool (hereB f b i)) ∧ Below w.heap.size w w' := by
  have HBL := hide (fun (W : World) (hW : Below w.heap.size w W) => hi.2.2.1.keep (up hW hB) (fun _ h => h))
  obtain ⟨Ak, ck, rfl, hck, hmk⟩ := hi.1.open'
  obtain ⟨Ab, cb, rfl, hcb, hmb⟩ := hi.2.1.open'
  obtain ⟨As, cs, rfl, hcs, hms⟩ := hi.2.2.1.open'
  obtain ⟨ls, hls⟩ : ∃ ls, f.blocks.length = ls := ⟨_, rfl⟩
  by_cases h0 : 0 ≤ b
  case neg =>
    have HE := hide (show hereB f b i = false by unfold hereB; rw [sizeN_out (.inl (by omega))]; first | (simp; done) | (simp; omega))
    have h1 : ¬ b ≥ 0 := h0
    rw [hls] at hcs ⊢
    clear hi HBL hls h0
    generalize f.kinds.length = lk, f.base.length = lb, f.params = fp, f.result = fr at *
    go_enter Tryd.func36, Tryd.ntmps36
    go_wp2
    go_ret
    exact ⟨ret_bool HE.out.symm, alloc1 w _⟩
  have h0' : b ≥ 0 := h0
  by_cases hb : b < (ls : Int)
  case neg =>
    have HE := hide (show hereB f b i = false by unfold hereB; rw [sizeN_out (.inr (by omega))]; first | (simp; done) | (simp; omega))
    rw [hls] at hcs ⊢
    clear hi HBL hls h0
    generalize f.kinds.length = lk, f.base.length = lb, f.params = fp, f.result = fr at *
    go_enter Tryd.func36, Tryd.ntmps36
    go_wp2
    go_ret
    exact ⟨ret_bool HE.out.symm, alloc1 w _⟩
  by_cases hi0 : 0 ≤ i
  case neg =>
    have HE := hide (show hereB f b i = false by unfold hereB; rw [decide_eq_false hi0]; rfl)
    have h1 : ¬ i ≥ 0 := hi0
    rw [hls] at hcs ⊢
    clear hi HBL hls h0 hi0
    generalize f.kinds.length = lk, f.base.length = lb, f.params = fp, f.result = fr at *
    go_enter Tryd.func36, Tryd.ntmps36
    go_wp2
    go_ret
    exact ⟨ret_bool HE.out.symm, alloc1 w _⟩
  have hi0' : i ≥ 0 := hi0
  obtain ⟨bn, rfl⟩ : ∃ n : Nat, b = (n : Int) := ⟨b.toNat, by omega⟩
  obtain ⟨l, hl⟩ : ∃ l, f.blocks[bn]? = some l := ⟨_, List.getElem?_eq_getElem (by omega)⟩
  have hbn : bn < ls := by omega
  have HE := hide (show hereB f (bn : Int) i = decide (i < (l.length : Int)) by unfold hereB; rw [sizeN_nat hl, decide_eq_true hi0]; rfl)
  rw [HE.out]
  obtain ⟨bb, ob, Al, cl, hAs, hbb, d0, -⟩ := (HBL.out (w.alloc (.cells #[.slice Ak f.kinds.length ck, .slice Ab f.base.length cb, .int .i64 f.params, .int .i64 f.result, .slice As f.blocks.length cs] 30)) (alloc1 w _)).get hl
  subst hAs
  obtain ⟨ll, hll⟩ : ∃ ll, l.length = ll := ⟨_, rfl⟩
  rw [hll] at d0 ⊢
  rw [hls] at d0 hcs ⊢
  clear hi HBL hls h0 hi0 hll hl HE
  generalize f.kinds.length = lk, f.base.length = lb, f.params = fp, f.result = fr at *
  go_enter Tryd.func36, Tryd.ntmps36
  go_wp2
  go_ret
  exact ⟨rfl, alloc1 w _⟩
set_option maxHeartbeats 1000000 in
set_option maxRecDepth 100000 in
theorem rahead11_any (p : List FunV) (vk vb vs : Value) (f : FunV) (b i : Int) (w : World) (B : Nat) (hB : B ≤ w.heap.size) (hi : FunI w (· < B) vk vb vs f) (h : LOk p f) (hσ : ∃ σ : Nat → List Nat, ∀ c, c < f.blocks.length → LvS f c (σ c)) :
    Calls Tryd.prog 8 #[.agg #[vk, vb, .int .i64 f.params, .int .i64 f.result, vs], .int .i64 b, .int .i64 i] w fun e w' => ∃ r s, e = .returned r ∧ LvQ f 0 b i s ∧ SetV w' r s ∧ Below w.heap.size w w' := by
  have HTR := hide (fun (W : World) (hW : Below w.heap.size w W) => rthere11_any vk vb vs f b i W B (by have := hW.size; omega) (hi.keep (up hW hB) (fun _ h => h)))
  by_cases hh : hereB f b i = true
  case neg =>
    have hq : LvQ f 0 b i [] := by unfold LvQ; rw [if_neg hh]
    have hf : hereB f b i = false := by simpa using hh
    rw [hf] at HTR
    have HQ := hide hq
    obtain ⟨Ak, ck, rfl, hck, hmk⟩ := hi.1.open'
    obtain ⟨Ab, cb, rfl, hcb, hmb⟩ := hi.2.1.open'
    obtain ⟨As, cs, rfl, hcs, hms⟩ := hi.2.2.1.open'
    clear hi hh hq hf h hσ
    generalize f.kinds.length = lk, f.base.length = lb, f.blocks.length = ls, f.params = fp, f.result = fr at *
    go_enter Tryd.func8, Tryd.ntmps8
    go_upto_region 1 with (fail)
    obtain ⟨w1, hw1⟩ : ∃ w1, w1 = w.alloc (.cells #[.slice Ak lk ck, .slice Ab lb cb, .int .i64 fp, .int .i64 fr, .slice As ls cs] 30) := ⟨_, rfl⟩
    obtain ⟨h5, hh5⟩ : ∃ h5, w.heap.size = h5 := ⟨_, rfl⟩
    have HX0 := hide (show Box w1 (h5) #[.slice Ak lk ck, .slice Ab lb cb, .int .i64 fp, .int .i64 fr, .slice As ls cs] 30 by rw [hw1, ← hh5]; exact Box.new w _ _)
    have HB1 := hide (show Below w.heap.size w w1 by rw [hw1]; exact alloc1 w _)
    have w1s := HB1.out.size
    have HK0 := hide (fun (W : World) (hW : Below w1.heap.size w1 W) => (And.intro ((HX0.out.below hW).cell 0 (v := .slice Ak lk ck) rfl).1 (And.intro ((HX0.out.below hW).cell 1 (v := .slice Ab lb cb) rfl).1 (And.intro ((HX0.out.below hW).cell 2 (v := .int .i64 fp) rfl).1 (And.intro ((HX0.out.below hW).cell 3 (v := .int .i64 fr) rfl).1 ((HX0.out.below hW).cell 4 (v := .slice As ls cs) rfl).1)))))
    have lHX0 := HX0.out.lt
    rw [← hw1, hh5]
    clear hw1 hh5
    obtain ⟨c0, c1, c2, c3, c4⟩ := HK0.out w1 (Below.refl _ _)
    go_wp2_with (go_at_call 36; (with_reducible refine (HTR.out w1 HB1.out).mono ?_); rintro e w2 ⟨rfl, hb2⟩; have HB2 := hide (HB1.out.trans (hb2.mono HB1.out.size)); clear hb2)
    go_ret
    exact ⟨_, [], rfl, HQ.out, SetV.nil0 _, HB2.out⟩
  rw [hh] at HTR
  obtain ⟨bn, k, l, rfl, rfl, hl, hil⟩ := hereB_in hh
  have hcl : codeOf f bn = l := by unfold codeOf; rw [hl]; rfl
  obtain ⟨t, ht⟩ : ∃ t, EndS f bn t := by
    obtain ⟨σ, hs⟩ := hσ
    exact ⟨_, σ, hs, rfl⟩
  have HQ := hide (show LvQ f 0 (bn : Int) (k : Int) (thrS (l.drop (k + 0)) t) by unfold LvQ; rw [if_pos hh]; exact ⟨t, ht, by rw [Int.toNat_natCast, Int.toNat_natCast, hcl]⟩)
  have HAT := hide (fun (W : World) (hW : Below w.heap.size w W) (j : Int) (hj : j = ((k + 0 : Nat) : Int)) => (show Calls Tryd.prog 37 #[.agg #[vk, vb, .int .i64 f.params, .int .i64 f.result, vs], .int .i64 (bn : Int), .int .i64 j] W fun e w' => ∃ r, e = .returned r ∧ SetV w' r (thrS (l.drop (k + 0)) t) ∧ Below W.heap.size W w' by
    subst hj
    exact rat11_any p vk vb vs f bn (k + 0) l t W B (by have := hW.size; omega) (hi.keep (up hW hB) (fun _ h => h)) h hl (by omega) ht))
  obtain ⟨s, hs⟩ : ∃ s, thrS (l.drop (k + 0)) t = s := ⟨_, rfl⟩
  rw [hs] at HQ HAT
  have hl40 := h.flow.2.1 l (List.mem_of_getElem? hl)
  have hk40 : k < 40 := by omega
  obtain ⟨Ak, ck, rfl, hck, hmk⟩ := hi.1.open'
  obtain ⟨Ab, cb, rfl, hcb, hmb⟩ := hi.2.1.open'
  obtain ⟨As, cs, rfl, hcs, hms⟩ := hi.2.2.1.open'
  clear hi hh hcl hl hil h hσ ht hs hl40
  generalize f.kinds.length = lk, f.base.length = lb, f.blocks.length = ls, f.params = fp, f.result = fr at *
  go_enter Tryd.func8, Tryd.ntmps8
  go_upto_region 1 with (fail)
  obtain ⟨w1, hw1⟩ : ∃ w1, w1 = w.alloc (.cells #[.slice Ak lk ck, .slice Ab lb cb, .int .i64 fp, .int .i64 fr, .slice As ls cs] 30) := ⟨_, rfl⟩
  obtain ⟨h5, hh5⟩ : ∃ h5, w.heap.size = h5 := ⟨_, rfl⟩
  have HX0 := hide (show Box w1 (h5) #[.slice Ak lk ck, .slice Ab lb cb, .int .i64 fp, .int .i64 fr, .slice As ls cs] 30 by rw [hw1, ← hh5]; exact Box.new w _ _)
  have HB1 := hide (show Below w.heap.size w w1 by rw [hw1]; exact alloc1 w _)
  have w1s := HB1.out.size
  have HK0 := hide (fun (W : World) (hW : Below w1.heap.size w1 W) => (And.intro ((HX0.out.below hW).cell 0 (v := .slice Ak lk ck) rfl).1 (And.intro ((HX0.out.below hW).cell 1 (v := .slice Ab lb cb) rfl).1 (And.intro ((HX0.out.below hW).cell 2 (v := .int .i64 fp) rfl).1 (And.intro ((HX0.out.below hW).cell 3 (v := .int .i64 fr) rfl).1 ((HX0.out.below hW).cell 4 (v := .slice As ls cs) rfl).1)))))
  have lHX0 := HX0.out.lt
  rw [← hw1, hh5]
  clear hw1 hh5
  obtain ⟨c0, c1, c2, c3, c4⟩ := HK0.out w1 (Below.refl _ _)
  go_wp2_with (first
    | (go_at_call 37; (refine (HAT.out w2 HB2.out _ (by first | rfl | (simp; done) | (unfold wrap64; omega) | go_num)).mono ?_); rintro e w4 ⟨r4, rfl, hv4, hb4⟩; have HV4 := hide hv4; have HB4 := hide (HB2.out.trans (hb4.mono HB2.out.size)); clear hv4 hb4)
    | (go_at_call 36; (with_reducible refine (HTR.out w1 HB1.out).mono ?_); rintro e w2 ⟨rfl, hb2⟩; have l2 := hb2.size; obtain ⟨d0, d1, d2, d3, d4⟩ := HK0.out w2 hb2; have HB2 := hide (HB1.out.trans (hb2.mono HB1.out.size)); clear hb2 c0 c1 c2 c3 c4))
  go_ret
  exact ⟨r4, s, rfl, HQ.out, HV4.out, HB4.out⟩
set_option maxHeartbeats 1000000 in
set_option maxRecDepth 100000 in
theorem rbehind11_any (p : List FunV) (vk vb vs : Value) (f : FunV) (b i : Int) (w : World) (B : Nat) (hB : B ≤ w.heap.size) (hi : FunI w (· < B) vk vb vs f) (h : LOk p f) (hσ : ∃ σ : Nat → List Nat, ∀ c, c < f.blocks.length → LvS f c (σ c)) :
    Calls Tryd.prog 12 #[.agg #[vk, vb, .int .i64 f.params, .int .i64 f.result, vs], .int .i64 b, .int .i64 i] w fun e w' => ∃ r s, e = .returned r ∧ LvQ f 1 b i s ∧ SetV w' r s ∧ Below w.heap.size w w' := by
  have HTR := hide (fun (W : World) (hW : Below w.heap.size w W) => rthere11_any vk vb vs f b i W B (by have := hW.size; omega) (hi.keep (up hW hB) (fun _ h => h)))
  by_cases hh : hereB f b i = true
  case neg =>
    have hq : LvQ f 1 b i [] := by unfold LvQ; rw [if_neg hh]
    have hf : hereB f b i = false := by simpa using hh
    rw [hf] at HTR
    have HQ := hide hq
    obtain ⟨Ak, ck, rfl, hck, hmk⟩ := hi.1.open'
    obtain ⟨Ab, cb, rfl, hcb, hmb⟩ := hi.2.1.open'
    obtain ⟨As, cs, rfl, hcs, hms⟩ := hi.2.2.1.open'
    clear hi hh hq hf h hσ
    generalize f.kinds.length = lk, f.base.length = lb, f.blocks.length = ls, f.params = fp, f.result = fr at *
    go_enter Tryd.func12, Tryd.ntmps12
    go_upto_region 1 with (fail)
    obtain ⟨w1, hw1⟩ : ∃ w1, w1 = w.alloc (.cells #[.slice Ak lk ck, .slice Ab lb cb, .int .i64 fp, .int .i64 fr, .slice As ls cs] 30) := ⟨_, rfl⟩
    obtain ⟨h5, hh5⟩ : ∃ h5, w.heap.size = h5 := ⟨_, rfl⟩
    have HX0 := hide (show Box w1 (h5) #[.slice Ak lk ck, .slice Ab lb cb, .int .i64 fp, .int .i64 fr, .slice As ls cs] 30 by rw [hw1, ← hh5]; exact Box.new w _ _)
    have HB1 := hide (show Below w.heap.size w w1 by rw [hw1]; exact alloc1 w _)
    have w1s := HB1.out.size
    have HK0 := hide (fun (W : World) (hW : Below w1.heap.size w1 W) => (And.intro ((HX0.out.below hW).cell 0 (v := .slice Ak lk ck) rfl).1 (And.intro ((HX0.out.below hW).cell 1 (v := .slice Ab lb cb) rfl).1 (And.intro ((HX0.out.below hW).cell 2 (v := .int .i64 fp) rfl).1 (And.intro ((HX0.out.below hW).cell 3 (v := .int .i64 fr) rfl).1 ((HX0.out.below hW).cell 4 (v := .slice As ls cs) rfl).1)))))
    have lHX0 := HX0.out.lt
    rw [← hw1, hh5]
    clear hw1 hh5
    obtain ⟨c0, c1, c2, c3, c4⟩ := HK0.out w1 (Below.refl _ _)
    go_wp2_with (go_at_call 36; (with_reducible refine (HTR.out w1 HB1.out).mono ?_); rintro e w2 ⟨rfl, hb2⟩; have HB2 := hide (HB1.out.trans (hb2.mono HB1.out.size)); clear hb2)
    go_ret
    exact ⟨_, [], rfl, HQ.out, SetV.nil0 _, HB2.out⟩
  rw [hh] at HTR
  obtain ⟨bn, k, l, rfl, rfl, hl, hil⟩ := hereB_in hh
  have hcl : codeOf f bn = l := by unfold codeOf; rw [hl]; rfl
  obtain ⟨t, ht⟩ : ∃ t, EndS f bn t := by
    obtain ⟨σ, hs⟩ := hσ
    exact ⟨_, σ, hs, rfl⟩
  have HQ := hide (show LvQ f 1 (bn : Int) (k : Int) (thrS (l.drop (k + 1)) t) by unfold LvQ; rw [if_pos hh]; exact ⟨t, ht, by rw [Int.toNat_natCast, Int.toNat_natCast, hcl]⟩)
  have HAT := hide (fun (W : World) (hW : Below w.heap.size w W) (j : Int) (hj : j = ((k + 1 : Nat) : Int)) => (show Calls Tryd.prog 37 #[.agg #[vk, vb, .int .i64 f.params, .int .i64 f.result, vs], .int .i64 (bn : Int), .int .i64 j] W fun e w' => ∃ r, e = .returned r ∧ SetV w' r (thrS (l.drop (k + 1)) t) ∧ Below W.heap.size W w' by
    subst hj
    exact rat11_any p vk vb vs f bn (k + 1) l t W B (by have := hW.size; omega) (hi.keep (up hW hB) (fun _ h => h)) h hl (by omega) ht))
  obtain ⟨s, hs⟩ : ∃ s, thrS (l.drop (k + 1)) t = s := ⟨_, rfl⟩
  rw [hs] at HQ HAT
  have hl40 := h.flow.2.1 l (List.mem_of_getElem? hl)
  have hk40 : k < 40 := by omega
  obtain ⟨Ak, ck, rfl, hck, hmk⟩ := hi.1.open'
  obtain ⟨Ab, cb, rfl, hcb, hmb⟩ := hi.2.1.open'
  obtain ⟨As, cs, rfl, hcs, hms⟩ := hi.2.2.1.open'
  clear hi hh hcl hl hil h hσ ht hs hl40
  generalize f.kinds.length = lk, f.base.length = lb, f.blocks.length = ls, f.params = fp, f.result = fr at *
  go_enter Tryd.func12, Tryd.ntmps12
  go_upto_region 1 with (fail)
  obtain ⟨w1, hw1⟩ : ∃ w1, w1 = w.alloc (.cells #[.slice Ak lk ck, .slice Ab lb cb, .int .i64 fp, .int .i64 fr, .slice As ls cs] 30) := ⟨_, rfl⟩
  obtain ⟨h5, hh5⟩ : ∃ h5, w.heap.size = h5 := ⟨_, rfl⟩
  have HX0 := hide (show Box w1 (h5) #[.slice Ak lk ck, .slice Ab lb cb, .int .i64 fp, .int .i64 fr, .slice As ls cs] 30 by rw [hw1, ← hh5]; exact Box.new w _ _)
  have HB1 := hide (show Below w.heap.size w w1 by rw [hw1]; exact alloc1 w _)
  have w1s := HB1.out.size
  have HK0 := hide (fun (W : World) (hW : Below w1.heap.size w1 W) => (And.intro ((HX0.out.below hW).cell 0 (v := .slice Ak lk ck) rfl).1 (And.intro ((HX0.out.below hW).cell 1 (v := .slice Ab lb cb) rfl).1 (And.intro ((HX0.out.below hW).cell 2 (v := .int .i64 fp) rfl).1 (And.intro ((HX0.out.below hW).cell 3 (v := .int .i64 fr) rfl).1 ((HX0.out.below hW).cell 4 (v := .slice As ls cs) rfl).1)))))
  have lHX0 := HX0.out.lt
  rw [← hw1, hh5]
  clear hw1 hh5
  obtain ⟨c0, c1, c2, c3, c4⟩ := HK0.out w1 (Below.refl _ _)
  go_wp2_with (first
    | (go_at_call 37; (refine (HAT.out w2 HB2.out _ (by first | rfl | (simp; done) | (unfold wrap64; omega) | go_num)).mono ?_); rintro e w4 ⟨r4, rfl, hv4, hb4⟩; have HV4 := hide hv4; have HB4 := hide (HB2.out.trans (hb4.mono HB2.out.size)); clear hv4 hb4)
    | (go_at_call 36; (with_reducible refine (HTR.out w1 HB1.out).mono ?_); rintro e w2 ⟨rfl, hb2⟩; have l2 := hb2.size; obtain ⟨d0, d1, d2, d3, d4⟩ := HK0.out w2 hb2; have HB2 := hide (HB1.out.trans (hb2.mono HB1.out.size)); clear hb2 c0 c1 c2 c3 c4))
  go_ret
  exact ⟨r4, s, rfl, HQ.out, HV4.out, HB4.out⟩
set_option maxHeartbeats 1000000 in
set_option maxRecDepth 100000 in
theorem rin11_any (p : List FunV) (vk vb vs : Value) (f : FunV) (b : Int) (w : World) (B : Nat) (hB : B ≤ w.heap.size) (hi : FunI w (· < B) vk vb vs f) (h : LOk p f) (hσ : ∃ σ : Nat → List Nat, ∀ c, c < f.blocks.length → LvS f c (σ c)) :
    Calls Tryd.prog 14 #[.agg #[vk, vb, .int .i64 f.params, .int .i64 f.result, vs], .int .i64 b] w fun e w' => ∃ r s, e = .returned r ∧ LvQ f 0 b 0 s ∧ SetV w' r s ∧ Below w.heap.size w w' := by
  have HAH := hide (fun (W : World) (hW : Below w.heap.size w W) => rahead11_any p vk vb vs f b 0 W B (by have := hW.size; omega) (hi.keep (up hW hB) (fun _ h => h)) h hσ)
  obtain ⟨P, hP⟩ : ∃ P : List Nat → Prop, LvQ f 0 b 0 = P := ⟨_, rfl⟩
  rw [hP] at HAH ⊢
  obtain ⟨Ak, ck, rfl, hck, hmk⟩ := hi.1.open'
  obtain ⟨Ab, cb, rfl, hcb, hmb⟩ := hi.2.1.open'
  obtain ⟨As, cs, rfl, hcs, hms⟩ := hi.2.2.1.open'
  clear hi h hσ hP
  generalize f.kinds.length = lk, f.base.length = lb, f.blocks.length = ls, f.params = fp, f.result = fr at *
  go_enter Tryd.func14, Tryd.ntmps14
  go_upto_region 1 with (fail)
  obtain ⟨w1, hw1⟩ : ∃ w1, w1 = w.alloc (.cells #[.slice Ak lk ck, .slice Ab lb cb, .int .i64 fp, .int .i64 fr, .slice As ls cs] 30) := ⟨_, rfl⟩
  obtain ⟨h5, hh5⟩ : ∃ h5, w.heap.size = h5 := ⟨_, rfl⟩
  have HX0 := hide (show Box w1 (h5) #[.slice Ak lk ck, .slice Ab lb cb, .int .i64 fp, .int .i64 fr, .slice As ls cs] 30 by rw [hw1, ← hh5]; exact Box.new w _ _)
  have HB1 := hide (show Below w.heap.size w w1 by rw [hw1]; exact alloc1 w _)
  have w1s := HB1.out.size
  have HK0 := hide (fun (W : World) (hW : Below w1.heap.size w1 W) => (And.intro ((HX0.out.below hW).cell 0 (v := .slice Ak lk ck) rfl).1 (And.intro ((HX0.out.below hW).cell 1 (v := .slice Ab lb cb) rfl).1 (And.intro ((HX0.out.below hW).cell 2 (v := .int .i64 fp) rfl).1 (And.intro ((HX0.out.below hW).cell 3 (v := .int .i64 fr) rfl).1 ((HX0.out.below hW).cell 4 (v := .slice As ls cs) rfl).1)))))
  have lHX0 := HX0.out.lt
  rw [← hw1, hh5]
  clear hw1 hh5
  obtain ⟨c0, c1, c2, c3, c4⟩ := HK0.out w1 (Below.refl _ _)
  go_wp2_with (go_at_call 8; (with_reducible refine (HAH.out w1 HB1.out).mono ?_); rintro e w2 ⟨r2, s2, rfl, hq2, hv2, hb2⟩; have HQ2 := hide hq2; have HV2 := hide hv2; have HB2 := hide (HB1.out.trans (hb2.mono HB1.out.size)); clear hb2 hq2 hv2)
  go_ret
  exact ⟨r2, s2, rfl, HQ2.out, HV2.out, HB2.out⟩
set_option maxHeartbeats 1000000 in
set_option maxRecDepth 100000 in
theorem rout11_any (p : List FunV) (vk vb vs : Value) (f : FunV) (b : Int) (w : World) (B : Nat) (hB : B ≤ w.heap.size) (hi : FunI w (· < B) vk vb vs f) (h : LOk p f) (hσ : ∃ σ : Nat → List Nat, ∀ c, c < f.blocks.length → LvS f c (σ c)) :
    Calls Tryd.prog 16 #[.agg #[vk, vb, .int .i64 f.params, .int .i64 f.result, vs], .int .i64 b] w fun e w' => ∃ r s, e = .returned r ∧ LvQ f 1 b (sizeN f b - 1) s ∧ SetV w' r s ∧ Below w.heap.size w w' := by
  have HBL := hide (fun (W : World) (hW : Below w.heap.size w W) => hi.2.2.1.keep (up hW hB) (fun _ h => h))
  obtain ⟨ls, hls⟩ : ∃ ls, f.blocks.length = ls := ⟨_, rfl⟩
  by_cases h0 : b < 0
  case pos =>
    have hq : LvQ f 1 b (sizeN f b - 1) [] := by
      unfold LvQ hereB
      rw [sizeN_out (by omega)]
      rfl
    have HQ := hide hq
    obtain ⟨P, hP⟩ : ∃ P : List Nat → Prop, LvQ f 1 b (sizeN f b - 1) = P := ⟨_, rfl⟩
    rw [hP] at HQ ⊢
    obtain ⟨Ak, ck, rfl, hck, hmk⟩ := hi.1.open'
    obtain ⟨Ab, cb, rfl, hcb, hmb⟩ := hi.2.1.open'
    obtain ⟨As, cs, rfl, hcs, hms⟩ := hi.2.2.1.open'
    rw [hls] at hcs ⊢
    clear hi h hσ hq hls HBL hP
    generalize f.kinds.length = lk, f.base.length = lb, f.params = fp, f.result = fr at *
    go_enter Tryd.func16, Tryd.ntmps16
    go_wp2
    go_ret
    first | exact ⟨_, [], rfl, HQ.out, SetV.nil0 _, alloc1 w _⟩ | exact ⟨_, rfl, [], HQ.out, SetV.nil0 _, alloc1 w _⟩ | (refine ⟨_, rfl, ?_⟩; exact ⟨[], HQ.out, SetV.nil0 _, alloc1 w _⟩) | trace_state
  by_cases h1 : (ls : Int) ≤ b
  case pos =>
    have hq : LvQ f 1 b (sizeN f b - 1) [] := by
      unfold LvQ hereB
      rw [sizeN_out (by omega)]
      rfl
    have HQ := hide hq
    obtain ⟨P, hP⟩ : ∃ P : List Nat → Prop, LvQ f 1 b (sizeN f b - 1) = P := ⟨_, rfl⟩
    rw [hP] at HQ ⊢
    have h2 : b ≥ (ls : Int) := h1
    obtain ⟨Ak, ck, rfl, hck, hmk⟩ := hi.1.open'
    obtain ⟨Ab, cb, rfl, hcb, hmb⟩ := hi.2.1.open'
    obtain ⟨As, cs, rfl, hcs, hms⟩ := hi.2.2.1.open'
    rw [hls] at hcs ⊢
    clear hi h hσ hq hls HBL hP
    generalize f.kinds.length = lk, f.base.length = lb, f.params = fp, f.result = fr at *
    go_enter Tryd.func16, Tryd.ntmps16
    go_wp2
    go_ret
    first | exact ⟨_, [], rfl, HQ.out, SetV.nil0 _, alloc1 w _⟩ | exact ⟨_, rfl, [], HQ.out, SetV.nil0 _, alloc1 w _⟩ | (refine ⟨_, rfl, ?_⟩; exact ⟨[], HQ.out, SetV.nil0 _, alloc1 w _⟩) | trace_state
  have HBH := hide (fun (W : World) (hW : Below w.heap.size w W) => rbehind11_any p vk vb vs f b (sizeN f b - 1) W B (by have := hW.size; omega) (hi.keep (up hW hB) (fun _ h => h)) h hσ)
  obtain ⟨bn, rfl⟩ : ∃ n : Nat, b = (n : Int) := ⟨b.toNat, by omega⟩
  obtain ⟨l, hl⟩ : ∃ l, f.blocks[bn]? = some l := ⟨_, List.getElem?_eq_getElem (by omega)⟩
  have hbn : bn < ls := by omega
  have hl40 := h.flow.2.1 l (List.mem_of_getElem? hl)
  obtain ⟨Ak, ck, rfl, hck, hmk⟩ := hi.1.open'
  obtain ⟨Ab, cb, rfl, hcb, hmb⟩ := hi.2.1.open'
  obtain ⟨As, cs, rfl, hcs, hms⟩ := hi.2.2.1.open'
  obtain ⟨bb, ob, Al, cl, hAs, hbb, d0, -⟩ := (HBL.out w (Below.refl _ _)).get hl
  subst hAs
  rw [sizeN_nat hl] at HBH
  rw [sizeN_nat hl]
  obtain ⟨P, hP⟩ : ∃ P : List Nat → Prop, LvQ f 1 (bn : Int) ((l.length : Int) - 1) = P := ⟨_, rfl⟩
  rw [hP] at HBH ⊢
  obtain ⟨ll, hll⟩ : ∃ ll, l.length = ll := ⟨_, rfl⟩
  rw [hll] at d0 HBH hl40
  rw [hls] at HBH hcs ⊢
  have HD0 := hide (fun (W : World) (hW : Below w.heap.size w W) => (World.cell?_of_block (a := ⟨bb, ob + bn, none⟩) (hW.block bb (by have : bb < B := hbb; omega))).trans d0)
  have hjw : IntKind.i64.wrap ((ll : Int) - 1) = (ll : Int) - 1 := IntWalk.i64_in _ ⟨by omega, by omega⟩
  have hb0 : (0 : Int) ≤ (bn : Int) := by omega
  have hb1 : (bn : Int) < (ls : Int) := by omega
  have hb2 : ¬ (bn : Int) ≥ (ls : Int) := by omega
  clear hi h hσ hP hll hls hl h0 h1 d0 HBL
  generalize f.kinds.length = lk, f.base.length = lb, f.params = fp, f.result = fr at *
  go_enter Tryd.func16, Tryd.ntmps16
  go_upto_region 1 with (fail)
  obtain ⟨w1, hw1⟩ : ∃ w1, w1 = w.alloc (.cells #[.slice Ak lk ck, .slice Ab lb cb, .int .i64 fp, .int .i64 fr, .slice (some ⟨bb, ob, none⟩) ls cs] 30) := ⟨_, rfl⟩
  obtain ⟨h5, hh5⟩ : ∃ h5, w.heap.size = h5 := ⟨_, rfl⟩
  have HX0 := hide (show Box w1 (h5) #[.slice Ak lk ck, .slice Ab lb cb, .int .i64 fp, .int .i64 fr, .slice (some ⟨bb, ob, none⟩) ls cs] 30 by rw [hw1, ← hh5]; exact Box.new w _ _)
  have HB1 := hide (show Below w.heap.size w w1 by rw [hw1]; exact alloc1 w _)
  have w1s := HB1.out.size
  have HK0 := hide (fun (W : World) (hW : Below w1.heap.size w1 W) => (And.intro ((HX0.out.below hW).cell 0 (v := .slice Ak lk ck) rfl).1 (And.intro ((HX0.out.below hW).cell 1 (v := .slice Ab lb cb) rfl).1 (And.intro ((HX0.out.below hW).cell 2 (v := .int .i64 fp) rfl).1 (And.intro ((HX0.out.below hW).cell 3 (v := .int .i64 fr) rfl).1 ((HX0.out.below hW).cell 4 (v := .slice (some ⟨bb, ob, none⟩) ls cs) rfl).1)))))
  have lHX0 := HX0.out.lt
  rw [← hw1, hh5]
  clear hw1 hh5
  obtain ⟨c0, c1, c2, c3, c4⟩ := HK0.out w1 (Below.refl _ _)
  go_upto_region 3 with (fail)
  have d1 := HD0.out w1 HB1.out
  have hbb1 : bb < w1.heap.size := by have : bb < B := hbb; omega
  go_region_held3 (fun w' => (w'.cell? ⟨h5, 0, none⟩ = some (.slice Ak lk ck) ∧ w'.cell? ⟨h5, 1, none⟩ = some (.slice Ab lb cb) ∧ w'.cell? ⟨h5, 2, none⟩ = some (.int .i64 fp) ∧ w'.cell? ⟨h5, 3, none⟩ = some (.int .i64 fr) ∧ w'.cell? ⟨h5, 4, none⟩ = some (.slice (some ⟨bb, ob, none⟩) ls cs)) ∧ w'.cell? ⟨bb, ob + bn, none⟩ = some (.slice Al ll cl)) (first | go_keep | (exact q2))
    (first
      | (go_at_call 12; refine (HBH.out (w1.drewN 1) (below_drewN HB1.out 1)).mono ?_; rintro e w3 ⟨r3, s3, rfl, hs3, hv3, hb3⟩; have hc3 : Below w1.heap.size w1 w3 := ⟨hb3.os, hb3.tape, hb3.output, hb3.size, hb3.block⟩; have q2 := And.intro (HK0.out w3 hc3) (HD0.out w3 (HB1.out.trans (hc3.mono w1s))); have HS3 := hide hs3; have HV3 := hide hv3; have HB3 := hide (HB1.out.trans (hc3.mono w1s)); clear hs3 hv3 hb3 hc3))
  go_wp2
  go_ret
  exact ⟨r3, s3, rfl, HS3.out, HV3.out, HB3.out⟩
end Go.Proofs.YtbofnlaacjgclaaDoor
