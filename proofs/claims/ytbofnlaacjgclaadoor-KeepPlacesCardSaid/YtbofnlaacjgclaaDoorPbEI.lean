/- Layer 12, the document's answer: Ahead, Behind, Across. Condition: the function is one of a program that may be. -/
import Derived.Test.YtbofnlaacjgclaaDoorPbJY
import Derived.Test.YtbofnlaacjgclaaDoorPbED
set_option linter.unusedSimpArgs false
set_option linter.unusedVariables false
namespace Go.Proofs.YtbofnlaacjgclaaDoor
open Go.RowKit

theorem cls_none (f : FunV) (k : Nat) : clsN f [] k = [] := by
  induction k with
  | zero => rfl
  | succ k ih =>
    unfold clsN
    rw [ih, if_neg (by simp [hasB])]
    rfl
theorem close_none (f : FunV) : closeL f [] = [] := by
  unfold closeL
  rw [cls_none]
  rfl
theorem AcrQ.one {f : FunV} (hok : FlowOk f) {b i : Int} {s t : List Nat} (h1 : AcrQ f b i s) (h2 : AcrQ f b i t) : s = t := by
  unfold AcrQ at h1 h2
  split at h1
  · rename_i h
    rw [if_pos h] at h2
    obtain ⟨u, x, hu, hx, rfl⟩ := h1
    obtain ⟨v, y, hv, hy, rfl⟩ := h2
    rw [hx] at hy
    injection hy with hy
    subst hy
    rw [hu.one hok hv]
  · rename_i h
    rw [if_neg h] at h2
    rw [h1, h2]
theorem AcrQ.ok {f : FunV} {b i : Int} {s : List Nat} (h : AcrQ f b i s) : s.length ≤ 1000 := by
  unfold AcrQ at h
  split at h
  · obtain ⟨u, x, hu, hx, rfl⟩ := h
    have h1 := closeL_ok f u
    split
    · have := withoutL_len (closeL f u) [x.d]
      have := h1.1
      omega
    · have := h1.1
      omega
  · rw [h]
    simp
set_option maxHeartbeats 1000000 in
set_option maxRecDepth 100000 in
theorem rkahead_any (p : List FunV) (vk vb vs : Value) (f : FunV) (b i : Int) (w : World) (B : Nat) (hB : B ≤ w.heap.size) (hi : FunI w (· < B) vk vb vs f) (h : LOk p f) (hσ : ∃ σ : Nat → List Nat, ∀ c, c < f.blocks.length → LvS f c (σ c)) :
    Calls Tryd.prog 24 #[.agg #[vk, vb, .int .i64 f.params, .int .i64 f.result, vs], .int .i64 b, .int .i64 i] w fun e w' => ∃ r s, e = .returned r ∧ LvQ f 0 b i s ∧ SetV w' r (closeL f s) ∧ Below w.heap.size w w' := by
  have hk48 := h.kinds
  have HAH := hide (fun (W : World) (hW : Below w.heap.size w W) => rahead11_any p vk vb vs f b i W B (by have := hW.size; omega) (hi.keep (up hW hB) (fun _ h => h)) h hσ)
  have HCL := hide (fun (W : World) (hW : Below w.heap.size w W) (v : Value) (s : List Nat) (hs : LvQ f 0 b i s) (hv : SetV W v s) => rclose_any vk vb vs f v s W B (by have := hW.size; omega) (hi.keep (up hW hB) (fun _ h => h)) (by omega) hv (by have := (hs.ok h.flow).1; omega) (hs.ok h.flow).2 (fun k hk => by have := (List.getElem?_eq_some_iff.1 hk).1; have := h.bl; omega))
  obtain ⟨P, hP⟩ : ∃ P : List Nat → Prop, LvQ f 0 b i = P := ⟨_, rfl⟩
  obtain ⟨Q, hQ⟩ : ∃ Q : List Nat → List Nat, closeL f = Q := ⟨_, rfl⟩
  rw [hP] at HAH HCL ⊢
  rw [hQ] at HCL ⊢
  obtain ⟨Ak, ck, rfl, hck, hmk⟩ := hi.1.open'
  obtain ⟨Ab, cb, rfl, hcb, hmb⟩ := hi.2.1.open'
  obtain ⟨As, cs, rfl, hcs, hms⟩ := hi.2.2.1.open'
  clear hi h hσ hP hQ hk48
  generalize f.kinds.length = lk, f.base.length = lb, f.blocks.length = ls, f.params = fp, f.result = fr at *
  go_enter Tryd.func24, Tryd.ntmps24
  go_upto_region 1 with (fail)
  obtain ⟨w1, hw1⟩ : ∃ w1, w1 = w.alloc (.cells #[.slice Ak lk ck, .slice Ab lb cb, .int .i64 fp, .int .i64 fr, .slice As ls cs] 30) := ⟨_, rfl⟩
  obtain ⟨h5, hh5⟩ : ∃ h5, w.heap.size = h5 := ⟨_, rfl⟩
  have HX0 := hide (show Box w1 (h5) #[.slice Ak lk ck, .slice Ab lb cb, .int .i64 fp, .int .i64 fr, .slice As ls cs] 30 by rw [hw1, ← hh5]; exact Box.new w _ _)
  have HB1 := hide (show Below w.heap.size w w1 by rw [hw1]; exact alloc1 w _)
  have w1s := HB1.out.size
  have HK0 := hide (fun (W : World) (hW : Below w1.heap.size w1 W) => (And.intro ((HX0.out.below hW).cell 0 (v := .slice Ak lk ck) rfl).1 (And.intro ((HX0.out.below hW).cell 1 (v := .slice Ab lb cb) rfl).1 (And.intro ((HX0.out.below hW).cell 2 (v := .int .i64 fp) rfl).1 (And.intro ((HX0.out.below hW).cell 3 (v := .int .i64 fr) rfl).1 ((HX0.out.below hW).cell 4 (v := .slice As ls cs) rfl).1)))))
  have lHX0 := HX0.out.lt
  rw [← hw1, hh5]
  clear hw1 hh5
  obtain ⟨c0, c1, c2, c3, c4⟩ := HK0.out w1 (Below.refl _ _)
  go_region_held3 (fun w' => w'.cell? ⟨h5, 0, none⟩ = some (.slice Ak lk ck) ∧ w'.cell? ⟨h5, 1, none⟩ = some (.slice Ab lb cb) ∧ w'.cell? ⟨h5, 2, none⟩ = some (.int .i64 fp) ∧ w'.cell? ⟨h5, 3, none⟩ = some (.int .i64 fr) ∧ w'.cell? ⟨h5, 4, none⟩ = some (.slice As ls cs)) (first | go_keep | (exact q3) | (exact q2))
    (first
      | (go_at_call 53; refine (HCL.out w2 (HB1.out.trans (HC2.out.mono w1s)) _ s2 HQ2.out HV2.out).mono ?_; rintro e w3 ⟨r3, rfl, hv3, hb3⟩; have hc3 := HC2.out.trans (hb3.mono HC2.out.size); have q3 := HK0.out w3 hc3; have HV3 := hide hv3; have HB3 := hide (HB1.out.trans (hc3.mono w1s)); clear hv3 hb3 hc3)
      | (go_at_call 8; refine (HAH.out (w1.drewN 1) (below_drewN HB1.out 1)).mono ?_; rintro e w2 ⟨r2, s2, rfl, hq2, hv2, hb2⟩; have hc2 : Below w1.heap.size w1 w2 := ⟨hb2.os, hb2.tape, hb2.output, hb2.size, hb2.block⟩; have q2 := HK0.out w2 hc2; have HC2 := hide hc2; have HQ2 := hide hq2; have HV2 := hide hv2; clear hq2 hv2 hb2 hc2))
  go_wp2
  go_ret
  exact ⟨r3, s2, rfl, HQ2.out, HV3.out, HB3.out⟩
set_option maxHeartbeats 1000000 in
set_option maxRecDepth 100000 in
theorem rkbehind_any (p : List FunV) (vk vb vs : Value) (f : FunV) (b i : Int) (w : World) (B : Nat) (hB : B ≤ w.heap.size) (hi : FunI w (· < B) vk vb vs f) (h : LOk p f) (hσ : ∃ σ : Nat → List Nat, ∀ c, c < f.blocks.length → LvS f c (σ c)) :
    Calls Tryd.prog 26 #[.agg #[vk, vb, .int .i64 f.params, .int .i64 f.result, vs], .int .i64 b, .int .i64 i] w fun e w' => ∃ r s, e = .returned r ∧ LvQ f 1 b i s ∧ SetV w' r (closeL f s) ∧ Below w.heap.size w w' := by
  have hk48 := h.kinds
  have HAH := hide (fun (W : World) (hW : Below w.heap.size w W) => rbehind11_any p vk vb vs f b i W B (by have := hW.size; omega) (hi.keep (up hW hB) (fun _ h => h)) h hσ)
  have HCL := hide (fun (W : World) (hW : Below w.heap.size w W) (v : Value) (s : List Nat) (hs : LvQ f 1 b i s) (hv : SetV W v s) => rclose_any vk vb vs f v s W B (by have := hW.size; omega) (hi.keep (up hW hB) (fun _ h => h)) (by omega) hv (by have := (hs.ok h.flow).1; omega) (hs.ok h.flow).2 (fun k hk => by have := (List.getElem?_eq_some_iff.1 hk).1; have := h.bl; omega))
  obtain ⟨P, hP⟩ : ∃ P : List Nat → Prop, LvQ f 1 b i = P := ⟨_, rfl⟩
  obtain ⟨Q, hQ⟩ : ∃ Q : List Nat → List Nat, closeL f = Q := ⟨_, rfl⟩
  rw [hP] at HAH HCL ⊢
  rw [hQ] at HCL ⊢
  obtain ⟨Ak, ck, rfl, hck, hmk⟩ := hi.1.open'
  obtain ⟨Ab, cb, rfl, hcb, hmb⟩ := hi.2.1.open'
  obtain ⟨As, cs, rfl, hcs, hms⟩ := hi.2.2.1.open'
  clear hi h hσ hP hQ hk48
  generalize f.kinds.length = lk, f.base.length = lb, f.blocks.length = ls, f.params = fp, f.result = fr at *
  go_enter Tryd.func26, Tryd.ntmps26
  go_upto_region 1 with (fail)
  obtain ⟨w1, hw1⟩ : ∃ w1, w1 = w.alloc (.cells #[.slice Ak lk ck, .slice Ab lb cb, .int .i64 fp, .int .i64 fr, .slice As ls cs] 30) := ⟨_, rfl⟩
  obtain ⟨h5, hh5⟩ : ∃ h5, w.heap.size = h5 := ⟨_, rfl⟩
  have HX0 := hide (show Box w1 (h5) #[.slice Ak lk ck, .slice Ab lb cb, .int .i64 fp, .int .i64 fr, .slice As ls cs] 30 by rw [hw1, ← hh5]; exact Box.new w _ _)
  have HB1 := hide (show Below w.heap.size w w1 by rw [hw1]; exact alloc1 w _)
  have w1s := HB1.out.size
  have HK0 := hide (fun (W : World) (hW : Below w1.heap.size w1 W) => (And.intro ((HX0.out.below hW).cell 0 (v := .slice Ak lk ck) rfl).1 (And.intro ((HX0.out.below hW).cell 1 (v := .slice Ab lb cb) rfl).1 (And.intro ((HX0.out.below hW).cell 2 (v := .int .i64 fp) rfl).1 (And.intro ((HX0.out.below hW).cell 3 (v := .int .i64 fr) rfl).1 ((HX0.out.below hW).cell 4 (v := .slice As ls cs) rfl).1)))))
  have lHX0 := HX0.out.lt
  rw [← hw1, hh5]
  clear hw1 hh5
  obtain ⟨c0, c1, c2, c3, c4⟩ := HK0.out w1 (Below.refl _ _)
  go_region_held3 (fun w' => w'.cell? ⟨h5, 0, none⟩ = some (.slice Ak lk ck) ∧ w'.cell? ⟨h5, 1, none⟩ = some (.slice Ab lb cb) ∧ w'.cell? ⟨h5, 2, none⟩ = some (.int .i64 fp) ∧ w'.cell? ⟨h5, 3, none⟩ = some (.int .i64 fr) ∧ w'.cell? ⟨h5, 4, none⟩ = some (.slice As ls cs)) (first | go_keep | (exact q3) | (exact q2))
    (first
      | (go_at_call 53; refine (HCL.out w2 (HB1.out.trans (HC2.out.mono w1s)) _ s2 HQ2.out HV2.out).mono ?_; rintro e w3 ⟨r3, rfl, hv3, hb3⟩; have hc3 := HC2.out.trans (hb3.mono HC2.out.size); have q3 := HK0.out w3 hc3; have HV3 := hide hv3; have HB3 := hide (HB1.out.trans (hc3.mono w1s)); clear hv3 hb3 hc3)
      | (go_at_call 12; refine (HAH.out (w1.drewN 1) (below_drewN HB1.out 1)).mono ?_; rintro e w2 ⟨r2, s2, rfl, hq2, hv2, hb2⟩; have hc2 : Below w1.heap.size w1 w2 := ⟨hb2.os, hb2.tape, hb2.output, hb2.size, hb2.block⟩; have q2 := HK0.out w2 hc2; have HC2 := hide hc2; have HQ2 := hide hq2; have HV2 := hide hv2; clear hq2 hv2 hb2 hc2))
  go_wp2
  go_ret
  exact ⟨r3, s2, rfl, HQ2.out, HV3.out, HB3.out⟩
set_option maxHeartbeats 2000000 in
set_option maxRecDepth 100000 in
theorem rkacross_any (p : List FunV) (vk vb vs : Value) (f : FunV) (b i : Int) (w : World) (B : Nat) (hB : B ≤ w.heap.size) (hi : FunI w (· < B) vk vb vs f) (h : LOk p f) (hσ : ∃ σ : Nat → List Nat, ∀ c, c < f.blocks.length → LvS f c (σ c)) :
    Calls Tryd.prog 22 #[.agg #[vk, vb, .int .i64 f.params, .int .i64 f.result, vs], .int .i64 b, .int .i64 i] w fun e w' => ∃ r t, e = .returned r ∧ AcrQ f b i t ∧ SetV w' r t ∧ Below w.heap.size w w' := by
  have HBL := hide (fun (W : World) (hW : Below w.heap.size w W) => hi.2.2.1.keep (up hW hB) (fun _ h => h))
  have HBH := hide (fun (W : World) (hW : Below w.heap.size w W) => rkbehind_any p vk vb vs f b i W B (by have := hW.size; omega) (hi.keep (up hW hB) (fun _ h => h)) h hσ)
  obtain ⟨Ak, ck, rfl, hck, hmk⟩ := hi.1.open'
  obtain ⟨Ab, cb, rfl, hcb, hmb⟩ := hi.2.1.open'
  obtain ⟨As, cs, rfl, hcs, hms⟩ := hi.2.2.1.open'
  obtain ⟨ls, hls⟩ : ∃ ls, f.blocks.length = ls := ⟨_, rfl⟩
  by_cases h0 : b < 0
  case pos =>
    have hh : hereB f b i = false := by
      unfold hereB
      rw [sizeN_out (.inl h0)]; first | (simp; done) | (simp; omega)
    have HQ := hide (show AcrQ f b i [] by unfold AcrQ; rw [if_neg (by rw [hh]; simp)])
    have HE := hide (fun s (hs : LvQ f 1 b i s) => (show s = [] by unfold LvQ at hs; rw [if_neg (by rw [hh]; simp)] at hs; exact hs))
    have HCN := hide (close_none f)
    rw [hls] at HBH hcs ⊢
    obtain ⟨P, hP⟩ : ∃ P : List Nat → Prop, AcrQ f b i = P := ⟨_, rfl⟩
    rw [hP] at HQ ⊢
    clear hi h hσ hh hls HBL hP 
    generalize f.kinds.length = lk, f.base.length = lb, f.params = fp, f.result = fr at *
    go_enter Tryd.func22, Tryd.ntmps22
    go_upto_region 1 with (fail)
    obtain ⟨w1, hw1⟩ : ∃ w1, w1 = w.alloc (.cells #[.slice Ak lk ck, .slice Ab lb cb, .int .i64 fp, .int .i64 fr, .slice As ls cs] 30) := ⟨_, rfl⟩
    obtain ⟨h5, hh5⟩ : ∃ h5, w.heap.size = h5 := ⟨_, rfl⟩
    have HX0 := hide (show Box w1 (h5) #[.slice Ak lk ck, .slice Ab lb cb, .int .i64 fp, .int .i64 fr, .slice As ls cs] 30 by rw [hw1, ← hh5]; exact Box.new w _ _)
    have HB1 := hide (show Below w.heap.size w w1 by rw [hw1]; exact alloc1 w _)
    have w1s := HB1.out.size
    have HK0 := hide (fun (W : World) (hW : Below w1.heap.size w1 W) => (And.intro ((HX0.out.below hW).cell 0 (v := .slice Ak lk ck) rfl).1 (And.intro ((HX0.out.below hW).cell 1 (v := .slice Ab lb cb) rfl).1 (And.intro ((HX0.out.below hW).cell 2 (v := .int .i64 fp) rfl).1 (And.intro ((HX0.out.below hW).cell 3 (v := .int .i64 fr) rfl).1 ((HX0.out.below hW).cell 4 (v := .slice As ls cs) rfl).1)))))
    have lHX0 := HX0.out.lt
    rw [← hw1, hh5]
    clear hw1 hh5
    obtain ⟨c0, c1, c2, c3, c4⟩ := HK0.out w1 (Below.refl _ _)
    go_upto_region 2 with (go_at_call 26; (with_reducible refine (HBH.out w1 HB1.out).mono ?_); rintro e w2 ⟨r2, s2, rfl, hq2, hv2, hb2⟩; have hs2 := HE.out s2 hq2; subst hs2; rw [HCN.out] at hv2; have p2 := HK0.out w2 hb2; have HV2 := hide hv2; have HC2 := hide hb2; have HB2 := hide (HB1.out.trans (hb2.mono w1s)); clear hb2 hv2 hq2 c0 c1 c2 c3 c4)
    obtain ⟨c0, c1, c2, c3, c4⟩ := p2
    have l2 : h5 < w2.heap.size := by have := HC2.out.size; omega
    go_wp2
    go_ret
    first | exact ⟨_, [], rfl, HQ.out, HV2.out, HB2.out⟩ | exact ⟨_, rfl, [], HQ.out, HV2.out, HB2.out⟩
  by_cases h1 : (ls : Int) ≤ b
  case pos =>
    have hh : hereB f b i = false := by
      unfold hereB
      rw [sizeN_out (.inr (by omega))]; first | (simp; done) | (simp; omega)
    have HQ := hide (show AcrQ f b i [] by unfold AcrQ; rw [if_neg (by rw [hh]; simp)])
    have HE := hide (fun s (hs : LvQ f 1 b i s) => (show s = [] by unfold LvQ at hs; rw [if_neg (by rw [hh]; simp)] at hs; exact hs))
    have HCN := hide (close_none f)
    have h2 : b ≥ (ls : Int) := h1
    rw [hls] at HBH hcs ⊢
    obtain ⟨P, hP⟩ : ∃ P : List Nat → Prop, AcrQ f b i = P := ⟨_, rfl⟩
    rw [hP] at HQ ⊢
    clear hi h hσ hh hls HBL hP 
    generalize f.kinds.length = lk, f.base.length = lb, f.params = fp, f.result = fr at *
    go_enter Tryd.func22, Tryd.ntmps22
    go_upto_region 1 with (fail)
    obtain ⟨w1, hw1⟩ : ∃ w1, w1 = w.alloc (.cells #[.slice Ak lk ck, .slice Ab lb cb, .int .i64 fp, .int .i64 fr, .slice As ls cs] 30) := ⟨_, rfl⟩
    obtain ⟨h5, hh5⟩ : ∃ h5, w.heap.size = h5 := ⟨_, rfl⟩
    have HX0 := hide (show Box w1 (h5) #[.slice Ak lk ck, .slice Ab lb cb, .int .i64 fp, .int .i64 fr, .slice As ls cs] 30 by rw [hw1, ← hh5]; exact Box.new w _ _)
    have HB1 := hide (show Below w.heap.size w w1 by rw [hw1]; exact alloc1 w _)
    have w1s := HB1.out.size
    have HK0 := hide (fun (W : World) (hW : Below w1.heap.size w1 W) => (And.intro ((HX0.out.below hW).cell 0 (v := .slice Ak lk ck) rfl).1 (And.intro ((HX0.out.below hW).cell 1 (v := .slice Ab lb cb) rfl).1 (And.intro ((HX0.out.below hW).cell 2 (v := .int .i64 fp) rfl).1 (And.intro ((HX0.out.below hW).cell 3 (v := .int .i64 fr) rfl).1 ((HX0.out.below hW).cell 4 (v := .slice As ls cs) rfl).1)))))
    have lHX0 := HX0.out.lt
    rw [← hw1, hh5]
    clear hw1 hh5
    obtain ⟨c0, c1, c2, c3, c4⟩ := HK0.out w1 (Below.refl _ _)
    go_upto_region 2 with (go_at_call 26; (with_reducible refine (HBH.out w1 HB1.out).mono ?_); rintro e w2 ⟨r2, s2, rfl, hq2, hv2, hb2⟩; have hs2 := HE.out s2 hq2; subst hs2; rw [HCN.out] at hv2; have p2 := HK0.out w2 hb2; have HV2 := hide hv2; have HC2 := hide hb2; have HB2 := hide (HB1.out.trans (hb2.mono w1s)); clear hb2 hv2 hq2 c0 c1 c2 c3 c4)
    obtain ⟨c0, c1, c2, c3, c4⟩ := p2
    have l2 : h5 < w2.heap.size := by have := HC2.out.size; omega
    go_wp2
    go_ret
    first | exact ⟨_, [], rfl, HQ.out, HV2.out, HB2.out⟩ | exact ⟨_, rfl, [], HQ.out, HV2.out, HB2.out⟩
  by_cases h3 : i < 0
  case pos =>
    have hh : hereB f b i = false := by
      unfold hereB
      rw [decide_eq_false (by omega)]; rfl
    have HQ := hide (show AcrQ f b i [] by unfold AcrQ; rw [if_neg (by rw [hh]; simp)])
    have HE := hide (fun s (hs : LvQ f 1 b i s) => (show s = [] by unfold LvQ at hs; rw [if_neg (by rw [hh]; simp)] at hs; exact hs))
    have HCN := hide (close_none f)
    have h4 : ¬ b ≥ (ls : Int) := by omega
    rw [hls] at HBH hcs ⊢
    obtain ⟨P, hP⟩ : ∃ P : List Nat → Prop, AcrQ f b i = P := ⟨_, rfl⟩
    rw [hP] at HQ ⊢
    clear hi h hσ hh hls HBL hP 
    generalize f.kinds.length = lk, f.base.length = lb, f.params = fp, f.result = fr at *
    go_enter Tryd.func22, Tryd.ntmps22
    go_upto_region 1 with (fail)
    obtain ⟨w1, hw1⟩ : ∃ w1, w1 = w.alloc (.cells #[.slice Ak lk ck, .slice Ab lb cb, .int .i64 fp, .int .i64 fr, .slice As ls cs] 30) := ⟨_, rfl⟩
    obtain ⟨h5, hh5⟩ : ∃ h5, w.heap.size = h5 := ⟨_, rfl⟩
    have HX0 := hide (show Box w1 (h5) #[.slice Ak lk ck, .slice Ab lb cb, .int .i64 fp, .int .i64 fr, .slice As ls cs] 30 by rw [hw1, ← hh5]; exact Box.new w _ _)
    have HB1 := hide (show Below w.heap.size w w1 by rw [hw1]; exact alloc1 w _)
    have w1s := HB1.out.size
    have HK0 := hide (fun (W : World) (hW : Below w1.heap.size w1 W) => (And.intro ((HX0.out.below hW).cell 0 (v := .slice Ak lk ck) rfl).1 (And.intro ((HX0.out.below hW).cell 1 (v := .slice Ab lb cb) rfl).1 (And.intro ((HX0.out.below hW).cell 2 (v := .int .i64 fp) rfl).1 (And.intro ((HX0.out.below hW).cell 3 (v := .int .i64 fr) rfl).1 ((HX0.out.below hW).cell 4 (v := .slice As ls cs) rfl).1)))))
    have lHX0 := HX0.out.lt
    rw [← hw1, hh5]
    clear hw1 hh5
    obtain ⟨c0, c1, c2, c3, c4⟩ := HK0.out w1 (Below.refl _ _)
    go_upto_region 2 with (go_at_call 26; (with_reducible refine (HBH.out w1 HB1.out).mono ?_); rintro e w2 ⟨r2, s2, rfl, hq2, hv2, hb2⟩; have hs2 := HE.out s2 hq2; subst hs2; rw [HCN.out] at hv2; have p2 := HK0.out w2 hb2; have HV2 := hide hv2; have HC2 := hide hb2; have HB2 := hide (HB1.out.trans (hb2.mono w1s)); clear hb2 hv2 hq2 c0 c1 c2 c3 c4)
    obtain ⟨c0, c1, c2, c3, c4⟩ := p2
    have l2 : h5 < w2.heap.size := by have := HC2.out.size; omega
    go_wp2
    go_ret
    first | exact ⟨_, [], rfl, HQ.out, HV2.out, HB2.out⟩ | exact ⟨_, rfl, [], HQ.out, HV2.out, HB2.out⟩
  obtain ⟨bn, rfl⟩ : ∃ n : Nat, b = (n : Int) := ⟨b.toNat, by omega⟩
  obtain ⟨k, rfl⟩ : ∃ n : Nat, i = (n : Int) := ⟨i.toNat, by omega⟩
  obtain ⟨l, hl⟩ : ∃ l, f.blocks[bn]? = some l := ⟨_, List.getElem?_eq_getElem (by omega)⟩
  have hcl : codeOf f bn = l := by unfold codeOf; rw [hl]; rfl
  have hb4 : ¬ (bn : Int) ≥ (ls : Int) := by omega
  have hb5 : (bn : Int) < (ls : Int) := by omega
  have hb6 : (0 : Int) ≤ (bn : Int) := by omega
  obtain ⟨bb, ob, Al, cl, hAs, hbb, d0', hli⟩ := (HBL.out w (Below.refl _ _)).get hl
  subst hAs
  have hbbw : bb < w.heap.size := by have : bb < B := hbb; omega
  have hz := sizeN_nat hl
  obtain ⟨ll, hll⟩ : ∃ ll, l.length = ll := ⟨_, rfl⟩
  rw [hll] at d0' hz
  have HDC := hide (fun (W : World) (hW : Below w.heap.size w W) => (World.cell?_of_block (a := ⟨bb, ob + bn, none⟩) (hW.block bb hbbw)).trans d0')
  by_cases h5l : (ll : Int) ≤ (k : Int)
  case pos =>
    have hh : hereB f (bn : Int) (k : Int) = false := by
      unfold hereB
      rw [hz]; first | (simp; done) | (simp; omega)
    have HQ := hide (show AcrQ f (bn : Int) (k : Int) [] by unfold AcrQ; rw [if_neg (by rw [hh]; simp)])
    have HE := hide (fun s (hs : LvQ f 1 (bn : Int) (k : Int) s) => (show s = [] by unfold LvQ at hs; rw [if_neg (by rw [hh]; simp)] at hs; exact hs))
    have HCN := hide (close_none f)
    have hk4 : (k : Int) ≥ (ll : Int) := h5l
    rw [hls] at HBH hcs ⊢
    obtain ⟨P, hP⟩ : ∃ P : List Nat → Prop, AcrQ f (bn : Int) (k : Int) = P := ⟨_, rfl⟩
    rw [hP] at HQ ⊢
    clear hi h hσ hh hls HBL hP hl hcl hli hll hz d0'
    generalize f.kinds.length = lk, f.base.length = lb, f.params = fp, f.result = fr at *
    go_enter Tryd.func22, Tryd.ntmps22
    go_upto_region 1 with (fail)
    obtain ⟨w1, hw1⟩ : ∃ w1, w1 = w.alloc (.cells #[.slice Ak lk ck, .slice Ab lb cb, .int .i64 fp, .int .i64 fr, .slice (some ⟨bb, ob, none⟩) ls cs] 30) := ⟨_, rfl⟩
    obtain ⟨h5, hh5⟩ : ∃ h5, w.heap.size = h5 := ⟨_, rfl⟩
    have HX0 := hide (show Box w1 (h5) #[.slice Ak lk ck, .slice Ab lb cb, .int .i64 fp, .int .i64 fr, .slice (some ⟨bb, ob, none⟩) ls cs] 30 by rw [hw1, ← hh5]; exact Box.new w _ _)
    have HB1 := hide (show Below w.heap.size w w1 by rw [hw1]; exact alloc1 w _)
    have w1s := HB1.out.size
    have HK0 := hide (fun (W : World) (hW : Below w1.heap.size w1 W) => (And.intro ((HX0.out.below hW).cell 0 (v := .slice Ak lk ck) rfl).1 (And.intro ((HX0.out.below hW).cell 1 (v := .slice Ab lb cb) rfl).1 (And.intro ((HX0.out.below hW).cell 2 (v := .int .i64 fp) rfl).1 (And.intro ((HX0.out.below hW).cell 3 (v := .int .i64 fr) rfl).1 ((HX0.out.below hW).cell 4 (v := .slice (some ⟨bb, ob, none⟩) ls cs) rfl).1)))))
    have lHX0 := HX0.out.lt
    rw [← hw1, hh5]
    clear hw1 hh5
    obtain ⟨c0, c1, c2, c3, c4⟩ := HK0.out w1 (Below.refl _ _)
    go_upto_region 2 with (go_at_call 26; (with_reducible refine (HBH.out w1 HB1.out).mono ?_); rintro e w2 ⟨r2, s2, rfl, hq2, hv2, hb2⟩; have hs2 := HE.out s2 hq2; subst hs2; rw [HCN.out] at hv2; have p2 := HK0.out w2 hb2; have HV2 := hide hv2; have HC2 := hide hb2; have HB2 := hide (HB1.out.trans (hb2.mono w1s)); clear hb2 hv2 hq2 c0 c1 c2 c3 c4)
    obtain ⟨c0, c1, c2, c3, c4⟩ := p2
    have l2 : h5 < w2.heap.size := by have := HC2.out.size; omega
    have d2 := HDC.out w2 HB2.out
    have lb2 : bb < w2.heap.size := by have := HB2.out.size; omega
    go_wp2
    go_ret
    first | exact ⟨_, [], rfl, HQ.out, HV2.out, HB2.out⟩ | exact ⟨_, rfl, [], HQ.out, HV2.out, HB2.out⟩
  have hkl : k < ll := by omega
  obtain ⟨x, hx⟩ : ∃ x, l[k]? = some x := ⟨_, List.getElem?_eq_getElem (by omega)⟩
  have hh : hereB f (bn : Int) (k : Int) = true := by
    unfold hereB
    rw [hz]
    simp
    omega
  have HQ := hide (fun s (hs : LvQ f 1 (bn : Int) (k : Int) s) => (show AcrQ f (bn : Int) (k : Int) (if hasB4 x.op 68 = true then withoutL (closeL f s) [x.d] else closeL f s) by unfold AcrQ; rw [if_pos hh]; exact ⟨s, x, hs, by rw [Int.toNat_natCast, Int.toNat_natCast, hcl]; exact hx, rfl⟩))
  obtain ⟨bq, oq, Ax, cx, hAl, hbq, gg, hxi⟩ := hli.get hx
  subst hAl
  have hbqw : bq < w.heap.size := by have : bq < B := hbq; omega
  obtain ⟨lx, hlx⟩ : ∃ lx, x.args.length = lx := ⟨_, rfl⟩
  rw [hlx] at gg
  have HGC := hide (fun (W : World) (hW : Below w.heap.size w W) => (show (W.cell? ⟨bq, oq + k * 7, none⟩ = some (.int .i64 x.op) ∧ W.cell? ⟨bq, oq + k * 7 + 1, none⟩ = some (.int .i64 x.d) ∧ W.cell? ⟨bq, oq + k * 7 + 2, none⟩ = some (.int .i64 x.a) ∧ W.cell? ⟨bq, oq + k * 7 + 3, none⟩ = some (.int .i64 x.b) ∧ W.cell? ⟨bq, oq + k * 7 + 4, none⟩ = some (.int .i64 x.n) ∧ W.cell? ⟨bq, oq + k * 7 + 5, none⟩ = some (.int .i64 x.m) ∧ W.cell? ⟨bq, oq + k * 7 + 6, none⟩ = some (.slice Ax lx cx)) from
    ⟨(World.cell?_of_block (hW.block bq hbqw)).trans gg.1, (World.cell?_of_block (hW.block bq hbqw)).trans gg.2.1, (World.cell?_of_block (hW.block bq hbqw)).trans gg.2.2.1, (World.cell?_of_block (hW.block bq hbqw)).trans gg.2.2.2.1, (World.cell?_of_block (hW.block bq hbqw)).trans gg.2.2.2.2.1, (World.cell?_of_block (hW.block bq hbqw)).trans gg.2.2.2.2.2.1, (World.cell?_of_block (hW.block bq hbqw)).trans gg.2.2.2.2.2.2⟩))
  have HSX := hide (fun (W : World) => sets4_any x Ax lx cx W)
  have hdR := hide hxi.2.2.1
  have HWO := hide (fun (s : List Nat) (W : World) (v : Value) (z : Int) (hz : i64R z) (h : SetV W v (closeL f s)) => (show Calls Tryd.prog 51 #[v, .slice (some ⟨W.heap.size, 0, none⟩) 1 1] (W.alloc (.cells #[.int .i64 z] 3)) fun e w' => ∃ r, e = .returned r ∧ SetV w' r (withoutL (closeL f s) [z]) ∧ Below W.heap.size W w' by
    have t := rwithoutV (h.below (alloc1 W (.cells #[.int .i64 z] 3))) (by have := (closeL_ok f s).1; omega) (closeL_ok f s).2 _ 1 1 [z] (one_lit12 W z) rfl (by omega) (by intro y hy; simp at hy; subst hy; exact hz)
    exact t.mono fun e w' ⟨r, h1, h2, h3⟩ => ⟨r, h1, h2, (alloc1 W _).trans (h3.mono (by rw [World.size_alloc]; omega))⟩))
  have hk0 : (0 : Int) ≤ (k : Int) := by omega
  have hk1 : (k : Int) < (ll : Int) := by omega
  have hk2 : ¬ (k : Int) ≥ (ll : Int) := by omega
  rw [hls] at HBH hcs ⊢
  obtain ⟨P, hP⟩ : ∃ P : List Nat → Prop, AcrQ f (bn : Int) (k : Int) = P := ⟨_, rfl⟩
  rw [hP] at HQ ⊢
  clear hi h hσ hh hls HBL hP hcl hl hli hll hz d0' hlx hx gg hxi h5l
  generalize f.kinds.length = lk, f.base.length = lb, f.params = fp, f.result = fr at *
  obtain ⟨bd, hbd⟩ : ∃ bd, hasB4 x.op 68 = bd := ⟨_, rfl⟩
  rw [hbd] at HSX HQ
  clear hbd
  generalize x.op = xop, x.d = xd, x.a = xa, x.b = xb, x.n = xn, x.m = xm at *
  go_enter Tryd.func22, Tryd.ntmps22
  go_upto_region 1 with (fail)
  obtain ⟨w1, hw1⟩ : ∃ w1, w1 = w.alloc (.cells #[.slice Ak lk ck, .slice Ab lb cb, .int .i64 fp, .int .i64 fr, .slice (some ⟨bb, ob, none⟩) ls cs] 30) := ⟨_, rfl⟩
  obtain ⟨h5, hh5⟩ : ∃ h5, w.heap.size = h5 := ⟨_, rfl⟩
  have HX0 := hide (show Box w1 (h5) #[.slice Ak lk ck, .slice Ab lb cb, .int .i64 fp, .int .i64 fr, .slice (some ⟨bb, ob, none⟩) ls cs] 30 by rw [hw1, ← hh5]; exact Box.new w _ _)
  have HB1 := hide (show Below w.heap.size w w1 by rw [hw1]; exact alloc1 w _)
  have w1s := HB1.out.size
  have HK0 := hide (fun (W : World) (hW : Below w1.heap.size w1 W) => (And.intro ((HX0.out.below hW).cell 0 (v := .slice Ak lk ck) rfl).1 (And.intro ((HX0.out.below hW).cell 1 (v := .slice Ab lb cb) rfl).1 (And.intro ((HX0.out.below hW).cell 2 (v := .int .i64 fp) rfl).1 (And.intro ((HX0.out.below hW).cell 3 (v := .int .i64 fr) rfl).1 ((HX0.out.below hW).cell 4 (v := .slice (some ⟨bb, ob, none⟩) ls cs) rfl).1)))))
  have lHX0 := HX0.out.lt
  rw [← hw1, hh5]
  clear hw1 hh5
  obtain ⟨c0, c1, c2, c3, c4⟩ := HK0.out w1 (Below.refl _ _)
  go_upto_region 2 with (go_at_call 26; (with_reducible refine (HBH.out w1 HB1.out).mono ?_); rintro e w2 ⟨r2, s2, rfl, hq2, hv2, hb2⟩; obtain ⟨A2, k2, hr2, -⟩ := id hv2; obtain ⟨n2, hn2⟩ : ∃ n, (closeL f s2).length = n := ⟨_, rfl⟩; rw [hn2] at hr2; subst hr2; clear hn2; have p2 := HK0.out w2 hb2; have HQ2 := hide hq2; have HV2 := hide hv2; have HC2 := hide hb2; have HB2 := hide (HB1.out.trans (hb2.mono w1s)); clear hb2 hv2 hq2 c0 c1 c2 c3 c4)
  obtain ⟨c0, c1, c2, c3, c4⟩ := p2
  have l2 : h5 < w2.heap.size := by have := HC2.out.size; omega
  have d2 := HDC.out w2 HB2.out
  have lb2 : bb < w2.heap.size := by have := HB2.out.size; omega
  have lq2 : bq < w2.heap.size := by have := HB2.out.size; omega
  obtain ⟨g0, g1, g2, g3, g4, g5, g6⟩ := HGC.out w2 HB2.out
  cases bd with
  | false =>
    go_wp2_with (go_at_call 50; refine (HSX.out w2).mono ?_; rintro e w4 ⟨rfl, hb4⟩; have HB4 := hide (HB2.out.trans (hb4.mono HB2.out.size)); have HV4 := hide (HV2.out.below hb4); clear hb4)
    go_ret
    exact ⟨_, closeL f s2, rfl, HQ.out s2 HQ2.out, HV4.out, HB4.out⟩
  | true =>
    go_wp2_with (first
      | (go_at_call 51; refine (HWO.out s2 w4 _ xd hdR.out HV4.out).mono ?_; rintro e w5 ⟨r5, rfl, hv5, hb5⟩; have HV5 := hide hv5; have HB5 := hide (HB4.out.trans (hb5.mono HB4.out.size)); clear hv5 hb5)
      | (go_at_call 50; refine (HSX.out w2).mono ?_; rintro e w4 ⟨rfl, hb4⟩; have HB4 := hide (HB2.out.trans (hb4.mono HB2.out.size)); have HV4 := hide (HV2.out.below hb4); clear hb4))
    go_ret
    exact ⟨r5, _, rfl, HQ.out s2 HQ2.out, HV5.out, HB5.out⟩
end Go.Proofs.YtbofnlaacjgclaaDoor
