/- Layer 12, the program: there, Ahead, Behind, Across. Condition: the table of parts reads as listed. -/
import Derived.Test.YtehboglielnjbaaGreatDoorPlEB
set_option linter.unusedSimpArgs false
set_option linter.unusedVariables false
namespace Go.Proofs.YtehboglielnjbaaGreatDoor
open Go.RowKit

set_option maxHeartbeats 1000000 in
set_option maxRecDepth 100000 in
theorem kp_there_any (vk vb vs : Value) (f : FunV) (b i : Int) (w : World) (B : Nat) (hB : B ≤ w.heap.size) (hi : FunI w (· < B) vk vb vs f) :
    Calls Tryz.prog 43 #[.agg #[vk, vb, .int .i64 f.params, .int .i64 f.result, vs], .int .i64 b, .int .i64 i] w fun e w' => e = .returned (.bool (hereB f b i)) ∧ Below w.heap.size w w' := by
  have HBL := hide (fun (W : World) (hW : Below w.heap.size w W) => hi.2.2.1.keep (up hW hB) (fun _ h => h))
  obtain ⟨Ak, ck, rfl, hck, hmk⟩ := hi.1.open'
  obtain ⟨Ab, cb, rfl, hcb, hmb⟩ := hi.2.1.open'
  obtain ⟨As, cs, rfl, hcs, hms⟩ := hi.2.2.1.open'
  obtain ⟨ls, hls2⟩ : ∃ ls, f.blocks.length = ls := ⟨_, rfl⟩
  by_cases hbo : b < 0 ∨ (ls : Int) ≤ b
  · have hz : hereB f b i = false := by
      unfold hereB
      rw [sizeN_out (by rw [hls2]; exact hbo)]
      rw [Bool.and_eq_false_iff]
      by_cases h : 0 ≤ i
      · right; simp; omega
      · left; simp; omega
    rw [hz]
    rw [hls2] at hcs ⊢
    clear hi hls2 hz HBL
    generalize f.kinds.length = lk, f.base.length = lb, f.params = fp, f.result = fr at *
    rcases hbo with h1 | h1
    · have hd : decide (0 ≤ b) = false := by simp; omega
      have hn : ¬ 0 ≤ b := by omega
      go_enter Tryz.func43, Tryz.ntmps43
      go_wp2
      go_ret
      exact ⟨by simp, alloc1 w _⟩
    · have hd : decide (0 ≤ b) = true := by simp; omega
      have hd2 : decide (b < (ls : Int)) = false := by simp; omega
      have hn : 0 ≤ b := by omega
      have hn2 : ¬ b < (ls : Int) := by omega
      go_enter Tryz.func43, Tryz.ntmps43
      go_wp2
      go_ret
      exact ⟨by simp, alloc1 w _⟩
  obtain ⟨bn, rfl⟩ : ∃ n : Nat, b = (n : Int) := ⟨b.toNat, by omega⟩
  have hbl : bn < ls := by omega
  obtain ⟨l, hl⟩ : ∃ l, f.blocks[bn]? = some l := ⟨_, List.getElem?_eq_getElem (by omega)⟩
  unfold hereB
  rw [sizeN_nat hl]
  rw [hls2] at HBL hcs ⊢
  obtain ⟨bb, ob, Al, cl, hAs, hbb, d0, -⟩ := (HBL.out (w.alloc (.cells #[.slice Ak f.kinds.length ck, .slice Ab f.base.length cb, .int .i64 f.params, .int .i64 f.result, .slice As ls cs] 32)) (alloc1 w _)).get hl
  subst hAs
  obtain ⟨ll, hll⟩ : ∃ ll, l.length = ll := ⟨_, rfl⟩
  rw [hll] at d0 ⊢
  clear hi hls2 HBL hl hll hbo
  generalize f.kinds.length = lk, f.base.length = lb, f.params = fp, f.result = fr at *
  have hb0 : (0 : Int) ≤ (bn : Int) := by omega
  have hb1 : (bn : Int) < (ls : Int) := by omega
  by_cases h0 : 0 ≤ i
  · have hd : decide (0 ≤ i) = true := by simpa using h0
    rw [hd]
    go_enter Tryz.func43, Tryz.ntmps43
    go_wp2
    go_ret
    exact ⟨by simp, alloc1 w _⟩
  · have hd : decide (0 ≤ i) = false := by simpa using h0
    rw [hd]
    go_enter Tryz.func43, Tryz.ntmps43
    go_wp2
    go_ret
    exact ⟨by simp, alloc1 w _⟩
set_option maxHeartbeats 1000000 in
set_option maxRecDepth 100000 in
theorem kp_ahead_any (vk vb vs : Value) (f : FunV) (b i : Int) (w : World) (B : Nat) (hB : B ≤ w.heap.size) (hi : FunI w (· < B) vk vb vs f) (hT : TabP w) (hok : FlowOk f) (hne : ∀ c, c < f.blocks.length → codeOf f c ≠ []) (hfew : ∀ l ∈ f.blocks, ∀ x ∈ l, x.args.length ≤ 1099511627000) (hk : f.kinds.length ≤ 1000) :
    Calls Tryz.prog 10 #[.agg #[vk, vb, .int .i64 f.params, .int .i64 f.result, vs], .int .i64 b, .int .i64 i] w fun e w' => ∃ r s, e = .returned r ∧ LvQ f 0 b i s ∧ WN w w' r (closeL f s) ∧ Below w.heap.size w w' := by
  have HAH := hide (fun (W : World) (hW : Below w.heap.size w W) => ahead_any vk vb vs f b i W B (by have := hW.size; omega) (hi.keep (up hW hB) (fun _ h => h)) (hT.below hW hT.1) hok hne hfew)
  have HOK := hide (fun s (h : LvQ f 0 b i s) => LvQ.ok hok h)
  have HCL := hide (fun (W : World) (hW : Below w.heap.size w W) (v : Value) (s : List Nat) (hv : SetV W v s) (hs : SetOk s) => close_any vk vb vs f v s W B (by have := hW.size; omega) (hi.keep (up hW hB) (fun _ h => h)) hk hv (by have := hs.1; omega) hs.2)
  obtain ⟨Ak, ck, rfl, hck, hmk⟩ := hi.1.open'
  obtain ⟨Ab, cb, rfl, hcb, hmb⟩ := hi.2.1.open'
  obtain ⟨As, cs, rfl, hcs, hms⟩ := hi.2.2.1.open'
  obtain ⟨P, hP⟩ : ∃ P : List Nat → Prop, LvQ f 0 b i = P := ⟨_, rfl⟩
  simp only [hP] at HAH HOK ⊢
  clear hi hT hok hne hfew hP hk
  generalize f.kinds.length = lk, f.base.length = lb, f.blocks.length = ls, f.params = fp, f.result = fr at *
  go_enter Tryz.func10, Tryz.ntmps10
  go_upto_region 1 with (fail)
  obtain ⟨w1, hw1⟩ : ∃ w1, w1 = w.alloc (.cells #[.slice Ak lk ck, .slice Ab lb cb, .int .i64 fp, .int .i64 fr, .slice As ls cs] 32) := ⟨_, rfl⟩
  obtain ⟨h5, hh5⟩ : ∃ h5, w.heap.size = h5 := ⟨_, rfl⟩
  have HX0 := hide (show Box w1 (h5) #[.slice Ak lk ck, .slice Ab lb cb, .int .i64 fp, .int .i64 fr, .slice As ls cs] 32 by rw [hw1, ← hh5]; have t := Box.new w #[.slice Ak lk ck, .slice Ab lb cb, .int .i64 fp, .int .i64 fr, .slice As ls cs] 32; (try simp only [World.size_alloc] at t); exact t)
  have HB1 := hide (show Below w.heap.size w w1 by rw [hw1]; exact ((Below.refl _ _).alloc (Nat.le_refl _) _))
  have w1s := HB1.out.size
  have w1z := hide (show w1.heap.size = h5 + 1 by rw [hw1, ← hh5]; simp only [World.size_alloc])
  have HK0 := hide (fun (W : World) (hW : Below w1.heap.size w1 W) => (And.intro ((HX0.out.below hW).cell 0 (v := .slice Ak lk ck) rfl).1 (And.intro ((HX0.out.below hW).cell 1 (v := .slice Ab lb cb) rfl).1 (And.intro ((HX0.out.below hW).cell 2 (v := .int .i64 fp) rfl).1 (And.intro ((HX0.out.below hW).cell 3 (v := .int .i64 fr) rfl).1 ((HX0.out.below hW).cell 4 (v := .slice As ls cs) rfl).1)))))
  have lHX0 := HX0.out.lt
  have h5g : w.heap.size ≤ h5 := by omega
  rw [← hw1, hh5]
  clear hw1 hh5
  obtain ⟨c0, c1, c2, c3, c4⟩ := HK0.out w1 (Below.refl _ _)
  go_region_held3 (fun w' => w'.cell? ⟨h5, 0, none⟩ = some (.slice Ak lk ck) ∧ w'.cell? ⟨h5, 1, none⟩ = some (.slice Ab lb cb) ∧ w'.cell? ⟨h5, 2, none⟩ = some (.int .i64 fp) ∧ w'.cell? ⟨h5, 3, none⟩ = some (.int .i64 fr) ∧ w'.cell? ⟨h5, 4, none⟩ = some (.slice As ls cs)) (first | go_keep | (exact q3) | (exact q2))
    (first
      | (go_at_call 31; refine (HCL.out w2 HB2.out r2 s2 HV2.out (HOK.out s2 HS2.out)).mono ?_; rintro e w3 ⟨r3, rfl, hw3, hb3⟩; have hc3 := HC2.out.trans (hb3.mono HC2.out.size); have q3 := HK0.out w3 hc3; have HW3 := hide (hw3.lower HB2.out.size); have HB3 := hide (HB1.out.trans (hc3.mono HB1.out.size)); clear hw3 hb3 hc3)
      | (go_at_call 32; refine (HAH.out (w1.drewN 1) (below_drewN HB1.out 1)).mono ?_; rintro e w2 ⟨r2, s2, rfl, hs2, hv2, hb2⟩; have hc2 : Below w1.heap.size w1 w2 := ⟨hb2.os, hb2.tape, hb2.output, hb2.size, hb2.block⟩; have q2 := HK0.out w2 hc2; have HS2 := hide hs2; have HV2 := hide hv2; have HC2 := hide hc2; have HB2 := hide (HB1.out.trans (hc2.mono HB1.out.size)); clear hs2 hv2 hb2 hc2))
  go_wp2
  go_ret
  exact ⟨r3, s2, rfl, HS2.out, HW3.out, HB3.out⟩
set_option maxHeartbeats 1000000 in
set_option maxRecDepth 100000 in
theorem kp_behind_any (vk vb vs : Value) (f : FunV) (b i : Int) (w : World) (B : Nat) (hB : B ≤ w.heap.size) (hi : FunI w (· < B) vk vb vs f) (hT : TabP w) (hok : FlowOk f) (hne : ∀ c, c < f.blocks.length → codeOf f c ≠ []) (hfew : ∀ l ∈ f.blocks, ∀ x ∈ l, x.args.length ≤ 1099511627000) (hk : f.kinds.length ≤ 1000) :
    Calls Tryz.prog 15 #[.agg #[vk, vb, .int .i64 f.params, .int .i64 f.result, vs], .int .i64 b, .int .i64 i] w fun e w' => ∃ r s, e = .returned r ∧ LvQ f 1 b i s ∧ WN w w' r (closeL f s) ∧ Below w.heap.size w w' := by
  have HAH := hide (fun (W : World) (hW : Below w.heap.size w W) => behind_any vk vb vs f b i W B (by have := hW.size; omega) (hi.keep (up hW hB) (fun _ h => h)) (hT.below hW hT.1) hok hne hfew)
  have HOK := hide (fun s (h : LvQ f 1 b i s) => LvQ.ok hok h)
  have HCL := hide (fun (W : World) (hW : Below w.heap.size w W) (v : Value) (s : List Nat) (hv : SetV W v s) (hs : SetOk s) => close_any vk vb vs f v s W B (by have := hW.size; omega) (hi.keep (up hW hB) (fun _ h => h)) hk hv (by have := hs.1; omega) hs.2)
  obtain ⟨Ak, ck, rfl, hck, hmk⟩ := hi.1.open'
  obtain ⟨Ab, cb, rfl, hcb, hmb⟩ := hi.2.1.open'
  obtain ⟨As, cs, rfl, hcs, hms⟩ := hi.2.2.1.open'
  obtain ⟨P, hP⟩ : ∃ P : List Nat → Prop, LvQ f 1 b i = P := ⟨_, rfl⟩
  simp only [hP] at HAH HOK ⊢
  clear hi hT hok hne hfew hP hk
  generalize f.kinds.length = lk, f.base.length = lb, f.blocks.length = ls, f.params = fp, f.result = fr at *
  go_enter Tryz.func15, Tryz.ntmps15
  go_upto_region 1 with (fail)
  obtain ⟨w1, hw1⟩ : ∃ w1, w1 = w.alloc (.cells #[.slice Ak lk ck, .slice Ab lb cb, .int .i64 fp, .int .i64 fr, .slice As ls cs] 32) := ⟨_, rfl⟩
  obtain ⟨h5, hh5⟩ : ∃ h5, w.heap.size = h5 := ⟨_, rfl⟩
  have HX0 := hide (show Box w1 (h5) #[.slice Ak lk ck, .slice Ab lb cb, .int .i64 fp, .int .i64 fr, .slice As ls cs] 32 by rw [hw1, ← hh5]; have t := Box.new w #[.slice Ak lk ck, .slice Ab lb cb, .int .i64 fp, .int .i64 fr, .slice As ls cs] 32; (try simp only [World.size_alloc] at t); exact t)
  have HB1 := hide (show Below w.heap.size w w1 by rw [hw1]; exact ((Below.refl _ _).alloc (Nat.le_refl _) _))
  have w1s := HB1.out.size
  have w1z := hide (show w1.heap.size = h5 + 1 by rw [hw1, ← hh5]; simp only [World.size_alloc])
  have HK0 := hide (fun (W : World) (hW : Below w1.heap.size w1 W) => (And.intro ((HX0.out.below hW).cell 0 (v := .slice Ak lk ck) rfl).1 (And.intro ((HX0.out.below hW).cell 1 (v := .slice Ab lb cb) rfl).1 (And.intro ((HX0.out.below hW).cell 2 (v := .int .i64 fp) rfl).1 (And.intro ((HX0.out.below hW).cell 3 (v := .int .i64 fr) rfl).1 ((HX0.out.below hW).cell 4 (v := .slice As ls cs) rfl).1)))))
  have lHX0 := HX0.out.lt
  have h5g : w.heap.size ≤ h5 := by omega
  rw [← hw1, hh5]
  clear hw1 hh5
  obtain ⟨c0, c1, c2, c3, c4⟩ := HK0.out w1 (Below.refl _ _)
  go_region_held3 (fun w' => w'.cell? ⟨h5, 0, none⟩ = some (.slice Ak lk ck) ∧ w'.cell? ⟨h5, 1, none⟩ = some (.slice Ab lb cb) ∧ w'.cell? ⟨h5, 2, none⟩ = some (.int .i64 fp) ∧ w'.cell? ⟨h5, 3, none⟩ = some (.int .i64 fr) ∧ w'.cell? ⟨h5, 4, none⟩ = some (.slice As ls cs)) (first | go_keep | (exact q3) | (exact q2))
    (first
      | (go_at_call 31; refine (HCL.out w2 HB2.out r2 s2 HV2.out (HOK.out s2 HS2.out)).mono ?_; rintro e w3 ⟨r3, rfl, hw3, hb3⟩; have hc3 := HC2.out.trans (hb3.mono HC2.out.size); have q3 := HK0.out w3 hc3; have HW3 := hide (hw3.lower HB2.out.size); have HB3 := hide (HB1.out.trans (hc3.mono HB1.out.size)); clear hw3 hb3 hc3)
      | (go_at_call 41; refine (HAH.out (w1.drewN 1) (below_drewN HB1.out 1)).mono ?_; rintro e w2 ⟨r2, s2, rfl, hs2, hv2, hb2⟩; have hc2 : Below w1.heap.size w1 w2 := ⟨hb2.os, hb2.tape, hb2.output, hb2.size, hb2.block⟩; have q2 := HK0.out w2 hc2; have HS2 := hide hs2; have HV2 := hide hv2; have HC2 := hide hc2; have HB2 := hide (HB1.out.trans (hc2.mono HB1.out.size)); clear hs2 hv2 hb2 hc2))
  go_wp2
  go_ret
  exact ⟨r3, s2, rfl, HS2.out, HW3.out, HB3.out⟩
end Go.Proofs.YtehboglielnjbaaGreatDoor
