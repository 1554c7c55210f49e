/- Layer 9, the program: contracts of put, Load, Ref, Store, Link. No condition but on lengths. -/
import Derived.Test.YtjlndibeaklcdaaHE
set_option linter.unusedSimpArgs false
set_option linter.unusedVariables false
namespace Go.Proofs.Ytjlndibeaklcdaa
open Go.RowKit

set_option maxHeartbeats 1000000 in
set_option maxRecDepth 100000 in
theorem hput_any (vh : Value) (h : List ObjV) (k : Nat) (o : ObjV) (vr vi : Value) (w : World) (S : Nat → Prop) (hS : ∀ b, S b → b < w.heap.size) (hh : ObjsV w S vh h) (hk : k < h.length) (ho : ObjI w S vr vi o) (hmx : h.length ≤ 100000) :
    Calls Try.prog 33 #[.agg #[vh], .int .i64 ((k : Int) + 1), .agg #[vr, vi]] w fun e w' => ∃ A c, e = .returned (.agg #[.slice A h.length c]) ∧ ObjsV w' (fun b => S b ∨ Made w w' b) (.slice A h.length c) (h.set k o) ∧ Below w.heap.size w w' := by
  have HCL := hide (fun (W : World) (hW : Below w.heap.size w W) => hclone_any vh h W S (fun b hb => Nat.lt_of_lt_of_le (hS b hb) hW.size) (hh.keep (upS hW hS) (fun _ h => h)) hmx)
  have HOK := hide (fun (W : World) (hW : Below w.heap.size w W) => (show ObjOk W (fun b => S b ∨ Made w W b) (o, vr, vi) from ObjI.keep ho (upS hW hS) (fun b hb => .inl hb)))
  have HON := hide (show vr.oneCell' = true ∧ vi.oneCell' = true from by
    obtain ⟨⟨A, c, e, -⟩, ⟨A', c', e', -⟩⟩ := ho
    rw [e, e']
    exact ⟨rfl, rfl⟩)
  obtain ⟨Ao, c, rfl, hc, hm⟩ := hh.open'
  obtain ⟨n, hn⟩ : ∃ n, h.length = n := ⟨_, rfl⟩
  have HN := hide hn
  obtain ⟨Ar, cr, rfl, -, -⟩ := ho.1.open'
  obtain ⟨Ai, ci, rfl, -, -⟩ := ho.2.open'
  rw [hn] at HCL hc hk hmx ⊢
  clear hh hn ho
  generalize o.refs.length = rl, o.ints.length = il at *
  have hp1 := i64_pred k (by omega)
  have hki : (0 : Int) ≤ (k : Int) := by omega
  have hkl : (k : Int) < (n : Int) := by omega
  go_enter Try.func33, Try.ntmps33
  go_upto_region 1 with (fail)
  obtain ⟨w1, hw1⟩ : ∃ w1, w1 = ((w.alloc (.cells #[.slice Ao n c] 24)).alloc (.cells #[.slice Ar rl cr, .slice Ai il ci] 43)).alloc (.cells #[.slice none 0 0] 24) := ⟨_, rfl⟩
  obtain ⟨h5, hh5⟩ : ∃ h5, w.heap.size = h5 := ⟨_, rfl⟩
  have HX0 := hide (show Box w1 (h5) #[.slice Ao n c] 24 by rw [hw1, ← hh5]; have t := Box.new w #[.slice Ao n c] 24; (try simp only [World.size_alloc] at t); exact ((t.alloc _).alloc _))
  have HX1 := hide (show Box w1 (h5 + 1) #[.slice Ar rl cr, .slice Ai il ci] 43 by rw [hw1, ← hh5]; have t := Box.new (w.alloc (.cells #[.slice Ao n c] 24)) #[.slice Ar rl cr, .slice Ai il ci] 43; (try simp only [World.size_alloc] at t); exact (t.alloc _))
  have HX2 := hide (show Box w1 (h5 + 1 + 1) #[.slice none 0 0] 24 by rw [hw1, ← hh5]; have t := Box.new ((w.alloc (.cells #[.slice Ao n c] 24)).alloc (.cells #[.slice Ar rl cr, .slice Ai il ci] 43)) #[.slice none 0 0] 24; (try simp only [World.size_alloc] at t); exact t)
  have HB1 := hide (show Below w.heap.size w w1 by rw [hw1]; exact ((((Below.refl _ _).alloc (Nat.le_refl _) _).alloc (by simp only [World.size_alloc]; omega) _).alloc (by simp only [World.size_alloc]; omega) _))
  have w1s := HB1.out.size
  have w1z := hide (show w1.heap.size = h5 + 1 + 1 + 1 by rw [hw1, ← hh5]; simp only [World.size_alloc])
  have HK0 := hide (fun (W : World) (hW : Below w1.heap.size w1 W) => ((HX0.out.below hW).cell 0 (v := .slice Ao n c) rfl).1)
  have lHX0 := HX0.out.lt
  have HK1 := hide (fun (W : World) (hW : Below w1.heap.size w1 W) => (And.intro ((HX1.out.below hW).cell 0 (v := .slice Ar rl cr) rfl).1 ((HX1.out.below hW).cell 1 (v := .slice Ai il ci) rfl).1))
  have lHX1 := HX1.out.lt
  have HK2 := hide (fun (W : World) (hW : Below w1.heap.size w1 W) => ((HX2.out.below hW).cell 0 (v := .slice none 0 0) rfl).1)
  have lHX2 := HX2.out.lt
  have h5g : w.heap.size ≤ h5 := by omega
  rw [← hw1, hh5]
  clear hw1 hh5
  have p0 := HK0.out w1 (Below.refl _ _)
  go_upto_region 2 with (go_at_call 43; (with_reducible refine (HCL.out w1 HB1.out).mono ?_); rintro e w2 ⟨v2, l, rfl, ho2, hl2, hok2, hb2⟩; have HB2 := hide (HB1.out.trans (hb2.mono HB1.out.size)); have HC2 := hide hb2; have HL2 := hide hl2; have HOK2 := hide hok2; have HO2 := hide ho2; obtain ⟨y0, y1⟩ := HK1.out w2 hb2; have l2 := hb2.size; clear hb2 ho2 hl2 hok2)
  have hll : l.length = n := by have := congrArg List.length HL2.out; rw [List.length_map, HN.out] at this; exact this
  have HLL := hide hll
  obtain ⟨g, cap, rfl, hg, hgl, hgc, hgm, hcell⟩ := HO2.out.form (by omega)
  obtain ⟨⟨u0, hu0⟩, f0⟩ := hcell (k * 2) (by omega)
  obtain ⟨⟨u1, hu1⟩, f1⟩ := hcell (k * 2 + 1) (by omega)
  obtain ⟨z0, g0⟩ := (HX2.out.below HC2.out).cell 0 (v := .slice none 0 0) rfl
  rw [hll] at hgc HO2 ⊢
  clear hcell hll p0
  have hgh : g ≠ h5 + 1 + 1 := by have := HB1.out.size; have := HC2.out.size; omega
  have hgh2 : h5 + 1 + 1 ≠ g := fun e => hgh e.symm
  go_wp2
  have hb2x : Box ((w2.setCell ⟨g, k * 2, none⟩ (.slice Ar rl cr)).setCell ⟨g, k * 2 + 1, none⟩ (.slice Ai il ci)) (h5 + 1 + 1) #[.slice none 0 0] 24 := ((HX2.out.below HC2.out).other hgh2).other hgh2
  have HZ := hide (hb2x.set 0 (.slice (some ⟨g, 0, none⟩) n cap))
  have q0 := (HZ.out.cell 0 (v := .slice (some ⟨g, 0, none⟩) n cap) rfl).1
  have ho3 : OwC objC 43 2 ((w2.setCell ⟨g, k * 2, none⟩ (.slice Ar rl cr)).setCell ⟨g, k * 2 + 1, none⟩ (.slice Ai il ci)) w1.heap.size (.slice (some ⟨g, 0, none⟩) n cap) (l.set k (o, .slice Ar rl cr, .slice Ai il ci)) := OwC.put (p := (o, .slice Ar rl cr, .slice Ai il ci)) HO2.out (by have := HLL.out; omega)
  have hbz : Below w.heap.size w (((w2.setCell ⟨g, k * 2, none⟩ (.slice Ar rl cr)).setCell ⟨g, k * 2 + 1, none⟩ (.slice Ai il ci)).setCell ⟨h5 + 1 + 1, 0, none⟩ (.slice (some ⟨g, 0, none⟩) n cap)) :=
    ((HB2.out.setCell (p := ⟨g, k * 2, none⟩) (by show w.heap.size ≤ g; have := HB1.out.size; omega) _).setCell (p := ⟨g, k * 2 + 1, none⟩) (by show w.heap.size ≤ g; have := HB1.out.size; omega) _).setCell (p := ⟨h5 + 1 + 1, 0, none⟩) (by show w.heap.size ≤ h5 + 1 + 1; omega) _
  have hos : OwC objC 43 2 (((w2.setCell ⟨g, k * 2, none⟩ (.slice Ar rl cr)).setCell ⟨g, k * 2 + 1, none⟩ (.slice Ai il ci)).setCell ⟨h5 + 1 + 1, 0, none⟩ (.slice (some ⟨g, 0, none⟩) n cap)) w1.heap.size (.slice (some ⟨g, 0, none⟩) n cap) (l.set k (o, .slice Ar rl cr, .slice Ai il ci)) :=
    ho3.kept fun g' hg' => by
      have : g = g' := by simpa [Value.ownBlock] using hg'
      subst this
      exact heap_setCell_other _ ⟨h5 + 1 + 1, 0, none⟩ g _ (by show g ≠ h5 + 1 + 1; omega)
  refine bodyPost_ret (v := .agg #[.slice (some ⟨g, 0, none⟩) n cap]) (by simp [results, Try.results33, go_sem, q0]) rfl ⟨_, cap, rfl, ?_, hbz⟩
  have hre : (l.set k (o, .slice Ar rl cr, .slice Ai il ci)).map (·.1) = h.set k o := by rw [List.map_set, HL2.out]
  rw [← hre]
  refine objs_vec hos (fun p hp => ?_) (fun b hb => ?_)
  · rcases List.mem_or_eq_of_mem_set hp with hp | rfl
    · exact (HOK2.out p hp).keep (fun b o hb => (upS hbz hS b o hb).trans (upS HB1.out hS b o hb).symm) (fun b hb => .inl hb)
    · exact HOK.out _ hbz
  · have := hos.lt b hb
    exact .inr ⟨by have := this.1; omega, this.2⟩
set_option maxHeartbeats 1000000 in
set_option maxRecDepth 100000 in
theorem hload_any (vh : Value) (h : List ObjV) (obj n : Int) (w : World) (B : Nat) (hB : B ≤ w.heap.size) (hh : ObjsV w (· < B) vh h) (hmx : h.length ≤ 1000000) :
    Calls Try.prog 20 #[.agg #[vh], .int .i64 obj, .int .i64 n] w fun e w' => e = .returned (.tuple #[.int .i64 (loadR h obj n).1, .int .i64 (((loadR h obj n).2 : Nat) : Int)]) ∧ Below w.heap.size w w' := by
  by_cases ha : atN h obj = 0
  · have hv : loadR h obj n = fldR (objO h obj).ints n := by unfold loadR; rw [if_pos ha]
    rw [hv]
    obtain ⟨hr, h1, h2⟩ := atN_zero.1 ha
    obtain ⟨k, rfl⟩ : ∃ k : Nat, obj = (k : Int) + 1 := ⟨(obj - 1).toNat, by omega⟩
    have HOB := hide (fun (W : World) (hW : Below w.heap.size w W) => hobj_yes vh h k W B (by have := hW.size; omega) (hh.keep (up hW hB) (fun _ h => h)) hr (by omega) hmx)
    generalize objO h ((k : Int) + 1) = o at *
    have HFD := hide (fun (v : Value) (W : World) (hx : IntsV W (· < B) v o.ints) (hB : B ≤ W.heap.size) => hfield_any v o.ints n W B hx hB)
    generalize fldR o.ints n = r at *
    obtain ⟨Ao, c, rfl, hc, hm⟩ := hh.open'
    generalize h.length = hl at *
    clear hh ha hv hr h1 h2
    generalize o.refs.length = rl, o.ints.length = il at *
    go_enter Try.func20, Try.ntmps20
    go_upto_region 1 with (fail)
    obtain ⟨w1, hw1⟩ : ∃ w1, w1 = w.alloc (.cells #[.slice Ao hl c] 24) := ⟨_, rfl⟩
    obtain ⟨h5, hh5⟩ : ∃ h5, w.heap.size = h5 := ⟨_, rfl⟩
    have HX0 := hide (show Box w1 (h5) #[.slice Ao hl c] 24 by rw [hw1, ← hh5]; have t := Box.new w #[.slice Ao hl c] 24; (try simp only [World.size_alloc] at t); exact t)
    have HB1 := hide (show Below w.heap.size w w1 by rw [hw1]; exact ((Below.refl _ _).alloc (Nat.le_refl _) _))
    have w1s := HB1.out.size
    have w1z := hide (show w1.heap.size = h5 + 1 by rw [hw1, ← hh5]; simp only [World.size_alloc])
    have HK0 := hide (fun (W : World) (hW : Below w1.heap.size w1 W) => ((HX0.out.below hW).cell 0 (v := .slice Ao hl c) rfl).1)
    have lHX0 := HX0.out.lt
    have h5g : w.heap.size ≤ h5 := by omega
    rw [← hw1, hh5]
    clear hw1 hh5
    have p0 := HK0.out w1 (Below.refl _ _)
    go_upto_region 2 with (go_at_call 31; (with_reducible refine (HOB.out w1 HB1.out).mono ?_); rintro e w2 ⟨Ar, cr, Ai, ci, rfl, hi2, hb2⟩; have HB2 := hide (HB1.out.trans (hb2.mono HB1.out.size)); have HI2 := hide hi2; have l2 := hb2.size; clear hb2 hi2)
    obtain ⟨w3, hw3⟩ : ∃ w3, w3 = w2.alloc (.cells #[.slice Ar rl cr, .slice Ai il ci] 43) := ⟨_, rfl⟩
    obtain ⟨h6, hh6⟩ : ∃ h6, w2.heap.size = h6 := ⟨_, rfl⟩
    have HFX0 := hide (show Box w3 (h6) #[.slice Ar rl cr, .slice Ai il ci] 43 by rw [hw3, ← hh6]; have t := Box.new w2 #[.slice Ar rl cr, .slice Ai il ci] 43; (try simp only [World.size_alloc] at t); exact t)
    have HB3 := hide (show Below w2.heap.size w2 w3 by rw [hw3]; exact ((Below.refl _ _).alloc (Nat.le_refl _) _))
    have w3s := HB3.out.size
    have w3z := hide (show w3.heap.size = h6 + 1 by rw [hw3, ← hh6]; simp only [World.size_alloc])
    have HFK0 := hide (fun (W : World) (hW : Below w3.heap.size w3 W) => (And.intro ((HFX0.out.below hW).cell 0 (v := .slice Ar rl cr) rfl).1 ((HFX0.out.below hW).cell 1 (v := .slice Ai il ci) rfl).1))
    have lHFX0 := HFX0.out.lt
    have h6g : w2.heap.size ≤ h6 := by omega
    rw [← hw3, hh6]
    clear hw3 hh6
    obtain ⟨c0, c1⟩ := HFK0.out w3 (Below.refl _ _)
    have HI3 := hide (HI2.out.2.keep (w' := w3) (Same'.of_below (HB3.out.mono (show B ≤ w2.heap.size by have := HB2.out.size; omega))) (fun _ h => h))
    go_wp2_with (go_at_call 35; (with_reducible refine (HFD.out _ w3 HI3.out (by have := HB2.out.size; omega)).mono ?_); rintro e w' ⟨rfl, rfl⟩)
    go_ret2
    exact ⟨rfl, HB2.out.trans (HB3.out.mono HB2.out.size)⟩
  · have hv : loadR h obj n = (0, atN h obj) := by unfold loadR; rw [if_neg ha]
    rw [hv]
    have HOB := hide (fun (W : World) (hW : Below w.heap.size w W) => hobj_no vh h obj W B (by have := hW.size; omega) (hh.keep (up hW hB) (fun _ h => h)) ha)
    obtain ⟨Ao, c, rfl, hc, hm⟩ := hh.open'
    have hE : (((atN h obj : Nat) : Int) != 0) = true := by simpa using ha
    have hE2 : (((atN h obj : Nat) : Int) == 0) = false := by simpa using ha
    generalize h.length = hl at *
    generalize ((atN h obj : Nat) : Int) = E at *
    clear hh ha hv
    go_enter Try.func20, Try.ntmps20
    go_upto_region 1 with (fail)
    obtain ⟨w1, hw1⟩ : ∃ w1, w1 = w.alloc (.cells #[.slice Ao hl c] 24) := ⟨_, rfl⟩
    obtain ⟨h5, hh5⟩ : ∃ h5, w.heap.size = h5 := ⟨_, rfl⟩
    have HX0 := hide (show Box w1 (h5) #[.slice Ao hl c] 24 by rw [hw1, ← hh5]; have t := Box.new w #[.slice Ao hl c] 24; (try simp only [World.size_alloc] at t); exact t)
    have HB1 := hide (show Below w.heap.size w w1 by rw [hw1]; exact ((Below.refl _ _).alloc (Nat.le_refl _) _))
    have w1s := HB1.out.size
    have w1z := hide (show w1.heap.size = h5 + 1 by rw [hw1, ← hh5]; simp only [World.size_alloc])
    have HK0 := hide (fun (W : World) (hW : Below w1.heap.size w1 W) => ((HX0.out.below hW).cell 0 (v := .slice Ao hl c) rfl).1)
    have lHX0 := HX0.out.lt
    have h5g : w.heap.size ≤ h5 := by omega
    rw [← hw1, hh5]
    clear hw1 hh5
    have p0 := HK0.out w1 (Below.refl _ _)
    go_upto_region 2 with (go_at_call 31; (with_reducible refine (HOB.out w1 HB1.out).mono ?_); rintro e w2 ⟨rfl, hb2⟩; have HB2 := hide (HB1.out.trans (hb2.mono HB1.out.size)); have l2 := hb2.size; clear hb2)
    go_wp2
    go_ret2
    exact ⟨rfl, HB2.out.trans ((below1 w2 _).mono HB2.out.size)⟩
set_option maxHeartbeats 1000000 in
set_option maxRecDepth 100000 in
theorem href_any (vh : Value) (h : List ObjV) (obj n : Int) (w : World) (B : Nat) (hB : B ≤ w.heap.size) (hh : ObjsV w (· < B) vh h) (hmx : h.length ≤ 1000000) :
    Calls Try.prog 22 #[.agg #[vh], .int .i64 obj, .int .i64 n] w fun e w' => e = .returned (.tuple #[.int .i64 (refR h obj n).1, .int .i64 (((refR h obj n).2 : Nat) : Int)]) ∧ Below w.heap.size w w' := by
  by_cases ha : atN h obj = 0
  · have hv : refR h obj n = fldR (objO h obj).refs n := by unfold refR; rw [if_pos ha]
    rw [hv]
    obtain ⟨hr, h1, h2⟩ := atN_zero.1 ha
    obtain ⟨k, rfl⟩ : ∃ k : Nat, obj = (k : Int) + 1 := ⟨(obj - 1).toNat, by omega⟩
    have HOB := hide (fun (W : World) (hW : Below w.heap.size w W) => hobj_yes vh h k W B (by have := hW.size; omega) (hh.keep (up hW hB) (fun _ h => h)) hr (by omega) hmx)
    generalize objO h ((k : Int) + 1) = o at *
    have HFD := hide (fun (v : Value) (W : World) (hx : IntsV W (· < B) v o.refs) (hB : B ≤ W.heap.size) => hfield_any v o.refs n W B hx hB)
    generalize fldR o.refs n = r at *
    obtain ⟨Ao, c, rfl, hc, hm⟩ := hh.open'
    generalize h.length = hl at *
    clear hh ha hv hr h1 h2
    generalize o.refs.length = rl, o.ints.length = il at *
    go_enter Try.func22, Try.ntmps22
    go_upto_region 1 with (fail)
    obtain ⟨w1, hw1⟩ : ∃ w1, w1 = w.alloc (.cells #[.slice Ao hl c] 24) := ⟨_, rfl⟩
    obtain ⟨h5, hh5⟩ : ∃ h5, w.heap.size = h5 := ⟨_, rfl⟩
    have HX0 := hide (show Box w1 (h5) #[.slice Ao hl c] 24 by rw [hw1, ← hh5]; have t := Box.new w #[.slice Ao hl c] 24; (try simp only [World.size_alloc] at t); exact t)
    have HB1 := hide (show Below w.heap.size w w1 by rw [hw1]; exact ((Below.refl _ _).alloc (Nat.le_refl _) _))
    have w1s := HB1.out.size
    have w1z := hide (show w1.heap.size = h5 + 1 by rw [hw1, ← hh5]; simp only [World.size_alloc])
    have HK0 := hide (fun (W : World) (hW : Below w1.heap.size w1 W) => ((HX0.out.below hW).cell 0 (v := .slice Ao hl c) rfl).1)
    have lHX0 := HX0.out.lt
    have h5g : w.heap.size ≤ h5 := by omega
    rw [← hw1, hh5]
    clear hw1 hh5
    have p0 := HK0.out w1 (Below.refl _ _)
    go_upto_region 2 with (go_at_call 31; (with_reducible refine (HOB.out w1 HB1.out).mono ?_); rintro e w2 ⟨Ar, cr, Ai, ci, rfl, hi2, hb2⟩; have HB2 := hide (HB1.out.trans (hb2.mono HB1.out.size)); have HI2 := hide hi2; have l2 := hb2.size; clear hb2 hi2)
    obtain ⟨w3, hw3⟩ : ∃ w3, w3 = w2.alloc (.cells #[.slice Ar rl cr, .slice Ai il ci] 43) := ⟨_, rfl⟩
    obtain ⟨h6, hh6⟩ : ∃ h6, w2.heap.size = h6 := ⟨_, rfl⟩
    have HFX0 := hide (show Box w3 (h6) #[.slice Ar rl cr, .slice Ai il ci] 43 by rw [hw3, ← hh6]; have t := Box.new w2 #[.slice Ar rl cr, .slice Ai il ci] 43; (try simp only [World.size_alloc] at t); exact t)
    have HB3 := hide (show Below w2.heap.size w2 w3 by rw [hw3]; exact ((Below.refl _ _).alloc (Nat.le_refl _) _))
    have w3s := HB3.out.size
    have w3z := hide (show w3.heap.size = h6 + 1 by rw [hw3, ← hh6]; simp only [World.size_alloc])
    have HFK0 := hide (fun (W : World) (hW : Below w3.heap.size w3 W) => (And.intro ((HFX0.out.below hW).cell 0 (v := .slice Ar rl cr) rfl).1 ((HFX0.out.below hW).cell 1 (v := .slice Ai il ci) rfl).1))
    have lHFX0 := HFX0.out.lt
    have h6g : w2.heap.size ≤ h6 := by omega
    rw [← hw3, hh6]
    clear hw3 hh6
    obtain ⟨c0, c1⟩ := HFK0.out w3 (Below.refl _ _)
    have HI3 := hide (HI2.out.1.keep (w' := w3) (Same'.of_below (HB3.out.mono (show B ≤ w2.heap.size by have := HB2.out.size; omega))) (fun _ h => h))
    go_wp2_with (go_at_call 35; (with_reducible refine (HFD.out _ w3 HI3.out (by have := HB2.out.size; omega)).mono ?_); rintro e w' ⟨rfl, rfl⟩)
    go_ret2
    exact ⟨rfl, HB2.out.trans (HB3.out.mono HB2.out.size)⟩
  · have hv : refR h obj n = (0, atN h obj) := by unfold refR; rw [if_neg ha]
    rw [hv]
    have HOB := hide (fun (W : World) (hW : Below w.heap.size w W) => hobj_no vh h obj W B (by have := hW.size; omega) (hh.keep (up hW hB) (fun _ h => h)) ha)
    obtain ⟨Ao, c, rfl, hc, hm⟩ := hh.open'
    have hE : (((atN h obj : Nat) : Int) != 0) = true := by simpa using ha
    have hE2 : (((atN h obj : Nat) : Int) == 0) = false := by simpa using ha
    generalize h.length = hl at *
    generalize ((atN h obj : Nat) : Int) = E at *
    clear hh ha hv
    go_enter Try.func22, Try.ntmps22
    go_upto_region 1 with (fail)
    obtain ⟨w1, hw1⟩ : ∃ w1, w1 = w.alloc (.cells #[.slice Ao hl c] 24) := ⟨_, rfl⟩
    obtain ⟨h5, hh5⟩ : ∃ h5, w.heap.size = h5 := ⟨_, rfl⟩
    have HX0 := hide (show Box w1 (h5) #[.slice Ao hl c] 24 by rw [hw1, ← hh5]; have t := Box.new w #[.slice Ao hl c] 24; (try simp only [World.size_alloc] at t); exact t)
    have HB1 := hide (show Below w.heap.size w w1 by rw [hw1]; exact ((Below.refl _ _).alloc (Nat.le_refl _) _))
    have w1s := HB1.out.size
    have w1z := hide (show w1.heap.size = h5 + 1 by rw [hw1, ← hh5]; simp only [World.size_alloc])
    have HK0 := hide (fun (W : World) (hW : Below w1.heap.size w1 W) => ((HX0.out.below hW).cell 0 (v := .slice Ao hl c) rfl).1)
    have lHX0 := HX0.out.lt
    have h5g : w.heap.size ≤ h5 := by omega
    rw [← hw1, hh5]
    clear hw1 hh5
    have p0 := HK0.out w1 (Below.refl _ _)
    go_upto_region 2 with (go_at_call 31; (with_reducible refine (HOB.out w1 HB1.out).mono ?_); rintro e w2 ⟨rfl, hb2⟩; have HB2 := hide (HB1.out.trans (hb2.mono HB1.out.size)); have l2 := hb2.size; clear hb2)
    go_wp2
    go_ret2
    exact ⟨rfl, HB2.out.trans ((below1 w2 _).mono HB2.out.size)⟩
end Go.Proofs.Ytjlndibeaklcdaa
