/- Layer 9, the program: contracts of object, with, put, Load, Ref. No condition but on lengths. -/
import Derived.Test.YtjlndibeaklcdaaHD
set_option linter.unusedSimpArgs false
set_option linter.unusedVariables false
namespace Go.Proofs.Ytjlndibeaklcdaa
open Go.RowKit

theorem i64_pred (k : Nat) (h : k < 4611686018427387904) : IntKind.i64.wrap ((k : Int) + 1 - 1) = (k : Int) := by rw [Int.add_sub_cancel]; exact IntWalk.i64_in _ ⟨by omega, by omega⟩
set_option maxHeartbeats 1000000 in
set_option maxRecDepth 100000 in
theorem hobj_yes (vh : Value) (h : List ObjV) (k : Nat) (w : World) (B : Nat) (hB : B ≤ w.heap.size) (hh : ObjsV w (· < B) vh h) (hr : rightB h = true) (hk : k < h.length) (hmx : h.length ≤ 1000000) :
    Calls Try.prog 31 #[.agg #[vh], .int .i64 ((k : Int) + 1)] w fun e w' => ∃ Ar cr Ai ci, e = .returned (.tuple #[.agg #[.slice Ar (objO h ((k : Int) + 1)).refs.length cr, .slice Ai (objO h ((k : Int) + 1)).ints.length ci], .int .i64 0]) ∧ ObjI w' (· < B) (.slice Ar (objO h ((k : Int) + 1)).refs.length cr) (.slice Ai (objO h ((k : Int) + 1)).ints.length ci) (objO h ((k : Int) + 1)) ∧ Below w.heap.size w w' := by
  have HK := hide (fun (W : World) (hW : Below w.heap.size w W) => hh.keep (up hW hB) (fun _ h => h))
  have HRT := hide (fun (W : World) (hW : Below w.heap.size w W) => (show Calls Try.prog 11 #[.agg #[vh]] W fun e w' => e = .returned (.bool true) ∧ Below W.heap.size W w' by have t := hright_any vh h W B (by have := hW.size; omega) (hh.keep (up hW hB) (fun _ h => h)); rw [hr] at t; exact t))
  obtain ⟨o, ho⟩ : ∃ o, h[k]? = some o := ⟨_, List.getElem?_eq_getElem hk⟩
  have hob : objO h ((k : Int) + 1) = o := by unfold objO; rw [show ((k : Int) + 1 - 1).toNat = k by omega, ho]; rfl
  rw [hob]
  obtain ⟨Ao, c, rfl, hc, hm⟩ := hh.open'
  obtain ⟨n, hn⟩ : ∃ n, h.length = n := ⟨_, rfl⟩
  have HTH := hide (fun W => (show Calls Try.prog 29 #[.agg #[.slice Ao n c], .int .i64 ((k : Int) + 1)] W fun e w' => e = .returned (.bool true) ∧ Below W.heap.size W w' by have t := hthere_any Ao n c ((k : Int) + 1) W; rw [show thB n ((k : Int) + 1) = true by unfold thB; simp; omega] at t; exact t))
  rw [hn] at HK HRT hc hk hmx
  rw [hn]
  obtain ⟨bg, og, Ar, cr, Ai, ci, hAo, hbgb, ⟨e0, e1⟩, hi⟩ := hh.get ho
  subst hAo
  have hbs : bg < w.heap.size := by omega
  have HI := hide (fun (W : World) (hW : Below w.heap.size w W) => hi.keep (up hW hB) (fun _ h => h))
  have HE := hide (fun (W : World) (hW : Below w.heap.size w W) => And.intro ((hW.cell (p := ⟨bg, og + k * 2, none⟩) hbs).trans e0) ((hW.cell (p := ⟨bg, og + k * 2 + 1, none⟩) hbs).trans e1))
  clear hh hn hob hi ho e0 e1 hr
  generalize o.refs.length = rl, o.ints.length = il at *
  have hp1 := i64_pred k (by omega)
  have hkz : (((k : Int) + 1) == 0) = false := by simp; omega
  have hki : (0 : Int) ≤ (k : Int) := by omega
  have hkl : (k : Int) < (n : Int) := by omega
  go_enter Try.func31, Try.ntmps31
  go_upto_region 1 with (fail)
  obtain ⟨w1, hw1⟩ : ∃ w1, w1 = (w.alloc (.cells #[.slice (some ⟨bg, og, none⟩) n c] 24)).alloc (.cells #[.slice none 0 0, .slice none 0 0] 43) := ⟨_, rfl⟩
  obtain ⟨h5, hh5⟩ : ∃ h5, w.heap.size = h5 := ⟨_, rfl⟩
  have HX0 := hide (show Box w1 (h5) #[.slice (some ⟨bg, og, none⟩) n c] 24 by rw [hw1, ← hh5]; have t := Box.new w #[.slice (some ⟨bg, og, none⟩) n c] 24; (try simp only [World.size_alloc] at t); exact (t.alloc _))
  have HX1 := hide (show Box w1 (h5 + 1) #[.slice none 0 0, .slice none 0 0] 43 by rw [hw1, ← hh5]; have t := Box.new (w.alloc (.cells #[.slice (some ⟨bg, og, none⟩) n c] 24)) #[.slice none 0 0, .slice none 0 0] 43; (try simp only [World.size_alloc] at t); exact t)
  have HB1 := hide (show Below w.heap.size w w1 by rw [hw1]; exact (((Below.refl _ _).alloc (Nat.le_refl _) _).alloc (by simp only [World.size_alloc]; omega) _))
  have w1s := HB1.out.size
  have w1z := hide (show w1.heap.size = h5 + 1 + 1 by rw [hw1, ← hh5]; simp only [World.size_alloc])
  have HK0 := hide (fun (W : World) (hW : Below w1.heap.size w1 W) => ((HX0.out.below hW).cell 0 (v := .slice (some ⟨bg, og, none⟩) n c) rfl).1)
  have lHX0 := HX0.out.lt
  have HK1 := hide (fun (W : World) (hW : Below w1.heap.size w1 W) => (And.intro ((HX1.out.below hW).cell 0 (v := .slice none 0 0) rfl).1 ((HX1.out.below hW).cell 1 (v := .slice none 0 0) rfl).1))
  have lHX1 := HX1.out.lt
  have h5g : w.heap.size ≤ h5 := by omega
  rw [← hw1, hh5]
  clear hw1 hh5
  have p0 := HK0.out w1 (Below.refl _ _)
  go_wp2_with (first
    | (go_at_call 29; (with_reducible refine (HTH.out w2).mono ?_); rintro e w3 ⟨rfl, hb3⟩; have HC3 := hide (HC2.out.trans (hb3.mono HC2.out.size)); have HB3 := hide (HB1.out.trans (HC3.out.mono HB1.out.size)); obtain ⟨q0, q1⟩ := HE.out w3 HB3.out; have p3 := HK0.out w3 HC3.out; obtain ⟨z0, f0⟩ := (HX1.out.below HC3.out).cell 0 (v := .slice none 0 0) rfl; obtain ⟨z1, f1⟩ := (HX1.out.below HC3.out).cell 1 (v := .slice none 0 0) rfl; have l3 := HC3.out.size; clear hb3 p2)
    | (go_at_call 11; (with_reducible refine (HRT.out w1 HB1.out).mono ?_); rintro e w2 ⟨rfl, hb2⟩; have HC2 := hide hb2; have p2 := HK0.out w2 hb2; have l2 := hb2.size; clear hb2 p0))
  have HZ := hide (((HX1.out.below HC3.out).set 0 (.slice Ar rl cr)).set 1 (.slice Ai il ci))
  have y0 := (HZ.out.cell 0 (v := .slice Ar rl cr) rfl).1
  have y1 := (HZ.out.cell 1 (v := .slice Ai il ci) rfl).1
  refine bodyPost_ret (v := .tuple #[.agg #[.slice Ar rl cr, .slice Ai il ci], .int .i64 0]) (by simp [results, Try.results31, go_sem, y0, y1]) rfl ⟨Ar, cr, Ai, ci, rfl, HI.out _ ?_, ?_⟩
  all_goals exact (HB3.out.setCell (p := ⟨h5 + 1, 0, none⟩) (by show w.heap.size ≤ h5 + 1; omega) _).setCell (p := ⟨h5 + 1, 1, none⟩) (by show w.heap.size ≤ h5 + 1; omega) _
set_option maxHeartbeats 1000000 in
set_option maxRecDepth 100000 in
theorem hobj_no (vh : Value) (h : List ObjV) (obj : Int) (w : World) (B : Nat) (hB : B ≤ w.heap.size) (hh : ObjsV w (· < B) vh h) (ha : atN h obj ≠ 0) :
    Calls Try.prog 31 #[.agg #[vh], .int .i64 obj] w fun e w' => e = .returned (.tuple #[.agg #[.slice none 0 0, .slice none 0 0], .int .i64 ((atN h obj : Nat) : Int)]) ∧ Below w.heap.size w w' := by
  have HRT := hide (fun (W : World) (hW : Below w.heap.size w W) => hright_any vh h W B (by have := hW.size; omega) (hh.keep (up hW hB) (fun _ h => h)))
  obtain ⟨Ao, c, rfl, hc, hm⟩ := hh.open'
  obtain ⟨n, hn⟩ : ∃ n, h.length = n := ⟨_, rfl⟩
  have HTH := hide (fun W => hthere_any Ao n c obj W)
  have hat : atN h obj = if rightB h = true then (if obj = 0 then 14 else if 1 ≤ obj ∧ obj ≤ (n : Int) then 0 else 1) else 1 := by unfold atN; rw [hn]
  rw [hn] at HRT hc
  rw [hn]
  rw [hat] at ha ⊢
  clear hh hn hat
  generalize rightB h = rb at *
  cases rb
  · rw [if_neg (by simp)]
    clear ha
    go_enter Try.func31, Try.ntmps31
    go_upto_region 1 with (fail)
    obtain ⟨w1, hw1⟩ : ∃ w1, w1 = (w.alloc (.cells #[.slice Ao n c] 24)).alloc (.cells #[.slice none 0 0, .slice none 0 0] 43) := ⟨_, rfl⟩
    obtain ⟨h5, hh5⟩ : ∃ h5, w.heap.size = h5 := ⟨_, rfl⟩
    have HX0 := hide (show Box w1 (h5) #[.slice Ao n c] 24 by rw [hw1, ← hh5]; have t := Box.new w #[.slice Ao n c] 24; (try simp only [World.size_alloc] at t); exact (t.alloc _))
    have HX1 := hide (show Box w1 (h5 + 1) #[.slice none 0 0, .slice none 0 0] 43 by rw [hw1, ← hh5]; have t := Box.new (w.alloc (.cells #[.slice Ao n c] 24)) #[.slice none 0 0, .slice none 0 0] 43; (try simp only [World.size_alloc] at t); exact t)
    have HB1 := hide (show Below w.heap.size w w1 by rw [hw1]; exact (((Below.refl _ _).alloc (Nat.le_refl _) _).alloc (by simp only [World.size_alloc]; omega) _))
    have w1s := HB1.out.size
    have w1z := hide (show w1.heap.size = h5 + 1 + 1 by rw [hw1, ← hh5]; simp only [World.size_alloc])
    have HK0 := hide (fun (W : World) (hW : Below w1.heap.size w1 W) => ((HX0.out.below hW).cell 0 (v := .slice Ao n c) rfl).1)
    have lHX0 := HX0.out.lt
    have HK1 := hide (fun (W : World) (hW : Below w1.heap.size w1 W) => (And.intro ((HX1.out.below hW).cell 0 (v := .slice none 0 0) rfl).1 ((HX1.out.below hW).cell 1 (v := .slice none 0 0) rfl).1))
    have lHX1 := HX1.out.lt
    have h5g : w.heap.size ≤ h5 := by omega
    rw [← hw1, hh5]
    clear hw1 hh5
    have p0 := HK0.out w1 (Below.refl _ _)
    go_wp2_with (go_at_call 11; (with_reducible refine (HRT.out w1 HB1.out).mono ?_); rintro e w2 ⟨rfl, hb2⟩; have HC2 := hide hb2; have HB2 := hide (HB1.out.trans (hb2.mono HB1.out.size)); obtain ⟨z0, f0⟩ := (HX1.out.below HC2.out).cell 0 (v := .slice none 0 0) rfl; obtain ⟨z1, f1⟩ := (HX1.out.below HC2.out).cell 1 (v := .slice none 0 0) rfl; have l2 := hb2.size; clear hb2 p0)
    have HZ := hide (((HX1.out.below HC2.out).set 0 (.slice none 0 0)).set 1 (.slice none 0 0))
    have y0 := (HZ.out.cell 0 (v := .slice none 0 0) rfl).1
    have y1 := (HZ.out.cell 1 (v := .slice none 0 0) rfl).1
    refine bodyPost_ret (v := .tuple #[.agg #[.slice none 0 0, .slice none 0 0], .int .i64 1]) (by simp [results, Try.results31, go_sem, y0, y1]) rfl ⟨rfl, ?_⟩
    exact (HB2.out.setCell (p := ⟨h5 + 1, 0, none⟩) (by show w.heap.size ≤ h5 + 1; omega) _).setCell (p := ⟨h5 + 1, 1, none⟩) (by show w.heap.size ≤ h5 + 1; omega) _
  rw [if_pos rfl] at ha ⊢
  by_cases h0 : obj = 0
  · rw [if_pos h0]
    subst h0
    clear ha
    go_enter Try.func31, Try.ntmps31
    go_upto_region 1 with (fail)
    obtain ⟨w1, hw1⟩ : ∃ w1, w1 = (w.alloc (.cells #[.slice Ao n c] 24)).alloc (.cells #[.slice none 0 0, .slice none 0 0] 43) := ⟨_, rfl⟩
    obtain ⟨h5, hh5⟩ : ∃ h5, w.heap.size = h5 := ⟨_, rfl⟩
    have HX0 := hide (show Box w1 (h5) #[.slice Ao n c] 24 by rw [hw1, ← hh5]; have t := Box.new w #[.slice Ao n c] 24; (try simp only [World.size_alloc] at t); exact (t.alloc _))
    have HX1 := hide (show Box w1 (h5 + 1) #[.slice none 0 0, .slice none 0 0] 43 by rw [hw1, ← hh5]; have t := Box.new (w.alloc (.cells #[.slice Ao n c] 24)) #[.slice none 0 0, .slice none 0 0] 43; (try simp only [World.size_alloc] at t); exact t)
    have HB1 := hide (show Below w.heap.size w w1 by rw [hw1]; exact (((Below.refl _ _).alloc (Nat.le_refl _) _).alloc (by simp only [World.size_alloc]; omega) _))
    have w1s := HB1.out.size
    have w1z := hide (show w1.heap.size = h5 + 1 + 1 by rw [hw1, ← hh5]; simp only [World.size_alloc])
    have HK0 := hide (fun (W : World) (hW : Below w1.heap.size w1 W) => ((HX0.out.below hW).cell 0 (v := .slice Ao n c) rfl).1)
    have lHX0 := HX0.out.lt
    have HK1 := hide (fun (W : World) (hW : Below w1.heap.size w1 W) => (And.intro ((HX1.out.below hW).cell 0 (v := .slice none 0 0) rfl).1 ((HX1.out.below hW).cell 1 (v := .slice none 0 0) rfl).1))
    have lHX1 := HX1.out.lt
    have h5g : w.heap.size ≤ h5 := by omega
    rw [← hw1, hh5]
    clear hw1 hh5
    have p0 := HK0.out w1 (Below.refl _ _)
    go_wp2_with (go_at_call 11; (with_reducible refine (HRT.out w1 HB1.out).mono ?_); rintro e w2 ⟨rfl, hb2⟩; have HC2 := hide hb2; have HB2 := hide (HB1.out.trans (hb2.mono HB1.out.size)); obtain ⟨z0, f0⟩ := (HX1.out.below HC2.out).cell 0 (v := .slice none 0 0) rfl; obtain ⟨z1, f1⟩ := (HX1.out.below HC2.out).cell 1 (v := .slice none 0 0) rfl; have l2 := hb2.size; clear hb2 p0)
    have HZ := hide (((HX1.out.below HC2.out).set 0 (.slice none 0 0)).set 1 (.slice none 0 0))
    have y0 := (HZ.out.cell 0 (v := .slice none 0 0) rfl).1
    have y1 := (HZ.out.cell 1 (v := .slice none 0 0) rfl).1
    refine bodyPost_ret (v := .tuple #[.agg #[.slice none 0 0, .slice none 0 0], .int .i64 14]) (by simp [results, Try.results31, go_sem, y0, y1]) rfl ⟨rfl, ?_⟩
    exact (HB2.out.setCell (p := ⟨h5 + 1, 0, none⟩) (by show w.heap.size ≤ h5 + 1; omega) _).setCell (p := ⟨h5 + 1, 1, none⟩) (by show w.heap.size ≤ h5 + 1; omega) _
  rw [if_neg h0] at ha ⊢
  have h1 : ¬ (1 ≤ obj ∧ obj ≤ (n : Int)) := fun e => ha (by rw [if_pos e])
  rw [if_neg h1]
  have ht : thB n obj = false := by
    unfold thB
    rw [Bool.and_eq_false_iff]
    by_cases h2 : 1 ≤ obj
    · exact .inr (by simp; omega)
    · exact .inl (by simpa using h2)
  rw [ht] at HTH
  have hz : (obj == 0) = false := by simpa using h0
  clear ha h0 h1 ht
  go_enter Try.func31, Try.ntmps31
  go_upto_region 1 with (fail)
  obtain ⟨w1, hw1⟩ : ∃ w1, w1 = (w.alloc (.cells #[.slice Ao n c] 24)).alloc (.cells #[.slice none 0 0, .slice none 0 0] 43) := ⟨_, rfl⟩
  obtain ⟨h5, hh5⟩ : ∃ h5, w.heap.size = h5 := ⟨_, rfl⟩
  have HX0 := hide (show Box w1 (h5) #[.slice Ao n c] 24 by rw [hw1, ← hh5]; have t := Box.new w #[.slice Ao n c] 24; (try simp only [World.size_alloc] at t); exact (t.alloc _))
  have HX1 := hide (show Box w1 (h5 + 1) #[.slice none 0 0, .slice none 0 0] 43 by rw [hw1, ← hh5]; have t := Box.new (w.alloc (.cells #[.slice Ao n c] 24)) #[.slice none 0 0, .slice none 0 0] 43; (try simp only [World.size_alloc] at t); exact t)
  have HB1 := hide (show Below w.heap.size w w1 by rw [hw1]; exact (((Below.refl _ _).alloc (Nat.le_refl _) _).alloc (by simp only [World.size_alloc]; omega) _))
  have w1s := HB1.out.size
  have w1z := hide (show w1.heap.size = h5 + 1 + 1 by rw [hw1, ← hh5]; simp only [World.size_alloc])
  have HK0 := hide (fun (W : World) (hW : Below w1.heap.size w1 W) => ((HX0.out.below hW).cell 0 (v := .slice Ao n c) rfl).1)
  have lHX0 := HX0.out.lt
  have HK1 := hide (fun (W : World) (hW : Below w1.heap.size w1 W) => (And.intro ((HX1.out.below hW).cell 0 (v := .slice none 0 0) rfl).1 ((HX1.out.below hW).cell 1 (v := .slice none 0 0) rfl).1))
  have lHX1 := HX1.out.lt
  have h5g : w.heap.size ≤ h5 := by omega
  rw [← hw1, hh5]
  clear hw1 hh5
  have p0 := HK0.out w1 (Below.refl _ _)
  go_wp2_with (first
    | (go_at_call 29; (with_reducible refine (HTH.out w2).mono ?_); rintro e w3 ⟨rfl, hb3⟩; have HC3 := hide (HC2.out.trans (hb3.mono HC2.out.size)); have HB3 := hide (HB1.out.trans (HC3.out.mono HB1.out.size)); obtain ⟨z0, f0⟩ := (HX1.out.below HC3.out).cell 0 (v := .slice none 0 0) rfl; obtain ⟨z1, f1⟩ := (HX1.out.below HC3.out).cell 1 (v := .slice none 0 0) rfl; have l3 := HC3.out.size; clear hb3 p2)
    | (go_at_call 11; (with_reducible refine (HRT.out w1 HB1.out).mono ?_); rintro e w2 ⟨rfl, hb2⟩; have HC2 := hide hb2; have p2 := HK0.out w2 hb2; have l2 := hb2.size; clear hb2 p0))
  have HZ := hide (((HX1.out.below HC3.out).set 0 (.slice none 0 0)).set 1 (.slice none 0 0))
  have y0 := (HZ.out.cell 0 (v := .slice none 0 0) rfl).1
  have y1 := (HZ.out.cell 1 (v := .slice none 0 0) rfl).1
  refine bodyPost_ret (v := .tuple #[.agg #[.slice none 0 0, .slice none 0 0], .int .i64 1]) (by simp [results, Try.results31, go_sem, y0, y1]) rfl ⟨rfl, ?_⟩
  exact (HB3.out.setCell (p := ⟨h5 + 1, 0, none⟩) (by show w.heap.size ≤ h5 + 1; omega) _).setCell (p := ⟨h5 + 1, 1, none⟩) (by show w.heap.size ≤ h5 + 1; omega) _
set_option maxHeartbeats 1000000 in
set_option maxRecDepth 100000 in
theorem hwith_no (v : Value) (zs : List Int) (z y : Int) (w : World) (B : Nat) (hx : IntsV w (· < B) v zs) (hz : ¬ (0 ≤ z ∧ z < zs.length)) :
    Calls Try.prog 32 #[v, .int .i64 z, .int .i64 y] w fun e w' => e = .returned (.tuple #[.slice none 0 0, .int .i64 15]) ∧ w = w' := by
  obtain ⟨A, c, rfl, hc, hm⟩ := hx.open'
  obtain ⟨m, hn⟩ : ∃ m, zs.length = m := ⟨_, rfl⟩
  have HH := hide (fun W => hhas_any A m c z W)
  have hf : hasF m z = false := by
    unfold hasF
    rw [hn] at hz
    by_cases h0 : 0 ≤ z
    · have : ¬ z < m := fun h1 => hz ⟨h0, h1⟩
      simp [this]
    · simp [h0]
  rw [hf] at HH
  rw [hn]
  clear hx hn hf hz
  go_enter Try.func32, Try.ntmps32
  go_wp2_with (go_at_call 41; (with_reducible refine (HH.out _).mono ?_); rintro e w' ⟨rfl, rfl⟩)
  go_ret2
  exact ⟨rfl, rfl⟩
set_option maxHeartbeats 1000000 in
set_option maxRecDepth 100000 in
theorem hwith_yes (v : Value) (zs : List Int) (k : Nat) (y : Int) (w : World) (B : Nat) (hB : B ≤ w.heap.size) (hx : IntsV w (· < B) v zs) (hk : k < zs.length) (hy : i64R y) (hmx : zs.length ≤ 100000) :
    Calls Try.prog 32 #[v, .int .i64 (k : Int), .int .i64 y] w fun e w' => ∃ A c, e = .returned (.tuple #[.slice A zs.length c, .int .i64 0]) ∧ IntsV w' (Made w w') (.slice A zs.length c) (zs.set k y) ∧ Below w.heap.size w w' := by
  have HCL := hide (hclonei_any v zs w B hB hx hmx)
  have HR := hide (show ∀ z ∈ zs.set k y, i64R z from fun z hz => by
    rcases List.mem_or_eq_of_mem_set hz with h | rfl
    · obtain ⟨A, c, -, -, -, -, hR⟩ := hx.sl
      exact hR z h
    · exact hy)
  obtain ⟨A, c, rfl, hc, hm⟩ := hx.open'
  obtain ⟨m, hn⟩ : ∃ m, zs.length = m := ⟨_, rfl⟩
  have HN := hide hn
  have HH := hide (fun W => hhas_any A m c (k : Int) W)
  have hf : hasF m (k : Int) = true := by unfold hasF; simp; omega
  rw [hf] at HH
  rw [hn] at HCL hk hmx hc ⊢
  have hk1 : (k : Int) < (m : Int) := by omega
  have hk0 : (0 : Int) ≤ (k : Int) := by omega
  clear hx hn hf hy
  go_enter Try.func32, Try.ntmps32
  go_wp2_with (first
    | (go_at_call 42; (with_reducible refine (HCL.out).mono ?_); rintro e w2 ⟨v2, rfl, ho2, hb2⟩; have HO2 := hide ho2; have HB2 := hide hb2; obtain ⟨g, cap, rfl, hg, hgl, hgc, hgm, hcell⟩ := ho2.form (by have := HN.out; omega); obtain ⟨u0, u1⟩ := hcell k (by have := HN.out; omega); rw [HN.out] at HO2 hgc ⊢; clear ho2 hb2 hcell)
    | (go_at_call 41; (with_reducible refine (HH.out _).mono ?_); rintro e w' ⟨rfl, rfl⟩))
  go_ret2
  have ho := HO2.out.put (j := k) (z := y)
  have hin := ints_vec (S := Made w (w2.setCell ⟨g, k, none⟩ (.int .i64 y))) ho HR.out (fun b hb => World.ownsRow.lt ho b hb)
  exact ⟨_, cap, rfl, hin, HB2.out.setCell (p := ⟨g, k, none⟩) hg _⟩
end Go.Proofs.Ytjlndibeaklcdaa
