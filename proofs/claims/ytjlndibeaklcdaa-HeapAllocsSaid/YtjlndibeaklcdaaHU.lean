/- The statement HeapAllocs, walked: it answers true. Condition: no slice of the heap is longer than any machine's memory. -/
import Derived.Test.YtjlndibeaklcdaaHCp
import Derived.Test.YtjlndibeaklcdaaHQ
set_option linter.unusedSimpArgs false
set_option linter.unusedVariables false
namespace Go.Proofs.Ytjlndibeaklcdaa
open Go.RowKit

attribute [local go_sem ↓] Go.wp_at_zero Go.wp_at_succ
theorem rows_grow {wo w5 : World} {base : Nat} {o : ObjV} {u v1 v2 : Value} {l : List ObjT} (how : OwC objC 43 2 wo base u l) (hrw : RowsW wo base l) (hbase : base ≤ wo.heap.size)
    (hA5 : ∀ g, g < wo.heap.size → some g ≠ u.ownBlock → w5.heap[g]? = wo.heap[g]?)
    (r1 : Ow w5 wo.heap.size 3 .i64 v1 o.refs) (r2 : Ow w5 wo.heap.size 3 .i64 v2 o.ints) (hne : ∀ g, v1.ownBlock = some g → v2.ownBlock ≠ some g) : RowsW w5 base (l ++ [(o, v1, v2)]) := by
  have hold : ∀ v zs, Ow wo base 3 .i64 v zs → Ow w5 base 3 .i64 v zs := fun v zs hq => hq.kept' fun g hg => by
    obtain ⟨-, h2, c, h3⟩ := hq.row' g hg
    refine hA5 g h2 fun e => ?_
    have h4 := (how.row g e.symm).one (T' := 3) ⟨c, _, h3⟩
    exact absurd h4 (by decide)
  have hlow : ∀ v zs, Ow wo base 3 .i64 v zs → ∀ g, v.ownBlock = some g → g < wo.heap.size := fun v zs hq g hg => (hq.row' g hg).2.1
  refine ⟨fun p hp => ?_, ?_⟩
  · rcases List.mem_append.1 hp with hp | hp
    · exact ⟨hold _ _ (hrw.1 p hp).1, hold _ _ (hrw.1 p hp).2⟩
    · obtain rfl := List.mem_singleton.1 hp
      exact ⟨r1.lower hbase, r2.lower hbase⟩
  · rw [List.flatMap_append]
    refine List.pairwise_append.2 ⟨hrw.2, ?_, ?_⟩
    · show List.Pairwise _ [v1, v2]
      exact List.Pairwise.cons (fun b hb g hg => by obtain rfl := List.mem_singleton.1 hb; exact hne g hg) (List.Pairwise.cons (fun b hb => by cases hb) List.Pairwise.nil)
    · intro a ha b hb g hg
      obtain ⟨q, hq, ha⟩ := List.mem_flatMap.1 ha
      have hlt : g < wo.heap.size := by
        have h2 := hrw.1 q hq
        have h3 : a = q.2.1 ∨ a = q.2.2 := by simpa [objC] using ha
        rcases h3 with rfl | rfl
        · exact hlow _ _ h2.1 g hg
        · exact hlow _ _ h2.2 g hg
      have hb' : b = v1 ∨ b = v2 := by simpa [objC] using hb
      intro e
      rcases hb' with rfl | rfl
      · have := (r1.row' g e).1; omega
      · have := (r2.row' g e).1; omega
/-- A store into a box that is no list of ints. -/
theorem RowsW.box {w : World} {base h6 j : Nat} {l : List ObjT} {cs : Array Value} {T : TypeId} {v : Value} (h : RowsW w base l) (hb : Box w h6 cs T) (hT : T ≠ 3) : RowsW (w.setCell ⟨h6, j, none⟩ v) base l :=
  ⟨fun p hp => ⟨(h.1 p hp).1.kept' (fun g hg => heap_setCell_other w ⟨h6, j, none⟩ g v fun e => by
      have e' : g = h6 := e
      subst e'
      exact (h.1 p hp).1.apart hb hT hg),
    (h.1 p hp).2.kept' (fun g hg => heap_setCell_other w ⟨h6, j, none⟩ g v fun e => by
      have e' : g = h6 := e
      subst e'
      exact (h.1 p hp).2.apart hb hT hg)⟩, h.2⟩
theorem OwC.box {w : World} {base h6 j : Nat} {u : Value} {l : List ObjT} {cs : Array Value} {T : TypeId} {v : Value} (h : OwC objC 43 2 w base u l) (hb : Box w h6 cs T) (hT : 43 ≠ T) : OwC objC 43 2 (w.setCell ⟨h6, j, none⟩ v) base u l :=
  h.kept fun g hg => heap_setCell_other w ⟨h6, j, none⟩ g v fun e => by
    have e' : g = h6 := e
    subst e'
    exact h.apart ⟨_, _, hb⟩ hT hg
theorem mem_new {h : List ObjV} {o' : ObjV} {P : ObjV → Prop} (h1 : ∀ o ∈ h, P o) (h2 : P o') : ∀ o ∈ h ++ [o'], P o := fun o ho => by
  rcases List.mem_append.1 ho with ho | ho
  · exact h1 o ho
  · obtain rfl := List.mem_singleton.1 ho
    exact h2
theorem ow_zeros {w : World} {base H n : Nat} (hH : base ≤ H) (hn : n ≤ 8) (h : Box w H ((List.replicate n (0 : Int)).map (Value.int .i64)).toArray 3) : Ow w base 3 .i64 (.slice (some ⟨H, 0, none⟩) n n) (List.replicate n 0) :=
  Ow.of_row hH h (by simp) (Nat.le_refl _) (by simp only [maxLen]; omega) (by simp) (by rw [List.take_of_length_le (by simp)])
set_option maxHeartbeats 2000000 in
set_option maxRecDepth 100000 in
theorem ralloc_any (vh : Value) (h : List ObjV) (r i : Int) (w : World) (B : Nat) (hB : B ≤ w.heap.size) (hh : ObjsV w (· < B) vh h) (hsm : small9 h) :
    Calls Try.prog 9 #[.agg #[vh], .int .i64 r, .int .i64 i] w fun e w' => ∃ vh', e = .returned (.tuple #[.agg #[vh'], .int .i64 (allocR h r i).2.1, .int .i64 (((allocR h r i).2.2 : Nat) : Int)]) ∧ ObjsV w' (· < w'.heap.size) vh' (allocR h r i).1 ∧ Below w.heap.size w w' := by
  have HSELF := hide (fun (W : World) (hW : Below w.heap.size w W) => hh.keep (S' := (· < W.heap.size)) (up hW hB) (fun b hb => by have := hW.size; omega))
  have HRT := hide (fun (W : World) (hW : Below w.heap.size w W) => rright_any vh h W B (by have := hW.size; omega) (hh.keep (up hW hB) (fun _ h => h)))
  have HCP := hide (fun (W : World) (hW : Below w.heap.size w W) => rcopy_any vh h W B (by have := hW.size; omega) (hh.keep (up hW hB) (fun _ h => h)) hsm)
  have HRG := hide hh.rng
  have hn300 := hsm.1
  have hal : allocB h r i = (rightB h && (sizeB r && sizeB i)) := rfl
  by_cases ha : allocB h r i = true
  case neg =>
    have hv : allocR h r i = (h, 0, 1) := by unfold allocR; rw [if_neg ha]
    rw [hv]
    have ha' := Bool.eq_false_iff.2 ha
    rw [hal] at ha'
    have hq : rightB h = true → ¬ (0 ≤ r ∧ r ≤ 8 ∧ 0 ≤ i ∧ i ≤ 8) := fun h1 h2 => by
      rw [h1] at ha'
      simp [sizeB, h2.1, h2.2.1, h2.2.2.1, h2.2.2.2] at ha'
    have HQ9 := hide hq
    obtain ⟨Ao, c, rfl, hc, hm⟩ := hh.open'
    generalize h.length = n at *
    generalize rightB h = rb at *
    clear hh ha hv hal ha' hq HCP
    cases rb
    case false =>
      go_enter Try.func9, Try.ntmps9
      go_upto_region 1 with (fail)
      obtain ⟨w1, hw1⟩ : ∃ w1, w1 = (w.alloc (.cells #[.slice Ao n c] 24)).alloc (.cells #[.slice none 0 0] 24) := ⟨_, rfl⟩
      obtain ⟨h5, hh5⟩ : ∃ h5, w.heap.size = h5 := ⟨_, rfl⟩
      have HX0 := hide (show Box w1 (h5) #[.slice Ao n c] 24 by rw [hw1, ← hh5]; have t := Box.new w #[.slice Ao n c] 24; (try simp only [World.size_alloc] at t); exact (t.alloc _))
      have HX1 := hide (show Box w1 (h5 + 1) #[.slice none 0 0] 24 by rw [hw1, ← hh5]; have t := Box.new (w.alloc (.cells #[.slice Ao n c] 24)) #[.slice none 0 0] 24; (try simp only [World.size_alloc] at t); exact t)
      have HB1 := hide (show Below w.heap.size w w1 by rw [hw1]; exact (((Below.refl _ _).alloc (Nat.le_refl _) _).alloc (by simp only [World.size_alloc]; omega) _))
      have w1s := HB1.out.size
      have w1z := hide (show w1.heap.size = h5 + 1 + 1 by rw [hw1, ← hh5]; simp only [World.size_alloc])
      have HK0 := hide (fun (W : World) (hW : Below w1.heap.size w1 W) => ((HX0.out.below hW).cell 0 (v := .slice Ao n c) rfl).1)
      have lHX0 := HX0.out.lt
      have HK1 := hide (fun (W : World) (hW : Below w1.heap.size w1 W) => ((HX1.out.below hW).cell 0 (v := .slice none 0 0) rfl).1)
      have lHX1 := HX1.out.lt
      have h5g : w.heap.size ≤ h5 := by omega
      rw [← hw1, hh5]
      clear hw1 hh5
      have p0 := HK0.out w1 (Below.refl _ _)
      go_wp2_with (go_at_call 12; (with_reducible refine (HRT.out w1 HB1.out).mono ?_); rintro e w2 ⟨rfl, hb2⟩; have HB2 := hide (HB1.out.trans (hb2.mono HB1.out.size)); have HC2 := hide hb2; have p2 := HK0.out w2 hb2; obtain ⟨z0, f0⟩ := (HX1.out.below hb2).cell 0 (v := .slice none 0 0) rfl; have l2 := hb2.size; clear hb2 p0)
      have HZ := hide ((HX1.out.below HC2.out).set 0 (.slice Ao n c))
      have q0 := (HZ.out.cell 0 (v := .slice Ao n c) rfl).1
      have hbz : Below w.heap.size w (w2.setCell ⟨h5 + 1, 0, none⟩ (.slice Ao n c)) := (HB1.out.trans (HC2.out.mono HB1.out.size)).setCell (p := ⟨h5 + 1, 0, none⟩) (by show w.heap.size ≤ h5 + 1; omega) _
      refine bodyPost_ret (v := .tuple #[.agg #[.slice Ao n c], .int .i64 0, .int .i64 1]) (by simp [results, Try.results9, go_sem, q0]) rfl ⟨_, rfl, HSELF.out _ hbz, hbz⟩
    have hq := HQ9.out rfl
    by_cases k1 : r < 0
    case pos =>
      have d1 : decide (r < 0) = true := decide_eq_true k1
      go_enter Try.func9, Try.ntmps9
      go_upto_region 1 with (fail)
      obtain ⟨w1, hw1⟩ : ∃ w1, w1 = (w.alloc (.cells #[.slice Ao n c] 24)).alloc (.cells #[.slice none 0 0] 24) := ⟨_, rfl⟩
      obtain ⟨h5, hh5⟩ : ∃ h5, w.heap.size = h5 := ⟨_, rfl⟩
      have HX0 := hide (show Box w1 (h5) #[.slice Ao n c] 24 by rw [hw1, ← hh5]; have t := Box.new w #[.slice Ao n c] 24; (try simp only [World.size_alloc] at t); exact (t.alloc _))
      have HX1 := hide (show Box w1 (h5 + 1) #[.slice none 0 0] 24 by rw [hw1, ← hh5]; have t := Box.new (w.alloc (.cells #[.slice Ao n c] 24)) #[.slice none 0 0] 24; (try simp only [World.size_alloc] at t); exact t)
      have HB1 := hide (show Below w.heap.size w w1 by rw [hw1]; exact (((Below.refl _ _).alloc (Nat.le_refl _) _).alloc (by simp only [World.size_alloc]; omega) _))
      have w1s := HB1.out.size
      have w1z := hide (show w1.heap.size = h5 + 1 + 1 by rw [hw1, ← hh5]; simp only [World.size_alloc])
      have HK0 := hide (fun (W : World) (hW : Below w1.heap.size w1 W) => ((HX0.out.below hW).cell 0 (v := .slice Ao n c) rfl).1)
      have lHX0 := HX0.out.lt
      have HK1 := hide (fun (W : World) (hW : Below w1.heap.size w1 W) => ((HX1.out.below hW).cell 0 (v := .slice none 0 0) rfl).1)
      have lHX1 := HX1.out.lt
      have h5g : w.heap.size ≤ h5 := by omega
      rw [← hw1, hh5]
      clear hw1 hh5
      have p0 := HK0.out w1 (Below.refl _ _)
      go_wp2_with (go_at_call 12; (with_reducible refine (HRT.out w1 HB1.out).mono ?_); rintro e w2 ⟨rfl, hb2⟩; have HB2 := hide (HB1.out.trans (hb2.mono HB1.out.size)); have HC2 := hide hb2; have p2 := HK0.out w2 hb2; obtain ⟨z0, f0⟩ := (HX1.out.below hb2).cell 0 (v := .slice none 0 0) rfl; have l2 := hb2.size; clear hb2 p0)
      have HZ := hide ((HX1.out.below HC2.out).set 0 (.slice Ao n c))
      have q0 := (HZ.out.cell 0 (v := .slice Ao n c) rfl).1
      have hbz : Below w.heap.size w (w2.setCell ⟨h5 + 1, 0, none⟩ (.slice Ao n c)) := (HB1.out.trans (HC2.out.mono HB1.out.size)).setCell (p := ⟨h5 + 1, 0, none⟩) (by show w.heap.size ≤ h5 + 1; omega) _
      refine bodyPost_ret (v := .tuple #[.agg #[.slice Ao n c], .int .i64 0, .int .i64 1]) (by simp [results, Try.results9, go_sem, q0]) rfl ⟨_, rfl, HSELF.out _ hbz, hbz⟩
    have d1 : decide (r < 0) = false := decide_eq_false k1
    by_cases k2 : r > 8
    case pos =>
      have d2 : decide (r > 8) = true := decide_eq_true k2
      go_enter Try.func9, Try.ntmps9
      go_upto_region 1 with (fail)
      obtain ⟨w1, hw1⟩ : ∃ w1, w1 = (w.alloc (.cells #[.slice Ao n c] 24)).alloc (.cells #[.slice none 0 0] 24) := ⟨_, rfl⟩
      obtain ⟨h5, hh5⟩ : ∃ h5, w.heap.size = h5 := ⟨_, rfl⟩
      have HX0 := hide (show Box w1 (h5) #[.slice Ao n c] 24 by rw [hw1, ← hh5]; have t := Box.new w #[.slice Ao n c] 24; (try simp only [World.size_alloc] at t); exact (t.alloc _))
      have HX1 := hide (show Box w1 (h5 + 1) #[.slice none 0 0] 24 by rw [hw1, ← hh5]; have t := Box.new (w.alloc (.cells #[.slice Ao n c] 24)) #[.slice none 0 0] 24; (try simp only [World.size_alloc] at t); exact t)
      have HB1 := hide (show Below w.heap.size w w1 by rw [hw1]; exact (((Below.refl _ _).alloc (Nat.le_refl _) _).alloc (by simp only [World.size_alloc]; omega) _))
      have w1s := HB1.out.size
      have w1z := hide (show w1.heap.size = h5 + 1 + 1 by rw [hw1, ← hh5]; simp only [World.size_alloc])
      have HK0 := hide (fun (W : World) (hW : Below w1.heap.size w1 W) => ((HX0.out.below hW).cell 0 (v := .slice Ao n c) rfl).1)
      have lHX0 := HX0.out.lt
      have HK1 := hide (fun (W : World) (hW : Below w1.heap.size w1 W) => ((HX1.out.below hW).cell 0 (v := .slice none 0 0) rfl).1)
      have lHX1 := HX1.out.lt
      have h5g : w.heap.size ≤ h5 := by omega
      rw [← hw1, hh5]
      clear hw1 hh5
      have p0 := HK0.out w1 (Below.refl _ _)
      go_wp2_with (go_at_call 12; (with_reducible refine (HRT.out w1 HB1.out).mono ?_); rintro e w2 ⟨rfl, hb2⟩; have HB2 := hide (HB1.out.trans (hb2.mono HB1.out.size)); have HC2 := hide hb2; have p2 := HK0.out w2 hb2; obtain ⟨z0, f0⟩ := (HX1.out.below hb2).cell 0 (v := .slice none 0 0) rfl; have l2 := hb2.size; clear hb2 p0)
      have HZ := hide ((HX1.out.below HC2.out).set 0 (.slice Ao n c))
      have q0 := (HZ.out.cell 0 (v := .slice Ao n c) rfl).1
      have hbz : Below w.heap.size w (w2.setCell ⟨h5 + 1, 0, none⟩ (.slice Ao n c)) := (HB1.out.trans (HC2.out.mono HB1.out.size)).setCell (p := ⟨h5 + 1, 0, none⟩) (by show w.heap.size ≤ h5 + 1; omega) _
      refine bodyPost_ret (v := .tuple #[.agg #[.slice Ao n c], .int .i64 0, .int .i64 1]) (by simp [results, Try.results9, go_sem, q0]) rfl ⟨_, rfl, HSELF.out _ hbz, hbz⟩
    have d2 : decide (r > 8) = false := decide_eq_false k2
    by_cases k3 : i < 0
    case pos =>
      have d3 : decide (i < 0) = true := decide_eq_true k3
      go_enter Try.func9, Try.ntmps9
      go_upto_region 1 with (fail)
      obtain ⟨w1, hw1⟩ : ∃ w1, w1 = (w.alloc (.cells #[.slice Ao n c] 24)).alloc (.cells #[.slice none 0 0] 24) := ⟨_, rfl⟩
      obtain ⟨h5, hh5⟩ : ∃ h5, w.heap.size = h5 := ⟨_, rfl⟩
      have HX0 := hide (show Box w1 (h5) #[.slice Ao n c] 24 by rw [hw1, ← hh5]; have t := Box.new w #[.slice Ao n c] 24; (try simp only [World.size_alloc] at t); exact (t.alloc _))
      have HX1 := hide (show Box w1 (h5 + 1) #[.slice none 0 0] 24 by rw [hw1, ← hh5]; have t := Box.new (w.alloc (.cells #[.slice Ao n c] 24)) #[.slice none 0 0] 24; (try simp only [World.size_alloc] at t); exact t)
      have HB1 := hide (show Below w.heap.size w w1 by rw [hw1]; exact (((Below.refl _ _).alloc (Nat.le_refl _) _).alloc (by simp only [World.size_alloc]; omega) _))
      have w1s := HB1.out.size
      have w1z := hide (show w1.heap.size = h5 + 1 + 1 by rw [hw1, ← hh5]; simp only [World.size_alloc])
      have HK0 := hide (fun (W : World) (hW : Below w1.heap.size w1 W) => ((HX0.out.below hW).cell 0 (v := .slice Ao n c) rfl).1)
      have lHX0 := HX0.out.lt
      have HK1 := hide (fun (W : World) (hW : Below w1.heap.size w1 W) => ((HX1.out.below hW).cell 0 (v := .slice none 0 0) rfl).1)
      have lHX1 := HX1.out.lt
      have h5g : w.heap.size ≤ h5 := by omega
      rw [← hw1, hh5]
      clear hw1 hh5
      have p0 := HK0.out w1 (Below.refl _ _)
      go_wp2_with (go_at_call 12; (with_reducible refine (HRT.out w1 HB1.out).mono ?_); rintro e w2 ⟨rfl, hb2⟩; have HB2 := hide (HB1.out.trans (hb2.mono HB1.out.size)); have HC2 := hide hb2; have p2 := HK0.out w2 hb2; obtain ⟨z0, f0⟩ := (HX1.out.below hb2).cell 0 (v := .slice none 0 0) rfl; have l2 := hb2.size; clear hb2 p0)
      have HZ := hide ((HX1.out.below HC2.out).set 0 (.slice Ao n c))
      have q0 := (HZ.out.cell 0 (v := .slice Ao n c) rfl).1
      have hbz : Below w.heap.size w (w2.setCell ⟨h5 + 1, 0, none⟩ (.slice Ao n c)) := (HB1.out.trans (HC2.out.mono HB1.out.size)).setCell (p := ⟨h5 + 1, 0, none⟩) (by show w.heap.size ≤ h5 + 1; omega) _
      refine bodyPost_ret (v := .tuple #[.agg #[.slice Ao n c], .int .i64 0, .int .i64 1]) (by simp [results, Try.results9, go_sem, q0]) rfl ⟨_, rfl, HSELF.out _ hbz, hbz⟩
    have d3 : decide (i < 0) = false := decide_eq_false k3
    have d4 : decide (i > 8) = true := decide_eq_true (by omega)
    go_enter Try.func9, Try.ntmps9
    go_upto_region 1 with (fail)
    obtain ⟨w1, hw1⟩ : ∃ w1, w1 = (w.alloc (.cells #[.slice Ao n c] 24)).alloc (.cells #[.slice none 0 0] 24) := ⟨_, rfl⟩
    obtain ⟨h5, hh5⟩ : ∃ h5, w.heap.size = h5 := ⟨_, rfl⟩
    have HX0 := hide (show Box w1 (h5) #[.slice Ao n c] 24 by rw [hw1, ← hh5]; have t := Box.new w #[.slice Ao n c] 24; (try simp only [World.size_alloc] at t); exact (t.alloc _))
    have HX1 := hide (show Box w1 (h5 + 1) #[.slice none 0 0] 24 by rw [hw1, ← hh5]; have t := Box.new (w.alloc (.cells #[.slice Ao n c] 24)) #[.slice none 0 0] 24; (try simp only [World.size_alloc] at t); exact t)
    have HB1 := hide (show Below w.heap.size w w1 by rw [hw1]; exact (((Below.refl _ _).alloc (Nat.le_refl _) _).alloc (by simp only [World.size_alloc]; omega) _))
    have w1s := HB1.out.size
    have w1z := hide (show w1.heap.size = h5 + 1 + 1 by rw [hw1, ← hh5]; simp only [World.size_alloc])
    have HK0 := hide (fun (W : World) (hW : Below w1.heap.size w1 W) => ((HX0.out.below hW).cell 0 (v := .slice Ao n c) rfl).1)
    have lHX0 := HX0.out.lt
    have HK1 := hide (fun (W : World) (hW : Below w1.heap.size w1 W) => ((HX1.out.below hW).cell 0 (v := .slice none 0 0) rfl).1)
    have lHX1 := HX1.out.lt
    have h5g : w.heap.size ≤ h5 := by omega
    rw [← hw1, hh5]
    clear hw1 hh5
    have p0 := HK0.out w1 (Below.refl _ _)
    go_wp2_with (go_at_call 12; (with_reducible refine (HRT.out w1 HB1.out).mono ?_); rintro e w2 ⟨rfl, hb2⟩; have HB2 := hide (HB1.out.trans (hb2.mono HB1.out.size)); have HC2 := hide hb2; have p2 := HK0.out w2 hb2; obtain ⟨z0, f0⟩ := (HX1.out.below hb2).cell 0 (v := .slice none 0 0) rfl; have l2 := hb2.size; clear hb2 p0)
    have HZ := hide ((HX1.out.below HC2.out).set 0 (.slice Ao n c))
    have q0 := (HZ.out.cell 0 (v := .slice Ao n c) rfl).1
    have hbz : Below w.heap.size w (w2.setCell ⟨h5 + 1, 0, none⟩ (.slice Ao n c)) := (HB1.out.trans (HC2.out.mono HB1.out.size)).setCell (p := ⟨h5 + 1, 0, none⟩) (by show w.heap.size ≤ h5 + 1; omega) _
    refine bodyPost_ret (v := .tuple #[.agg #[.slice Ao n c], .int .i64 0, .int .i64 1]) (by simp [results, Try.results9, go_sem, q0]) rfl ⟨_, rfl, HSELF.out _ hbz, hbz⟩
  have hv : allocR h r i = (h ++ [newO r i], (h.length : Int) + 1, 0) := by unfold allocR; rw [if_pos ha]
  rw [hv]
  rw [hal, Bool.and_eq_true, Bool.and_eq_true] at ha
  obtain ⟨hr, hsr, hsi⟩ := ha
  have hr8 : 0 ≤ r ∧ r ≤ 8 := by simpa [sizeB] using hsr
  have hi8 : 0 ≤ i ∧ i ≤ 8 := by simpa [sizeB] using hsi
  rw [hr] at HRT
  obtain ⟨rn, rfl⟩ : ∃ k : Nat, r = k := ⟨r.toNat, by omega⟩
  obtain ⟨jn, rfl⟩ : ∃ k : Nat, i = k := ⟨i.toNat, by omega⟩
  have hnew : newO (rn : Int) (jn : Int) = ⟨List.replicate rn 0, List.replicate jn 0⟩ := by unfold newO; rw [Int.toNat_natCast, Int.toNat_natCast]
  rw [hnew]
  have hrn : rn ≤ 8 := by omega
  have hjn : jn ≤ 8 := by omega
  have d1 : decide ((rn : Int) < 0) = false := decide_eq_false (by omega)
  have d2 : decide ((rn : Int) > 8) = false := decide_eq_false (by omega)
  have d3 : decide ((jn : Int) < 0) = false := decide_eq_false (by omega)
  have d4 : decide ((jn : Int) > 8) = false := decide_eq_false (by omega)
  have hmkr := mk_run 26 3 Try.underlying26 info_i64 (by omega) rn (by omega)
  have hmki := mk_run 26 3 Try.underlying26 info_i64 (by omega) jn (by omega)
  have hZr : madeCells (Value.int .i64 0).cells (rn * 1) = ((List.replicate rn (0 : Int)).map (Value.int .i64)).toArray := madeCells_int rn
  have hZi : madeCells (Value.int .i64 0).cells (jn * 1) = ((List.replicate jn (0 : Int)).map (Value.int .i64)).toArray := madeCells_int jn
  generalize madeCells (Value.int .i64 0).cells (rn * 1) = Zr at *
  generalize madeCells (Value.int .i64 0).cells (jn * 1) = Zi at *
  have HZr := hide hZr
  have HZi := hide hZi
  obtain ⟨j0, hj0, jz0, jz1, jz2⟩ := info_parts info_Obj
  have HJ := hide hj0
  have HNO := hide (show (∀ z ∈ (List.replicate rn (0 : Int)), i64R z) ∧ ∀ z ∈ (List.replicate jn (0 : Int)), i64R z from ⟨fun z hz => by rw [(List.mem_replicate.1 hz).2]; unfold i64R; omega, fun z hz => by rw [(List.mem_replicate.1 hz).2]; unfold i64R; omega⟩)
  obtain ⟨Ao, c, rfl, hc, hm⟩ := hh.open'
  obtain ⟨n, hn⟩ : ∃ n, h.length = n := ⟨_, rfl⟩
  have HN := hide hn
  rw [hn] at HRT HCP hn300 ⊢
  clear hh hv hal hr hsr hsi hr8 hi8 hnew hZr hZi hn hj0 HSELF hsm
  go_enter Try.func9, Try.ntmps9
  go_upto_region 1 with (fail)
  obtain ⟨w1, hw1⟩ : ∃ w1, w1 = (w.alloc (.cells #[.slice Ao n c] 24)).alloc (.cells #[.slice none 0 0] 24) := ⟨_, rfl⟩
  obtain ⟨h5, hh5⟩ : ∃ h5, w.heap.size = h5 := ⟨_, rfl⟩
  have HX0 := hide (show Box w1 (h5) #[.slice Ao n c] 24 by rw [hw1, ← hh5]; have t := Box.new w #[.slice Ao n c] 24; (try simp only [World.size_alloc] at t); exact (t.alloc _))
  have HX1 := hide (show Box w1 (h5 + 1) #[.slice none 0 0] 24 by rw [hw1, ← hh5]; have t := Box.new (w.alloc (.cells #[.slice Ao n c] 24)) #[.slice none 0 0] 24; (try simp only [World.size_alloc] at t); exact t)
  have HB1 := hide (show Below w.heap.size w w1 by rw [hw1]; exact (((Below.refl _ _).alloc (Nat.le_refl _) _).alloc (by simp only [World.size_alloc]; omega) _))
  have w1s := HB1.out.size
  have w1z := hide (show w1.heap.size = h5 + 1 + 1 by rw [hw1, ← hh5]; simp only [World.size_alloc])
  have HK0 := hide (fun (W : World) (hW : Below w1.heap.size w1 W) => ((HX0.out.below hW).cell 0 (v := .slice Ao n c) rfl).1)
  have lHX0 := HX0.out.lt
  have HK1 := hide (fun (W : World) (hW : Below w1.heap.size w1 W) => ((HX1.out.below hW).cell 0 (v := .slice none 0 0) rfl).1)
  have lHX1 := HX1.out.lt
  have h5g : w.heap.size ≤ h5 := by omega
  rw [← hw1, hh5]
  clear hw1 hh5
  have p0 := HK0.out w1 (Below.refl _ _)
  go_upto_region 4 with (first
    | (go_at_call 7; (with_reducible refine (HCP.out w2 HB2.out).mono ?_); rintro e w3 ⟨vc, l, rfl, how, hlm, hrw, hb3⟩; have hll := congrArg List.length hlm; rw [List.length_map, HN.out] at hll; have HLL := hide hll; clear hll; have HOW := hide how; have HLM := hide hlm; have HRW := hide hrw; have HC3 := hide (HC2.out.trans (hb3.mono HC2.out.size)); have HD3 := hide hb3; have l3 := hb3.size; obtain ⟨Au, cu, e1, -, -⟩ := how.sl; subst e1; rw [HLL.out]; clear how hlm hrw hb3)
    | (go_at_call 12; (with_reducible refine (HRT.out w1 HB1.out).mono ?_); rintro e w2 ⟨rfl, hb2⟩; have HB2 := hide (HB1.out.trans (hb2.mono HB1.out.size)); have HC2 := hide hb2; have p2 := HK0.out w2 hb2; obtain ⟨z0, f0⟩ := (HX1.out.below hb2).cell 0 (v := .slice none 0 0) rfl; have l2 := hb2.size; clear hb2 p0))
  obtain ⟨w4, hw4⟩ : ∃ w4, w4 = w3.alloc (.cells #[.slice Au n cu] 24) := ⟨_, rfl⟩
  obtain ⟨h6, hh6⟩ : ∃ h6, w3.heap.size = h6 := ⟨_, rfl⟩
  have HFX0 := hide (show Box w4 (h6) #[.slice Au n cu] 24 by rw [hw4, ← hh6]; have t := Box.new w3 #[.slice Au n cu] 24; (try simp only [World.size_alloc] at t); exact t)
  have HB4 := hide (show Below w3.heap.size w3 w4 by rw [hw4]; exact ((Below.refl _ _).alloc (Nat.le_refl _) _))
  have w4s := HB4.out.size
  have w4z := hide (show w4.heap.size = h6 + 1 by rw [hw4, ← hh6]; simp only [World.size_alloc])
  have HFK0 := hide (fun (W : World) (hW : Below w4.heap.size w4 W) => ((HFX0.out.below hW).cell 0 (v := .slice Au n cu) rfl).1)
  have lHFX0 := HFX0.out.lt
  have h6g : w3.heap.size ≤ h6 := by omega
  rw [← hw4, hh6]
  clear hw4 hh6
  have HC4 := hide (HC3.out.trans (HB4.out.mono HC3.out.size))
  have HOW := hide (show OwC objC 43 2 w4 w2.heap.size (.slice Au n cu) l from by have t := HOW.out.below HB4.out; rw [HLL.out] at t; exact t)
  have HRW := hide (show RowsW w4 w2.heap.size l from ⟨fun p hp => ⟨((HRW.out.1 p hp).1).below HB4.out, ((HRW.out.1 p hp).2).below HB4.out⟩, HRW.out.2⟩)
  obtain ⟨u, hu⟩ : ∃ u, u = Value.slice Au n cu := ⟨_, rfl⟩
  have HU := hide hu
  have HUA := hide (show u.ownBlock ≠ some h6 from by rw [hu]; exact HOW.out.apart ⟨_, _, HFX0.out⟩ (by decide))
  have HUB := hide (fun g (hg : u.ownBlock = some g) => HOW.out.lt g (by rw [← hu]; exact hg))
  have lwo : w2.heap.size ≤ w4.heap.size := by have := HB4.out.size; omega
  obtain ⟨c6, f6⟩ := HFX0.out.cell 0 (v := .slice Au n cu) rfl
  have lh6 : h6 < w4.heap.size := by omega
  rw [← hu] at c6
  clear hu
  obtain ⟨wd, hwd⟩ : ∃ W, W = w4.drew := ⟨_, rfl⟩
  have bwd : Below w4.heap.size w4 wd := by rw [hwd]; exact below_drewN (Below.refl _ _) 1
  have szd : wd.heap.size ≤ w4.heap.size := by rw [hwd]; exact Nat.le_refl _
  refine wp_region_til (fun w' => w'.cell? ⟨h6, 0, none⟩ = some u) 10 (by kernel_rfl) c6 ?_
  rw [← hwd]
  have hSd : wd.cell? ⟨h6, 0, none⟩ = some u := by rw [hwd]; exact c6
  clear hwd
  refine wpTil_move (i := 0) (v := ?_) rfl (by kernel_rfl) (by kernel_rfl) (by kernel_rfl) (fun _ _ _ h => h) (by rfl) (Or.inl ⟨by rfl, ?_⟩) (Or.inr hSd) ?_
  rotate_left
  focus
    intro w hSw
    go_simp
    try with_reducible rfl
  (try simp only [List.getElem_toArray, List.getElem_cons_succ, List.getElem_cons_zero, Act.put, List.setIfInBounds_toArray, List.set_cons_zero, List.set_cons_succ])
  refine wpTil_move (i := 2) (v := ?_) rfl (by kernel_rfl) (by kernel_rfl) (by kernel_rfl) (fun _ _ _ h => h) (by rfl) (Or.inl ⟨by rfl, ?_⟩) (Or.inr hSd) ?_
  rotate_left
  focus
    intro w hSw
    go_simp
    try with_reducible rfl
  (try simp only [List.getElem_toArray, List.getElem_cons_succ, List.getElem_cons_zero, Act.put, List.setIfInBounds_toArray, List.set_cons_zero, List.set_cons_succ])
  refine wpTil_move (i := 4) (v := ?_) rfl (by kernel_rfl) (by kernel_rfl) (by kernel_rfl) (fun _ _ _ h => h) (by rfl) (Or.inl ⟨by rfl, ?_⟩) (Or.inr hSd) ?_
  rotate_left
  focus
    intro w hSw
    go_simp
    try with_reducible rfl
  (try simp only [List.getElem_toArray, List.getElem_cons_succ, List.getElem_cons_zero, Act.put, List.setIfInBounds_toArray, List.set_cons_zero, List.set_cons_succ])
  refine wpTil_take (i := 1) (v := ?_) rfl (by kernel_rfl) (by kernel_rfl) (by kernel_rfl) (fun _ _ _ h => h) (by rfl) (by kernel_rfl) (by kernel_rfl) (Or.inl ⟨by rfl, ?_⟩) hSd ?_
  rotate_left
  focus
    intro w hSw
    go_simp
    try with_reducible rfl
  (try simp only [List.getElem_toArray, List.getElem_cons_succ, List.getElem_cons_zero, Act.put, List.setIfInBounds_toArray, List.set_cons_zero, List.set_cons_succ])
  refine wpTil_ready (rs := [3, 5]) (by kernel_rfl) (by simp) ?_
  refine AllTil.cons rfl (fun K hK => ?_) ?_
  focus
    rw [if_pos (by rfl)]
    go_simp
    obtain ⟨wL1, hwL1⟩ : ∃ W, W = wd.alloc (.cells Zr 3) := ⟨_, rfl⟩
    obtain ⟨H1, hH1⟩ : ∃ H, wd.heap.size = H := ⟨_, rfl⟩
    have bx1 : Box wL1 H1 Zr 3 := by rw [hwL1, ← hH1]; exact Box.new _ _ _
    have sz1 : wL1.heap.size ≤ H1 + 1 := by rw [hwL1, World.size_alloc, hH1]; exact Nat.le_refl _
    have sy1 : H1 + 1 ≤ wL1.heap.size := by rw [hwL1, World.size_alloc, hH1]; exact Nat.le_refl _
    have sx1 : wd.heap.size ≤ H1 := by omega
    have sw1 : H1 ≤ wd.heap.size := by omega
    have fr1 : ∀ g, g < H1 → wL1.heap[g]? = wd.heap[g]? := fun g hg => by rw [hwL1]; exact Below.heap_alloc _ _ _ (by omega)
    have bwL1 : Below w4.heap.size w4 wL1 := by rw [hwL1]; exact bwd.alloc (by have := bwd.size; omega) _
    have FwL1 : ∀ g, g < w4.heap.size → wL1.heap[g]? = w4.heap[g]? := bwL1.block
    rw [← hwL1, hH1]
    clear hwL1 hH1
    have lh1 : w4.heap.size ≤ H1 := by have := bwd.size; omega
    refine hK.out _ _ ((World.cell?_of_block (a := ⟨h6, 0, none⟩) (FwL1 _ lh6)).trans c6) ?_
    clear hK K
    (try simp only [List.getElem_toArray, List.getElem_cons_succ, List.getElem_cons_zero, Act.put, List.setIfInBounds_toArray, List.set_cons_zero, List.set_cons_succ])
    refine wpTil_ready (rs := [5]) (by kernel_rfl) (by simp) ?_
    refine AllTil.cons rfl (fun K hK => ?_) AllTil.nil
    rw [if_pos (by rfl)]
    go_simp
    obtain ⟨wL2, hwL2⟩ : ∃ W, W = wL1.alloc (.cells Zi 3) := ⟨_, rfl⟩
    obtain ⟨H2, hH2⟩ : ∃ H, wL1.heap.size = H := ⟨_, rfl⟩
    have bx2 : Box wL2 H2 Zi 3 := by rw [hwL2, ← hH2]; exact Box.new _ _ _
    have sz2 : wL2.heap.size ≤ H2 + 1 := by rw [hwL2, World.size_alloc, hH2]; exact Nat.le_refl _
    have sy2 : H2 + 1 ≤ wL2.heap.size := by rw [hwL2, World.size_alloc, hH2]; exact Nat.le_refl _
    have sx2 : wL1.heap.size ≤ H2 := by omega
    have sw2 : H2 ≤ wL1.heap.size := by omega
    have fr2 : ∀ g, g < H2 → wL2.heap[g]? = wL1.heap[g]? := fun g hg => by rw [hwL2]; exact Below.heap_alloc _ _ _ (by omega)
    have bwL2 : Below w4.heap.size w4 wL2 := by rw [hwL2]; exact bwL1.alloc (by have := bwL1.size; omega) _
    have FwL2 : ∀ g, g < w4.heap.size → wL2.heap[g]? = w4.heap[g]? := bwL2.block
    rw [← hwL2, hH2]
    clear hwL2 hH2
    have lh2 : w4.heap.size ≤ H2 := by have := bwL1.size; omega
    refine hK.out _ _ ((World.cell?_of_block (a := ⟨h6, 0, none⟩) (FwL2 _ lh6)).trans c6) ?_
    clear hK K
    (try simp only [List.getElem_toArray, List.getElem_cons_succ, List.getElem_cons_zero, Act.put, List.setIfInBounds_toArray, List.set_cons_zero, List.set_cons_succ])
    have by1 := Box.kept9 (fr2 _ (by have := bx1.lt; omega)) bx1
    have by2 := bx2
    refine wpTil_move (i := 6) (v := ?_) rfl (by kernel_rfl) (by kernel_rfl) (by kernel_rfl) (fun _ _ _ h => h) (by rfl) (Or.inl ⟨by rfl, ?_⟩) (Or.inr ((World.cell?_of_block (a := ⟨h6, 0, none⟩) (FwL2 _ lh6)).trans c6)) ?_
    rotate_left
    focus
      intro w hSw
      go_simp
      try with_reducible rfl
    (try simp only [List.getElem_toArray, List.getElem_cons_succ, List.getElem_cons_zero, Act.put, List.setIfInBounds_toArray, List.set_cons_zero, List.set_cons_succ])
    refine wpTil_ready (rs := [7]) (by kernel_rfl) (by simp) ?_
    refine AllTil.cons rfl (fun K hK => ?_) AllTil.nil
    rw [if_pos (by rfl)]
    go_simp
    obtain ⟨wM, hwM⟩ : ∃ W, W = wL2.alloc (.cells #[.slice (some ⟨H1, 0, none⟩) rn rn, .slice (some ⟨H2, 0, none⟩) jn jn] 43) := ⟨_, rfl⟩
    obtain ⟨HM, hHM⟩ : ∃ H, wL2.heap.size = H := ⟨_, rfl⟩
    have bxM : Box wM HM #[.slice (some ⟨H1, 0, none⟩) rn rn, .slice (some ⟨H2, 0, none⟩) jn jn] 43 := by rw [hwM, ← hHM]; exact Box.new _ _ _
    have szM : wM.heap.size ≤ HM + 1 := by rw [hwM, World.size_alloc, hHM]; exact Nat.le_refl _
    have syM : HM + 1 ≤ wM.heap.size := by rw [hwM, World.size_alloc, hHM]; exact Nat.le_refl _
    have sxM : wL2.heap.size ≤ HM := by omega
    have swM : HM ≤ wL2.heap.size := by omega
    have frM : ∀ g, g < HM → wM.heap[g]? = wL2.heap[g]? := fun g hg => by rw [hwM]; exact Below.heap_alloc _ _ _ (by omega)
    have bwM : Below w4.heap.size w4 wM := by rw [hwM]; exact bwL2.alloc (by have := bwL2.size; omega) _
    have FwM : ∀ g, g < w4.heap.size → wM.heap[g]? = w4.heap[g]? := bwM.block
    rw [← hwM, hHM]
    clear hwM hHM
    refine hK.out _ _ ((World.cell?_of_block (a := ⟨h6, 0, none⟩) (FwM _ lh6)).trans c6) ?_
    clear hK K
    (try simp only [List.getElem_toArray, List.getElem_cons_succ, List.getElem_cons_zero, Act.put, List.setIfInBounds_toArray, List.set_cons_zero, List.set_cons_succ])
    refine wpTil_ready (rs := [8]) (by kernel_rfl) (by simp) ?_
    refine AllTil.cons rfl (fun K hK => ?_) AllTil.nil
    refine step_append_c (c := objC) (T := 43) (sz := 2) _ (by rfl) _ _ _ (by rfl) w2.heap.size j0 _ 48 Try.underlying22 HJ.out jz0 jz1 jz2 rfl (by omega) (by omega) u l (by rfl) ((show OwC objC 43 2 w4 w2.heap.size u l from by rw [HU.out]; exact HOW.out).kept (fun g hg => FwM g (HUB.out g hg).2)) (⟨List.replicate rn 0, List.replicate jn 0⟩, .slice (some ⟨H1, 0, none⟩) rn rn, .slice (some ⟨H2, 0, none⟩) jn jn) rfl (by intro q hq; simp [objC] at hq; rcases hq with rfl | rfl <;> rfl) HM _ bxM (by rfl) (by rfl) (by rw [HLL.out]; omega) (by have := bwM.size; omega) ?_
    intro g5 cap5 w5 ho5 hg5 hv5 hl5
    have fr5 : ∀ g, g < wM.heap.size → some g ≠ u.ownBlock → w5.heap[g]? = wM.heap[g]? := fun g hg hne => hg5.block g hg hne
    have sP5 := bwM.size
    have s5 := hg5.size
    have b5 : Below w2.heap.size w4 w5 := Below.grown (bwM.mono (by omega)) hg5 (by omega) (by intro kk hkk; exact (HUB.out kk hkk).1)
    have F5 : ∀ g, g < w4.heap.size → some g ≠ u.ownBlock → w5.heap[g]? = w4.heap[g]? := fun g hg hne => (fr5 g (by omega) hne).trans (FwM g hg)
    have HU6 : some h6 ≠ u.ownBlock := fun e => HUA.out e.symm
    have c65 : w5.cell? ⟨h6, 0, none⟩ = some u := (World.cell?_of_block (a := ⟨h6, 0, none⟩) (F5 _ lh6 HU6)).trans c6
    have f65 : w5.frozen? ⟨h6, 0, none⟩ = false := (World.frozen?_of_block (a := ⟨h6, 0, none⟩) (F5 _ lh6 HU6)).trans f6
    refine hK.out _ _ c65 ?_
    clear hK K
    (try simp only [List.getElem_toArray, List.getElem_cons_succ, List.getElem_cons_zero, Act.put, List.setIfInBounds_toArray, List.set_cons_zero, List.set_cons_succ])
    refine wpTil_move (i := 9) (v := ?_) rfl (by kernel_rfl) (by kernel_rfl) (by kernel_rfl) (fun _ _ _ h => h) (by rfl) (Or.inl ⟨by rfl, ?_⟩) (Or.inr c65) ?_
    rotate_left
    focus
      intro w hSw
      go_simp
      try with_reducible rfl
    (try simp only [List.getElem_toArray, List.getElem_cons_succ, List.getElem_cons_zero, Act.put, List.setIfInBounds_toArray, List.set_cons_zero, List.set_cons_succ])
    refine wpTil_ready (rs := [10]) (by kernel_rfl) (by simp) ?_
    refine AllTil.last rfl (by rfl) (fun K hK => ?_)
    rw [if_pos (by rfl)]
    go_simp
    refine hK.out _ _ ?_
    clear hK K
    (try simp only [List.getElem_toArray, List.getElem_cons_succ, List.getElem_cons_zero, Act.put, List.setIfInBounds_toArray, List.set_cons_zero, List.set_cons_succ])
    refine wpTil_done (by kernel_rfl) ?_ _
    have hgu : ∀ g, w4.heap.size ≤ g → some g ≠ u.ownBlock := fun g hg e => by have := (HUB.out g e.symm).2; omega
    have r1 : Ow w5 w4.heap.size 3 .i64 (.slice (some ⟨H1, 0, none⟩) rn rn) (List.replicate rn 0) := ow_zeros lh1 hrn (by rw [← HZr.out]; exact Box.kept9 (fr5 _ (by have := by1.lt; omega) (hgu _ lh1)) (Box.kept9 (frM _ (by have := by1.lt; omega)) by1))
    have r2 : Ow w5 w4.heap.size 3 .i64 (.slice (some ⟨H2, 0, none⟩) jn jn) (List.replicate jn 0) := ow_zeros lh2 hjn (by rw [← HZi.out]; exact Box.kept9 (fr5 _ (by have := by2.lt; omega) (hgu _ lh2)) (Box.kept9 (frM _ (by have := by2.lt; omega)) by2))
    have hne12 : H1 ≠ H2 := by omega
    have HRN := hide (rows_grow (o := ⟨List.replicate rn 0, List.replicate jn 0⟩) (show OwC objC 43 2 w4 w2.heap.size u l from by rw [HU.out]; exact HOW.out) HRW.out lwo F5 r1 r2 (fun g hg hg2 => by injection hg with hg; injection hg2 with hg2; exact hne12 (hg.trans hg2.symm)))
    have HX6 := hide (show Box w5 h6 #[u] 24 from Box.kept9 (F5 _ lh6 HU6) (by rw [HU.out]; exact HFX0.out))
    have HN5 := hide (show some (h5 + 1) ≠ u.ownBlock from fun e => by have := (HUB.out _ e.symm).1; have := w1z.out; omega)
    have HXR := hide (show Box w5 (h5 + 1) #[.slice none 0 0] 24 from Box.kept9 (F5 _ (by have := HC4.out.size; have := w1z.out; omega) HN5.out) (HX1.out.below HC4.out))
    have HO5 := hide ho5
    have HW5 := hide (show Below w1.heap.size w1 w5 from HC4.out.trans (b5.mono l2))
    rw [HLL.out] at HO5
    try rw [HLL.out]
    clear r1 r2 ho5 hg5 hv5 fr5 F5 FwM frM bwM bxM by1 by2 c65 f65 b5 hgu
    clear bx1 bx2 fr1 fr2 bwL1 bwL2 FwL1 FwL2 bwd hSd sz1 sz2 sy1 sy2 sx1 sx2 sw1 sw2 szM syM sxM swM c6 f6 z0 f0 p2 HOW HRW HU HUA HUB HU6
    have HXE := hide (HX6.out.set 0 (.slice (some ⟨g5, 0, none⟩) (n + 1) cap5))
    obtain ⟨w6, hw6⟩ : ∃ W, W = w5.setCell ⟨h6, 0, none⟩ (.slice (some ⟨g5, 0, none⟩) (n + 1) cap5) := ⟨_, rfl⟩
    have HO6 := hide (show OwC objC 43 2 w6 w2.heap.size (.slice (some ⟨g5, 0, none⟩) (n + 1) cap5) (l ++ [(⟨List.replicate rn 0, List.replicate jn 0⟩, .slice (some ⟨H1, 0, none⟩) rn rn, .slice (some ⟨H2, 0, none⟩) jn jn)]) from by rw [hw6]; exact OwC.box HO5.out HX6.out (by decide))
    have HR6 := hide (show RowsW w6 w2.heap.size (l ++ [(⟨List.replicate rn 0, List.replicate jn 0⟩, .slice (some ⟨H1, 0, none⟩) rn rn, .slice (some ⟨H2, 0, none⟩) jn jn)]) from by rw [hw6]; exact RowsW.box HRN.out HX6.out (by decide))
    have HXE := hide (show Box w6 h6 #[.slice (some ⟨g5, 0, none⟩) (n + 1) cap5] 24 from by rw [hw6]; exact HXE.out)
    have HXR := hide (show Box w6 (h5 + 1) #[.slice none 0 0] 24 from by rw [hw6]; exact HXR.out.other (by have := HC3.out.size; have := w1z.out; omega))
    have HW6 := hide (show Below w1.heap.size w1 w6 from by rw [hw6]; exact HW5.out.setCell (p := ⟨h6, 0, none⟩) (by show w1.heap.size ≤ h6; have := HC3.out.size; omega) _)
    rw [← hw6]
    clear hw6 HO5 HRN HX6 HW5
    obtain ⟨c7, -⟩ := HXE.out.cell 0 (v := .slice (some ⟨g5, 0, none⟩) (n + 1) cap5) rfl
    obtain ⟨z7, f7⟩ := HXR.out.cell 0 (v := .slice none 0 0) rfl
    have l67 : h6 < w6.heap.size := HXE.out.lt
    have l57 : h5 + 1 < w6.heap.size := HXR.out.lt
    go_wp2_with fail
    go_region
    all_goals
      go_wp2_with fail
      have HZ := hide (HXR.out.dr9.set 0 (.slice (some ⟨g5, 0, none⟩) (n + 1) cap5))
      have q0 := (HZ.out.cell 0 (v := .slice (some ⟨g5, 0, none⟩) (n + 1) cap5) rfl).1
      have q1 := ((HXR.out.set 0 (.slice (some ⟨g5, 0, none⟩) (n + 1) cap5)).cell 0 (v := .slice (some ⟨g5, 0, none⟩) (n + 1) cap5) rfl).1
      have hbz : Below w.heap.size w (w6.drew.setCell ⟨h5 + 1, 0, none⟩ (.slice (some ⟨g5, 0, none⟩) (n + 1) cap5)) := (HB1.out.trans ((show Below w1.heap.size w1 w6.drew from below_drewN HW6.out 1).mono HB1.out.size)).setCell (p := ⟨h5 + 1, 0, none⟩) (by show w.heap.size ≤ h5 + 1; omega) _
      have HOO := hide (rows_objs (OwC.box (j := 0) (v := .slice (some ⟨g5, 0, none⟩) (n + 1) cap5) (show OwC objC 43 2 w6.drew _ _ _ from HO6.out) HXR.out.dr9 (by decide)) (RowsW.box (j := 0) (v := .slice (some ⟨g5, 0, none⟩) (n + 1) cap5) (show RowsW w6.drew _ _ from HR6.out) HXR.out.dr9 (by decide)) (show _ = h ++ [(⟨List.replicate rn 0, List.replicate jn 0⟩ : ObjV)] by rw [List.map_append, HLM.out]; rfl) (mem_new (P := fun o => (∀ z ∈ o.refs, i64R z) ∧ ∀ z ∈ o.ints, i64R z) HRG.out HNO.out))
      refine bodyPost_ret (v := .tuple #[.agg #[.slice (some ⟨g5, 0, none⟩) (n + 1) cap5], .int .i64 ((n : Int) + 1), .int .i64 0]) (by simp [results, Try.results9, go_sem, q0, q1]) rfl ⟨_, rfl, HOO.out, hbz⟩
  refine AllTil.cons rfl (fun K hK => ?_) AllTil.nil
  rw [if_pos (by rfl)]
  go_simp
  obtain ⟨wL2, hwL2⟩ : ∃ W, W = wd.alloc (.cells Zi 3) := ⟨_, rfl⟩
  obtain ⟨H2, hH2⟩ : ∃ H, wd.heap.size = H := ⟨_, rfl⟩
  have bx2 : Box wL2 H2 Zi 3 := by rw [hwL2, ← hH2]; exact Box.new _ _ _
  have sz2 : wL2.heap.size ≤ H2 + 1 := by rw [hwL2, World.size_alloc, hH2]; exact Nat.le_refl _
  have sy2 : H2 + 1 ≤ wL2.heap.size := by rw [hwL2, World.size_alloc, hH2]; exact Nat.le_refl _
  have sx2 : wd.heap.size ≤ H2 := by omega
  have sw2 : H2 ≤ wd.heap.size := by omega
  have fr2 : ∀ g, g < H2 → wL2.heap[g]? = wd.heap[g]? := fun g hg => by rw [hwL2]; exact Below.heap_alloc _ _ _ (by omega)
  have bwL2 : Below w4.heap.size w4 wL2 := by rw [hwL2]; exact bwd.alloc (by have := bwd.size; omega) _
  have FwL2 : ∀ g, g < w4.heap.size → wL2.heap[g]? = w4.heap[g]? := bwL2.block
  rw [← hwL2, hH2]
  clear hwL2 hH2
  have lh2 : w4.heap.size ≤ H2 := by have := bwd.size; omega
  refine hK.out _ _ ((World.cell?_of_block (a := ⟨h6, 0, none⟩) (FwL2 _ lh6)).trans c6) ?_
  clear hK K
  (try simp only [List.getElem_toArray, List.getElem_cons_succ, List.getElem_cons_zero, Act.put, List.setIfInBounds_toArray, List.set_cons_zero, List.set_cons_succ])
  refine wpTil_ready (rs := [3]) (by kernel_rfl) (by simp) ?_
  refine AllTil.cons rfl (fun K hK => ?_) AllTil.nil
  rw [if_pos (by rfl)]
  go_simp
  obtain ⟨wL1, hwL1⟩ : ∃ W, W = wL2.alloc (.cells Zr 3) := ⟨_, rfl⟩
  obtain ⟨H1, hH1⟩ : ∃ H, wL2.heap.size = H := ⟨_, rfl⟩
  have bx1 : Box wL1 H1 Zr 3 := by rw [hwL1, ← hH1]; exact Box.new _ _ _
  have sz1 : wL1.heap.size ≤ H1 + 1 := by rw [hwL1, World.size_alloc, hH1]; exact Nat.le_refl _
  have sy1 : H1 + 1 ≤ wL1.heap.size := by rw [hwL1, World.size_alloc, hH1]; exact Nat.le_refl _
  have sx1 : wL2.heap.size ≤ H1 := by omega
  have sw1 : H1 ≤ wL2.heap.size := by omega
  have fr1 : ∀ g, g < H1 → wL1.heap[g]? = wL2.heap[g]? := fun g hg => by rw [hwL1]; exact Below.heap_alloc _ _ _ (by omega)
  have bwL1 : Below w4.heap.size w4 wL1 := by rw [hwL1]; exact bwL2.alloc (by have := bwL2.size; omega) _
  have FwL1 : ∀ g, g < w4.heap.size → wL1.heap[g]? = w4.heap[g]? := bwL1.block
  rw [← hwL1, hH1]
  clear hwL1 hH1
  have lh1 : w4.heap.size ≤ H1 := by have := bwL2.size; omega
  refine hK.out _ _ ((World.cell?_of_block (a := ⟨h6, 0, none⟩) (FwL1 _ lh6)).trans c6) ?_
  clear hK K
  (try simp only [List.getElem_toArray, List.getElem_cons_succ, List.getElem_cons_zero, Act.put, List.setIfInBounds_toArray, List.set_cons_zero, List.set_cons_succ])
  have by2 := Box.kept9 (fr1 _ (by have := bx2.lt; omega)) bx2
  have by1 := bx1
  refine wpTil_move (i := 6) (v := ?_) rfl (by kernel_rfl) (by kernel_rfl) (by kernel_rfl) (fun _ _ _ h => h) (by rfl) (Or.inl ⟨by rfl, ?_⟩) (Or.inr ((World.cell?_of_block (a := ⟨h6, 0, none⟩) (FwL1 _ lh6)).trans c6)) ?_
  rotate_left
  focus
    intro w hSw
    go_simp
    try with_reducible rfl
  (try simp only [List.getElem_toArray, List.getElem_cons_succ, List.getElem_cons_zero, Act.put, List.setIfInBounds_toArray, List.set_cons_zero, List.set_cons_succ])
  refine wpTil_ready (rs := [7]) (by kernel_rfl) (by simp) ?_
  refine AllTil.cons rfl (fun K hK => ?_) AllTil.nil
  rw [if_pos (by rfl)]
  go_simp
  obtain ⟨wM, hwM⟩ : ∃ W, W = wL1.alloc (.cells #[.slice (some ⟨H1, 0, none⟩) rn rn, .slice (some ⟨H2, 0, none⟩) jn jn] 43) := ⟨_, rfl⟩
  obtain ⟨HM, hHM⟩ : ∃ H, wL1.heap.size = H := ⟨_, rfl⟩
  have bxM : Box wM HM #[.slice (some ⟨H1, 0, none⟩) rn rn, .slice (some ⟨H2, 0, none⟩) jn jn] 43 := by rw [hwM, ← hHM]; exact Box.new _ _ _
  have szM : wM.heap.size ≤ HM + 1 := by rw [hwM, World.size_alloc, hHM]; exact Nat.le_refl _
  have syM : HM + 1 ≤ wM.heap.size := by rw [hwM, World.size_alloc, hHM]; exact Nat.le_refl _
  have sxM : wL1.heap.size ≤ HM := by omega
  have swM : HM ≤ wL1.heap.size := by omega
  have frM : ∀ g, g < HM → wM.heap[g]? = wL1.heap[g]? := fun g hg => by rw [hwM]; exact Below.heap_alloc _ _ _ (by omega)
  have bwM : Below w4.heap.size w4 wM := by rw [hwM]; exact bwL1.alloc (by have := bwL1.size; omega) _
  have FwM : ∀ g, g < w4.heap.size → wM.heap[g]? = w4.heap[g]? := bwM.block
  rw [← hwM, hHM]
  clear hwM hHM
  refine hK.out _ _ ((World.cell?_of_block (a := ⟨h6, 0, none⟩) (FwM _ lh6)).trans c6) ?_
  clear hK K
  (try simp only [List.getElem_toArray, List.getElem_cons_succ, List.getElem_cons_zero, Act.put, List.setIfInBounds_toArray, List.set_cons_zero, List.set_cons_succ])
  refine wpTil_ready (rs := [8]) (by kernel_rfl) (by simp) ?_
  refine AllTil.cons rfl (fun K hK => ?_) AllTil.nil
  refine step_append_c (c := objC) (T := 43) (sz := 2) _ (by rfl) _ _ _ (by rfl) w2.heap.size j0 _ 48 Try.underlying22 HJ.out jz0 jz1 jz2 rfl (by omega) (by omega) u l (by rfl) ((show OwC objC 43 2 w4 w2.heap.size u l from by rw [HU.out]; exact HOW.out).kept (fun g hg => FwM g (HUB.out g hg).2)) (⟨List.replicate rn 0, List.replicate jn 0⟩, .slice (some ⟨H1, 0, none⟩) rn rn, .slice (some ⟨H2, 0, none⟩) jn jn) rfl (by intro q hq; simp [objC] at hq; rcases hq with rfl | rfl <;> rfl) HM _ bxM (by rfl) (by rfl) (by rw [HLL.out]; omega) (by have := bwM.size; omega) ?_
  intro g5 cap5 w5 ho5 hg5 hv5 hl5
  have fr5 : ∀ g, g < wM.heap.size → some g ≠ u.ownBlock → w5.heap[g]? = wM.heap[g]? := fun g hg hne => hg5.block g hg hne
  have sP5 := bwM.size
  have s5 := hg5.size
  have b5 : Below w2.heap.size w4 w5 := Below.grown (bwM.mono (by omega)) hg5 (by omega) (by intro kk hkk; exact (HUB.out kk hkk).1)
  have F5 : ∀ g, g < w4.heap.size → some g ≠ u.ownBlock → w5.heap[g]? = w4.heap[g]? := fun g hg hne => (fr5 g (by omega) hne).trans (FwM g hg)
  have HU6 : some h6 ≠ u.ownBlock := fun e => HUA.out e.symm
  have c65 : w5.cell? ⟨h6, 0, none⟩ = some u := (World.cell?_of_block (a := ⟨h6, 0, none⟩) (F5 _ lh6 HU6)).trans c6
  have f65 : w5.frozen? ⟨h6, 0, none⟩ = false := (World.frozen?_of_block (a := ⟨h6, 0, none⟩) (F5 _ lh6 HU6)).trans f6
  refine hK.out _ _ c65 ?_
  clear hK K
  (try simp only [List.getElem_toArray, List.getElem_cons_succ, List.getElem_cons_zero, Act.put, List.setIfInBounds_toArray, List.set_cons_zero, List.set_cons_succ])
  refine wpTil_move (i := 9) (v := ?_) rfl (by kernel_rfl) (by kernel_rfl) (by kernel_rfl) (fun _ _ _ h => h) (by rfl) (Or.inl ⟨by rfl, ?_⟩) (Or.inr c65) ?_
  rotate_left
  focus
    intro w hSw
    go_simp
    try with_reducible rfl
  (try simp only [List.getElem_toArray, List.getElem_cons_succ, List.getElem_cons_zero, Act.put, List.setIfInBounds_toArray, List.set_cons_zero, List.set_cons_succ])
  refine wpTil_ready (rs := [10]) (by kernel_rfl) (by simp) ?_
  refine AllTil.last rfl (by rfl) (fun K hK => ?_)
  rw [if_pos (by rfl)]
  go_simp
  refine hK.out _ _ ?_
  clear hK K
  (try simp only [List.getElem_toArray, List.getElem_cons_succ, List.getElem_cons_zero, Act.put, List.setIfInBounds_toArray, List.set_cons_zero, List.set_cons_succ])
  refine wpTil_done (by kernel_rfl) ?_ _
  have hgu : ∀ g, w4.heap.size ≤ g → some g ≠ u.ownBlock := fun g hg e => by have := (HUB.out g e.symm).2; omega
  have r1 : Ow w5 w4.heap.size 3 .i64 (.slice (some ⟨H1, 0, none⟩) rn rn) (List.replicate rn 0) := ow_zeros lh1 hrn (by rw [← HZr.out]; exact Box.kept9 (fr5 _ (by have := by1.lt; omega) (hgu _ lh1)) (Box.kept9 (frM _ (by have := by1.lt; omega)) by1))
  have r2 : Ow w5 w4.heap.size 3 .i64 (.slice (some ⟨H2, 0, none⟩) jn jn) (List.replicate jn 0) := ow_zeros lh2 hjn (by rw [← HZi.out]; exact Box.kept9 (fr5 _ (by have := by2.lt; omega) (hgu _ lh2)) (Box.kept9 (frM _ (by have := by2.lt; omega)) by2))
  have hne12 : H1 ≠ H2 := by omega
  have HRN := hide (rows_grow (o := ⟨List.replicate rn 0, List.replicate jn 0⟩) (show OwC objC 43 2 w4 w2.heap.size u l from by rw [HU.out]; exact HOW.out) HRW.out lwo F5 r1 r2 (fun g hg hg2 => by injection hg with hg; injection hg2 with hg2; exact hne12 (hg.trans hg2.symm)))
  have HX6 := hide (show Box w5 h6 #[u] 24 from Box.kept9 (F5 _ lh6 HU6) (by rw [HU.out]; exact HFX0.out))
  have HN5 := hide (show some (h5 + 1) ≠ u.ownBlock from fun e => by have := (HUB.out _ e.symm).1; have := w1z.out; omega)
  have HXR := hide (show Box w5 (h5 + 1) #[.slice none 0 0] 24 from Box.kept9 (F5 _ (by have := HC4.out.size; have := w1z.out; omega) HN5.out) (HX1.out.below HC4.out))
  have HO5 := hide ho5
  have HW5 := hide (show Below w1.heap.size w1 w5 from HC4.out.trans (b5.mono l2))
  rw [HLL.out] at HO5
  try rw [HLL.out]
  clear r1 r2 ho5 hg5 hv5 fr5 F5 FwM frM bwM bxM by1 by2 c65 f65 b5 hgu
  clear bx1 bx2 fr1 fr2 bwL1 bwL2 FwL1 FwL2 bwd hSd sz1 sz2 sy1 sy2 sx1 sx2 sw1 sw2 szM syM sxM swM c6 f6 z0 f0 p2 HOW HRW HU HUA HUB HU6
  have HXE := hide (HX6.out.set 0 (.slice (some ⟨g5, 0, none⟩) (n + 1) cap5))
  obtain ⟨w6, hw6⟩ : ∃ W, W = w5.setCell ⟨h6, 0, none⟩ (.slice (some ⟨g5, 0, none⟩) (n + 1) cap5) := ⟨_, rfl⟩
  have HO6 := hide (show OwC objC 43 2 w6 w2.heap.size (.slice (some ⟨g5, 0, none⟩) (n + 1) cap5) (l ++ [(⟨List.replicate rn 0, List.replicate jn 0⟩, .slice (some ⟨H1, 0, none⟩) rn rn, .slice (some ⟨H2, 0, none⟩) jn jn)]) from by rw [hw6]; exact OwC.box HO5.out HX6.out (by decide))
  have HR6 := hide (show RowsW w6 w2.heap.size (l ++ [(⟨List.replicate rn 0, List.replicate jn 0⟩, .slice (some ⟨H1, 0, none⟩) rn rn, .slice (some ⟨H2, 0, none⟩) jn jn)]) from by rw [hw6]; exact RowsW.box HRN.out HX6.out (by decide))
  have HXE := hide (show Box w6 h6 #[.slice (some ⟨g5, 0, none⟩) (n + 1) cap5] 24 from by rw [hw6]; exact HXE.out)
  have HXR := hide (show Box w6 (h5 + 1) #[.slice none 0 0] 24 from by rw [hw6]; exact HXR.out.other (by have := HC3.out.size; have := w1z.out; omega))
  have HW6 := hide (show Below w1.heap.size w1 w6 from by rw [hw6]; exact HW5.out.setCell (p := ⟨h6, 0, none⟩) (by show w1.heap.size ≤ h6; have := HC3.out.size; omega) _)
  rw [← hw6]
  clear hw6 HO5 HRN HX6 HW5
  obtain ⟨c7, -⟩ := HXE.out.cell 0 (v := .slice (some ⟨g5, 0, none⟩) (n + 1) cap5) rfl
  obtain ⟨z7, f7⟩ := HXR.out.cell 0 (v := .slice none 0 0) rfl
  have l67 : h6 < w6.heap.size := HXE.out.lt
  have l57 : h5 + 1 < w6.heap.size := HXR.out.lt
  go_wp2_with fail
  go_region
  all_goals
    go_wp2_with fail
    have HZ := hide (HXR.out.dr9.set 0 (.slice (some ⟨g5, 0, none⟩) (n + 1) cap5))
    have q0 := (HZ.out.cell 0 (v := .slice (some ⟨g5, 0, none⟩) (n + 1) cap5) rfl).1
    have q1 := ((HXR.out.set 0 (.slice (some ⟨g5, 0, none⟩) (n + 1) cap5)).cell 0 (v := .slice (some ⟨g5, 0, none⟩) (n + 1) cap5) rfl).1
    have hbz : Below w.heap.size w (w6.drew.setCell ⟨h5 + 1, 0, none⟩ (.slice (some ⟨g5, 0, none⟩) (n + 1) cap5)) := (HB1.out.trans ((show Below w1.heap.size w1 w6.drew from below_drewN HW6.out 1).mono HB1.out.size)).setCell (p := ⟨h5 + 1, 0, none⟩) (by show w.heap.size ≤ h5 + 1; omega) _
    have HOO := hide (rows_objs (OwC.box (j := 0) (v := .slice (some ⟨g5, 0, none⟩) (n + 1) cap5) (show OwC objC 43 2 w6.drew _ _ _ from HO6.out) HXR.out.dr9 (by decide)) (RowsW.box (j := 0) (v := .slice (some ⟨g5, 0, none⟩) (n + 1) cap5) (show RowsW w6.drew _ _ from HR6.out) HXR.out.dr9 (by decide)) (show _ = h ++ [(⟨List.replicate rn 0, List.replicate jn 0⟩ : ObjV)] by rw [List.map_append, HLM.out]; rfl) (mem_new (P := fun o => (∀ z ∈ o.refs, i64R z) ∧ ∀ z ∈ o.ints, i64R z) HRG.out HNO.out))
    refine bodyPost_ret (v := .tuple #[.agg #[.slice (some ⟨g5, 0, none⟩) (n + 1) cap5], .int .i64 ((n : Int) + 1), .int .i64 0]) (by simp [results, Try.results9, go_sem, q0, q1]) rfl ⟨_, rfl, HOO.out, hbz⟩
set_option maxHeartbeats 4000000 in
set_option maxRecDepth 100000 in
theorem allocs_law (vh : Value) (h : List ObjV) (r i : Int) (vr : Value) (roots : List Int) (w : World) (hh : ObjsV w (· < w.heap.size) vh h) (hx : IntsV w (· < w.heap.size) vr roots) (hsz : size9 h) :
    Calls Try.prog 3 #[.agg #[vh], .agg #[.int .i64 r, .int .i64 i], vr] w fun e w' => e = .returned (.bool true) ∧ Below w.heap.size w w' := by
  have HAL := hide (fun (W : World) => alive9_any W)
  have HGR := hide (fun (W : World) (hW : Below w.heap.size w W) => great9_any vh h W w.heap.size hW.size (hh.keep (up hW (Nat.le_refl _)) (fun _ h => h)) hsz)
  have HORG := hide (fun (W : World) (hW : Below w.heap.size w W) => hh.keep (S' := (· < W.heap.size)) (up hW (Nat.le_refl _)) (fun b hb => by have := hW.size; omega))
  have HCP := hide (fun (hs : small9 h) (W : World) (v : Value) (hx : ObjsV W (· < W.heap.size) v h) => rcopyV_any v h W hx hs)
  have HRO := hide (fun (W : World) (hW : Below w.heap.size w W) => IntsV.keep (S' := (· < W.heap.size)) hx (up hW (Nat.le_refl _)) (fun b hb => by have := hW.size; omega))
  obtain ⟨Ao, c, rfl, hc, hm⟩ := hh.open'
  obtain ⟨Ar, cr, rfl, hcr, hmr⟩ := hx.open'
  obtain ⟨hl, hhl⟩ : ∃ hl, h.length = hl := ⟨_, rfl⟩
  obtain ⟨rl, hrl⟩ : ∃ rl, roots.length = rl := ⟨_, rfl⟩
  have HN := hide hhl
  rw [hhl] at HGR HORG HCP ⊢
  rw [hrl] at HRO hcr ⊢
  clear hh hx hhl hrl hsz
  by_cases hr50 : rl ≤ 50
  case neg =>
    have hd1 : decide ((rl : Int) > 50) = true := by simp; omega
    go_enter Try.func3, Try.ntmps3
    go_upto_region 1 with (fail)
    obtain ⟨w1, hw1⟩ : ∃ w1, w1 = (w.alloc (.cells #[.slice Ao hl c] 24)).alloc (.cells #[.int .i64 r, .int .i64 i] 25) := ⟨_, rfl⟩
    obtain ⟨h5, hh5⟩ : ∃ h5, w.heap.size = h5 := ⟨_, rfl⟩
    have HX0 := hide (show Box w1 (h5) #[.slice Ao hl c] 24 by rw [hw1, ← hh5]; have t := Box.new w #[.slice Ao hl c] 24; (try simp only [World.size_alloc] at t); exact (t.alloc _))
    have HX1 := hide (show Box w1 (h5 + 1) #[.int .i64 r, .int .i64 i] 25 by rw [hw1, ← hh5]; have t := Box.new (w.alloc (.cells #[.slice Ao hl c] 24)) #[.int .i64 r, .int .i64 i] 25; (try simp only [World.size_alloc] at t); exact t)
    have HB1 := hide (show Below w.heap.size w w1 by rw [hw1]; exact (((Below.refl _ _).alloc (Nat.le_refl _) _).alloc (by simp only [World.size_alloc]; omega) _))
    have w1s := HB1.out.size
    have w1z := hide (show w1.heap.size = h5 + 1 + 1 by rw [hw1, ← hh5]; simp only [World.size_alloc])
    have HK0 := hide (fun (W : World) (hW : Below w1.heap.size w1 W) => ((HX0.out.below hW).cell 0 (v := .slice Ao hl c) rfl).1)
    have lHX0 := HX0.out.lt
    have HK1 := hide (fun (W : World) (hW : Below w1.heap.size w1 W) => (And.intro ((HX1.out.below hW).cell 0 (v := .int .i64 r) rfl).1 ((HX1.out.below hW).cell 1 (v := .int .i64 i) rfl).1))
    have lHX1 := HX1.out.lt
    have h5g : w.heap.size ≤ h5 := by omega
    rw [← hw1, hh5]
    clear hw1 hh5
    have p0 := HK0.out w1 (Below.refl _ _)
    go_wp2_with (first
      | (go_at_call 6; (with_reducible refine (HGR.out w2 HB2.out).mono ?_); rintro e w3 ⟨bG, rfl, hs3, hb3⟩; have HS3 := hide hs3; have HC3 := hide (HC2.out.trans (hb3.mono HC2.out.size)); have HB3 := hide (HB2.out.trans (hb3.mono HB2.out.size)); clear hb3 hs3; cases bG)
      | (go_at_call 5; (with_reducible refine (HAL.out w1).mono ?_); rintro e w2 ⟨rfl, hb2⟩; have HC2 := hide hb2; have HB2 := hide (HB1.out.trans (hb2.mono HB1.out.size)); have q0 := HK0.out w2 hb2; clear hb2))
    all_goals
      go_ret
      exact ⟨rfl, HB3.out⟩
  have hd1 : decide ((rl : Int) > 50) = false := by simp; omega
  go_enter Try.func3, Try.ntmps3
  go_upto_region 1 with (fail)
  obtain ⟨w1, hw1⟩ : ∃ w1, w1 = (w.alloc (.cells #[.slice Ao hl c] 24)).alloc (.cells #[.int .i64 r, .int .i64 i] 25) := ⟨_, rfl⟩
  obtain ⟨h5, hh5⟩ : ∃ h5, w.heap.size = h5 := ⟨_, rfl⟩
  have HX0 := hide (show Box w1 (h5) #[.slice Ao hl c] 24 by rw [hw1, ← hh5]; have t := Box.new w #[.slice Ao hl c] 24; (try simp only [World.size_alloc] at t); exact (t.alloc _))
  have HX1 := hide (show Box w1 (h5 + 1) #[.int .i64 r, .int .i64 i] 25 by rw [hw1, ← hh5]; have t := Box.new (w.alloc (.cells #[.slice Ao hl c] 24)) #[.int .i64 r, .int .i64 i] 25; (try simp only [World.size_alloc] at t); exact t)
  have HB1 := hide (show Below w.heap.size w w1 by rw [hw1]; exact (((Below.refl _ _).alloc (Nat.le_refl _) _).alloc (by simp only [World.size_alloc]; omega) _))
  have w1s := HB1.out.size
  have w1z := hide (show w1.heap.size = h5 + 1 + 1 by rw [hw1, ← hh5]; simp only [World.size_alloc])
  have HK0 := hide (fun (W : World) (hW : Below w1.heap.size w1 W) => ((HX0.out.below hW).cell 0 (v := .slice Ao hl c) rfl).1)
  have lHX0 := HX0.out.lt
  have HK1 := hide (fun (W : World) (hW : Below w1.heap.size w1 W) => (And.intro ((HX1.out.below hW).cell 0 (v := .int .i64 r) rfl).1 ((HX1.out.below hW).cell 1 (v := .int .i64 i) rfl).1))
  have lHX1 := HX1.out.lt
  have h5g : w.heap.size ≤ h5 := by omega
  rw [← hw1, hh5]
  clear hw1 hh5
  have p0 := HK0.out w1 (Below.refl _ _)
  go_upto_region 5 with (first
    | (go_at_call 6; (with_reducible refine (HGR.out w2 HB2.out).mono ?_); rintro e w3 ⟨bG, rfl, hs3, hb3⟩; have HS3 := hide hs3; have HC3 := hide (HC2.out.trans (hb3.mono HC2.out.size)); have HB3 := hide (HB2.out.trans (hb3.mono HB2.out.size)); clear hb3 hs3; cases bG)
    | (go_at_call 5; (with_reducible refine (HAL.out w1).mono ?_); rintro e w2 ⟨rfl, hb2⟩; have HC2 := hide hb2; have HB2 := hide (HB1.out.trans (hb2.mono HB1.out.size)); have q0 := HK0.out w2 hb2; clear hb2))
  all_goals try (go_ret; exact ⟨rfl, HB3.out⟩)
  have HSM := hide (HS3.out (by simp))
  have hn300 : h.length ≤ 300 := HSM.out.1
  have HCP := hide (HCP.out HSM.out)
  have HA1 := hide (fun (v : Value) (W : World) (hx : ObjsV W (· < W.heap.size) v h) => (halloc_any v h r i W W.heap.size (Nat.le_refl _) hx (by omega)).mono (R' := fun e w' => ∃ A c, e = .returned (.tuple #[.agg #[.slice A (allocR h r i).1.length c], .int .i64 (allocR h r i).2.1, .int .i64 (((allocR h r i).2.2 : Nat) : Int)]) ∧ ObjsV w' (· < w'.heap.size) (.slice A (allocR h r i).1.length c) (allocR h r i).1 ∧ Below W.heap.size W w') (fun e w' ⟨v, h1, h2, h3⟩ => by
    obtain ⟨A, c, e1, -, -⟩ := h2.open'
    subst e1
    exact ⟨A, c, h1, h2, h3⟩))
  have HA2 := hide (fun (v : Value) (W : World) (hx : ObjsV W (· < W.heap.size) v h) => (ralloc_any v h r i W W.heap.size (Nat.le_refl _) hx HSM.out).mono (R' := fun e w' => ∃ A c, e = .returned (.tuple #[.agg #[.slice A (allocR h r i).1.length c], .int .i64 (allocR h r i).2.1, .int .i64 (((allocR h r i).2.2 : Nat) : Int)]) ∧ ObjsV w' (· < w'.heap.size) (.slice A (allocR h r i).1.length c) (allocR h r i).1 ∧ Below W.heap.size W w') (fun e w' ⟨v, h1, h2, h3⟩ => by
    obtain ⟨A, c, e1, -, -⟩ := h2.open'
    subst e1
    exact ⟨A, c, h1, h2, h3⟩))
  have HR1 := hide (fun (v : Value) (W : World) (hx : ObjsV W (· < W.heap.size) v h) => hright_any v h W W.heap.size (Nat.le_refl _) hx)
  have HR2 := hide (fun (v : Value) (W : World) (hx : ObjsV W (· < W.heap.size) v h) => rright_any v h W W.heap.size (Nat.le_refl _) hx)
  have HE1 := hide (fun (v : Value) (W : World) (hx : ObjsV W (· < W.heap.size) v h) (hr : IntsV W (· < W.heap.size) (.slice Ar rl cr) roots) => (hreach_any v (.slice Ar rl cr) h roots W W.heap.size (Nat.le_refl _) hx hr (by omega)).mono (R' := fun e w' => ∃ v l, e = .returned v ∧ Hid (IsR h roots l) ∧ IntsV w' (· < w'.heap.size) v l ∧ Below W.heap.size W w') (fun e w' ⟨v, l, h1, h2, h3, h4⟩ =>
    ⟨v, l, h1, hide h2, h3.ints (fun z hz => by have := ((h2.2 z).1 hz).2.rng; unfold i64R; omega), h4⟩))
  have HE2 := hide (fun (v : Value) (W : World) (hx : ObjsV W (· < W.heap.size) v h) (hr : IntsV W (· < W.heap.size) (.slice Ar rl cr) roots) => (rreachH_any v (.slice Ar rl cr) h roots W W.heap.size (Nat.le_refl _) hx hr (by omega)).mono (R' := fun e w' => ∃ v l, e = .returned v ∧ Hid (IsR h roots l) ∧ IntsV w' (· < w'.heap.size) v l ∧ Below W.heap.size W w') (fun e w' ⟨v, l, h1, h2, h3, h4⟩ =>
    ⟨v, l, h1, hide h2, h3.ints (fun z hz => by have := ((h2.2 z).1 hz).2.rng; unfold i64R; omega), h4⟩))
  have HIN := hide (fun (va vb : Value) (xs : List Int) (W : World) (ha : IntsV W (· < W.heap.size) va xs) (hb : IntsV W (· < W.heap.size) vb xs) => (rints_any va vb xs xs W W.heap.size ha hb).mono (R' := fun e w' => e = .returned (.bool true) ∧ Below W.heap.size W w') (fun e w' ⟨h1, q, h2⟩ => ⟨by rw [h1, decide_eq_true rfl], by rw [h2]; exact below_drewN (Below.refl _ _) q⟩))
  have HSA := hide (fun (va vb : Value) (l : List ObjV) (W : World) (ha : ObjsV W (· < W.heap.size) va l) (hb : ObjsV W (· < W.heap.size) vb l) => (show Calls Try.prog 10 #[.agg #[va], .agg #[vb]] W fun e w' => e = .returned (.bool true) ∧ Below W.heap.size W w' from by have t := same9_any va vb l l W W.heap.size (Nat.le_refl _) ha hb; rw [decide_eq_true rfl] at t; exact t))
  generalize (allocR h r i).1 = SH, (allocR h r i).2.1 = AN, (((allocR h r i).2.2 : Nat) : Int) = AE, rightB h = rb at *
  generalize SH.length = sl at *
  clear HS3 hn300 HSM p0 q0
  have Dw1_w1 := hide (Below.refl w1.heap.size w1)
  have Dw1_w3 := HC3
  have HO3 := hide (HORG.out w3 HB3.out)
  have p0 := HK0.out w3 Dw1_w3.out
  obtain ⟨pa0, pa1⟩ := HK1.out w3 Dw1_w3.out
  go_upto_region 6 with (go_at_call 7; (with_reducible refine (HCP.out w3 _ HO3.out).mono ?_); rintro e w4 ⟨A4, c4, rfl, hx4, hb4⟩; have HX4 := hide hx4; have E4 := hide hb4; clear hx4 hb4)
  have Dw1_w4 := hide (Dw1_w3.out.trans (E4.out.mono Dw1_w3.out.size))
  obtain ⟨w5, hw5⟩ : ∃ w5, w5 = w4.alloc (.cells #[.slice A4 hl c4] 24) := ⟨_, rfl⟩
  obtain ⟨h6, hh6⟩ : ∃ h6, w4.heap.size = h6 := ⟨_, rfl⟩
  have HFX0 := hide (show Box w5 (h6) #[.slice A4 hl c4] 24 by rw [hw5, ← hh6]; have t := Box.new w4 #[.slice A4 hl c4] 24; (try simp only [World.size_alloc] at t); exact t)
  have E5 := hide (show Below w4.heap.size w4 w5 by rw [hw5]; exact ((Below.refl _ _).alloc (Nat.le_refl _) _))
  have w5s := E5.out.size
  have w5z := hide (show w5.heap.size = h6 + 1 by rw [hw5, ← hh6]; simp only [World.size_alloc])
  have HFK0 := hide (fun (W : World) (hW : Below w5.heap.size w5 W) => ((HFX0.out.below hW).cell 0 (v := .slice A4 hl c4) rfl).1)
  have lHFX0 := HFX0.out.lt
  have h6g : w4.heap.size ≤ h6 := by omega
  rw [← hw5, hh6]
  clear hw5 hh6
  have Dw1_w5 := hide (Dw1_w4.out.trans (E5.out.mono Dw1_w4.out.size))
  have Dw5_w5 := hide (Below.refl w5.heap.size w5)
  have HOWN := hide (fun (W : World) (hW : Below w5.heap.size w5 W) => ((HX4.out.below E5.out).below hW))
  have HUP := hide (fun (W : World) (hW : Below w1.heap.size w1 W) => HORG.out W (HB1.out.trans (hW.mono HB1.out.size)))
  have HUR := hide (fun (W : World) (hW : Below w1.heap.size w1 W) => HRO.out W (HB1.out.trans (hW.mono HB1.out.size)))
  clear p0 pa0 pa1
  have p0 := HK0.out w5 Dw1_w5.out
  obtain ⟨pa0, pa1⟩ := HK1.out w5 Dw1_w5.out
  have x0 := HFK0.out w5 Dw5_w5.out
  go_upto_region 7 with (go_at_call 8; (with_reducible refine (HA1.out _ w5 (HOWN.out w5 Dw5_w5.out)).mono ?_); rintro e w6 ⟨Aw6, cw6, rfl, hxw6, hbw6⟩; have HXw6 := hide hxw6; have Ew6 := hide hbw6; clear hxw6 hbw6)
  have Dw1_w6 := hide (Dw1_w5.out.trans (Ew6.out.mono Dw1_w5.out.size))
  have Dw5_w6 := hide (Dw5_w5.out.trans (Ew6.out.mono Dw5_w5.out.size))
  obtain ⟨w7, hw7⟩ : ∃ w7, w7 = w6.alloc (.cells #[.slice Aw6 sl cw6] 24) := ⟨_, rfl⟩
  obtain ⟨h7, hh7⟩ : ∃ h7, w6.heap.size = h7 := ⟨_, rfl⟩
  have HBw7x0 := hide (show Box w7 (h7) #[.slice Aw6 sl cw6] 24 by rw [hw7, ← hh7]; have t := Box.new w6 #[.slice Aw6 sl cw6] 24; (try simp only [World.size_alloc] at t); exact t)
  have Ew7 := hide (show Below w6.heap.size w6 w7 by rw [hw7]; exact ((Below.refl _ _).alloc (Nat.le_refl _) _))
  have w7s := Ew7.out.size
  have w7z := hide (show w7.heap.size = h7 + 1 by rw [hw7, ← hh7]; simp only [World.size_alloc])
  have HBw7k0 := hide (fun (W : World) (hW : Below w7.heap.size w7 W) => ((HBw7x0.out.below hW).cell 0 (v := .slice Aw6 sl cw6) rfl).1)
  have lHBw7x0 := HBw7x0.out.lt
  have h7g : w6.heap.size ≤ h7 := by omega
  rw [← hw7, hh7]
  clear hw7 hh7
  have Dw1_w7 := hide (Dw1_w6.out.trans (Ew7.out.mono Dw1_w6.out.size))
  have Dw5_w7 := hide (Dw5_w6.out.trans (Ew7.out.mono Dw5_w6.out.size))
  have Dw7_w7 := hide (Below.refl w7.heap.size w7)
  have HRw7 := hide (fun (W : World) (hW : Below w7.heap.size w7 W) => ((HXw6.out.below Ew7.out).below hW))
  clear p0 pa0 pa1 x0
  have p0 := HK0.out w7 Dw1_w7.out
  obtain ⟨pa0, pa1⟩ := HK1.out w7 Dw1_w7.out
  have x0 := HFK0.out w7 Dw5_w7.out
  have yw7 := HBw7k0.out w7 Dw7_w7.out
  go_upto_region 8 with (go_at_call 9; (with_reducible refine (HA2.out _ w7 (HUP.out w7 Dw1_w7.out)).mono ?_); rintro e w8 ⟨Aw8, cw8, rfl, hxw8, hbw8⟩; have HXw8 := hide hxw8; have Ew8 := hide hbw8; clear hxw8 hbw8)
  have Dw1_w8 := hide (Dw1_w7.out.trans (Ew8.out.mono Dw1_w7.out.size))
  have Dw5_w8 := hide (Dw5_w7.out.trans (Ew8.out.mono Dw5_w7.out.size))
  have Dw7_w8 := hide (Dw7_w7.out.trans (Ew8.out.mono Dw7_w7.out.size))
  obtain ⟨w9, hw9⟩ : ∃ w9, w9 = w8.alloc (.cells #[.slice Aw8 sl cw8] 24) := ⟨_, rfl⟩
  obtain ⟨h9, hh9⟩ : ∃ h9, w8.heap.size = h9 := ⟨_, rfl⟩
  have HBw9x0 := hide (show Box w9 (h9) #[.slice Aw8 sl cw8] 24 by rw [hw9, ← hh9]; have t := Box.new w8 #[.slice Aw8 sl cw8] 24; (try simp only [World.size_alloc] at t); exact t)
  have Ew9 := hide (show Below w8.heap.size w8 w9 by rw [hw9]; exact ((Below.refl _ _).alloc (Nat.le_refl _) _))
  have w9s := Ew9.out.size
  have w9z := hide (show w9.heap.size = h9 + 1 by rw [hw9, ← hh9]; simp only [World.size_alloc])
  have HBw9k0 := hide (fun (W : World) (hW : Below w9.heap.size w9 W) => ((HBw9x0.out.below hW).cell 0 (v := .slice Aw8 sl cw8) rfl).1)
  have lHBw9x0 := HBw9x0.out.lt
  have h9g : w8.heap.size ≤ h9 := by omega
  rw [← hw9, hh9]
  clear hw9 hh9
  have Dw1_w9 := hide (Dw1_w8.out.trans (Ew9.out.mono Dw1_w8.out.size))
  have Dw5_w9 := hide (Dw5_w8.out.trans (Ew9.out.mono Dw5_w8.out.size))
  have Dw7_w9 := hide (Dw7_w8.out.trans (Ew9.out.mono Dw7_w8.out.size))
  have Dw9_w9 := hide (Below.refl w9.heap.size w9)
  have HRw9 := hide (fun (W : World) (hW : Below w9.heap.size w9 W) => ((HXw8.out.below Ew9.out).below hW))
  clear p0 pa0 pa1 x0 yw7
  have p0 := HK0.out w9 Dw1_w9.out
  obtain ⟨pa0, pa1⟩ := HK1.out w9 Dw1_w9.out
  have x0 := HFK0.out w9 Dw5_w9.out
  have yw7 := HBw7k0.out w9 Dw7_w9.out
  have yw9 := HBw9k0.out w9 Dw9_w9.out
  have Edr := hide (show Below w9.heap.size w9 w9.drew from below_drewN (Below.refl _ _) 1)
  have Dw1_dr := hide (Dw1_w9.out.trans (Edr.out.mono Dw1_w9.out.size))
  have Dw5_dr := hide (Dw5_w9.out.trans (Edr.out.mono Dw5_w9.out.size))
  have Dw7_dr := hide (Dw7_w9.out.trans (Edr.out.mono Dw7_w9.out.size))
  have Dw9_dr := hide (Dw9_w9.out.trans (Edr.out.mono Dw9_w9.out.size))
  go_wp2_with fail
  go_region_held3 (fun w' => w'.cell? ⟨h5, 0, none⟩ = some (.slice Ao hl c) ∧ w'.cell? ⟨h6, 0, none⟩ = some (.slice A4 hl c4) ∧ w'.cell? ⟨h7, 0, none⟩ = some (.slice Aw6 sl cw6) ∧ w'.cell? ⟨h9, 0, none⟩ = some (.slice Aw8 sl cw8)) (first | go_keep | (exact qwh) | (exact qwg) | (exact qwf) | (exact qwe) | (exact qwc) | (exact qwb) | (exact qwa))
      (first
        | (go_at_call 10; (with_reducible refine (HSA.out _ _ _ wg (HOWN.out wg Dw5_wg.out) (HUP.out wg Dw1_wg.out)).mono ?_); rintro e wh ⟨rfl, hbwh⟩; have Dw1_wh := hide (Dw1_wg.out.trans (hbwh.mono Dw1_wg.out.size)); have Dw5_wh := hide (Dw5_wg.out.trans (hbwh.mono Dw5_wg.out.size)); have Dw7_wh := hide (Dw7_wg.out.trans (hbwh.mono Dw7_wg.out.size)); have Dw9_wh := hide (Dw9_wg.out.trans (hbwh.mono Dw9_wg.out.size)); have qwh := And.intro (HK0.out wh Dw1_wh.out) (And.intro (HFK0.out wh Dw5_wh.out) (And.intro (HBw7k0.out wh Dw7_wh.out) (HBw9k0.out wh Dw9_wh.out))); clear hbwh)
        | (go_at_call 13; (with_reducible refine (HIN.out _ _ _ wf HVX2.out HVY.out).mono ?_); rintro e wg ⟨rfl, hbwg⟩; have Dw1_wg := hide (Dw1_wf.out.trans (hbwg.mono Dw1_wf.out.size)); have Dw5_wg := hide (Dw5_wf.out.trans (hbwg.mono Dw5_wf.out.size)); have Dw7_wg := hide (Dw7_wf.out.trans (hbwg.mono Dw7_wf.out.size)); have Dw9_wg := hide (Dw9_wf.out.trans (hbwg.mono Dw9_wf.out.size)); have qwg := And.intro (HK0.out wg Dw1_wg.out) (And.intro (HFK0.out wg Dw5_wg.out) (And.intro (HBw7k0.out wg Dw7_wg.out) (HBw9k0.out wg Dw9_wg.out))); clear hbwg)
        | (go_at_call 15; (with_reducible refine (HE2.out _ we (HUP.out we Dw1_we.out) (HUR.out we Dw1_we.out)).mono ?_); rintro e wf ⟨vy, ly, rfl, HIY, hiy, hbwf⟩; have Dw1_wf := hide (Dw1_we.out.trans (hbwf.mono Dw1_we.out.size)); have Dw5_wf := hide (Dw5_we.out.trans (hbwf.mono Dw5_we.out.size)); have Dw7_wf := hide (Dw7_we.out.trans (hbwf.mono Dw7_we.out.size)); have Dw9_wf := hide (Dw9_we.out.trans (hbwf.mono Dw9_we.out.size)); have qwf := And.intro (HK0.out wf Dw1_wf.out) (And.intro (HFK0.out wf Dw5_wf.out) (And.intro (HBw7k0.out wf Dw7_wf.out) (HBw9k0.out wf Dw9_wf.out))); have HVX2 := hide (HVX.out.keep (S' := (· < wf.heap.size)) (up hbwf (Nat.le_refl _)) (fun b hb => by have := hbwf.size; omega)); have HVY := hide hiy; clear hiy; obtain rfl : lx = ly := HIX.out.one HIY.out; clear hbwf)
        | (go_at_call 14; (with_reducible refine (HE1.out _ wc (HOWN.out wc Dw5_wc.out) (HUR.out wc Dw1_wc.out)).mono ?_); rintro e we ⟨vx, lx, rfl, HIX, hix, hbwe⟩; have Dw1_we := hide (Dw1_wc.out.trans (hbwe.mono Dw1_wc.out.size)); have Dw5_we := hide (Dw5_wc.out.trans (hbwe.mono Dw5_wc.out.size)); have Dw7_we := hide (Dw7_wc.out.trans (hbwe.mono Dw7_wc.out.size)); have Dw9_we := hide (Dw9_wc.out.trans (hbwe.mono Dw9_wc.out.size)); have qwe := And.intro (HK0.out we Dw1_we.out) (And.intro (HFK0.out we Dw5_we.out) (And.intro (HBw7k0.out we Dw7_we.out) (HBw9k0.out we Dw9_we.out))); have HVX := hide hix; clear hix; clear hbwe)
        | (go_at_call 12; (with_reducible refine (HR2.out _ wb (HUP.out wb Dw1_wb.out)).mono ?_); rintro e wc ⟨rfl, hbwc⟩; have Dw1_wc := hide (Dw1_wb.out.trans (hbwc.mono Dw1_wb.out.size)); have Dw5_wc := hide (Dw5_wb.out.trans (hbwc.mono Dw5_wb.out.size)); have Dw7_wc := hide (Dw7_wb.out.trans (hbwc.mono Dw7_wb.out.size)); have Dw9_wc := hide (Dw9_wb.out.trans (hbwc.mono Dw9_wb.out.size)); have qwc := And.intro (HK0.out wc Dw1_wc.out) (And.intro (HFK0.out wc Dw5_wc.out) (And.intro (HBw7k0.out wc Dw7_wc.out) (HBw9k0.out wc Dw9_wc.out))); clear hbwc)
        | (go_at_call 11; (with_reducible refine (HR1.out _ wa (HOWN.out wa Dw5_wa.out)).mono ?_); rintro e wb ⟨rfl, hbwb⟩; have Dw1_wb := hide (Dw1_wa.out.trans (hbwb.mono Dw1_wa.out.size)); have Dw5_wb := hide (Dw5_wa.out.trans (hbwb.mono Dw5_wa.out.size)); have Dw7_wb := hide (Dw7_wa.out.trans (hbwb.mono Dw7_wa.out.size)); have Dw9_wb := hide (Dw9_wa.out.trans (hbwb.mono Dw9_wa.out.size)); have qwb := And.intro (HK0.out wb Dw1_wb.out) (And.intro (HFK0.out wb Dw5_wb.out) (And.intro (HBw7k0.out wb Dw7_wb.out) (HBw9k0.out wb Dw9_wb.out))); clear hbwb)
        | (go_at_call 10; (with_reducible refine (HSA.out _ _ _ _ (HRw7.out w9.drew Dw7_dr.out) (HRw9.out w9.drew Dw9_dr.out)).mono ?_); rintro e wa ⟨rfl, hbwa⟩; have Dw1_wa := hide (Dw1_dr.out.trans (hbwa.mono Dw1_dr.out.size)); have Dw5_wa := hide (Dw5_dr.out.trans (hbwa.mono Dw5_dr.out.size)); have Dw7_wa := hide (Dw7_dr.out.trans (hbwa.mono Dw7_dr.out.size)); have Dw9_wa := hide (Dw9_dr.out.trans (hbwa.mono Dw9_dr.out.size)); have qwa := And.intro (HK0.out wa Dw1_wa.out) (And.intro (HFK0.out wa Dw5_wa.out) (And.intro (HBw7k0.out wa Dw7_wa.out) (HBw9k0.out wa Dw9_wa.out))); clear hbwa))
  go_wp2_with fail
  go_ret
  exact ⟨by first | rfl | simp, HB1.out.trans (Dw1_wh.out.mono HB1.out.size)⟩
end Go.Proofs.Ytjlndibeaklcdaa
