/- Layer 8, the program: contracts of what Check hands to asked. No condition. -/
import Derived.Test.YtehboglielnjbaaGreatDoorPlKK
set_option linter.unusedSimpArgs false
set_option linter.unusedVariables false
namespace Go.Proofs.YtehboglielnjbaaGreatDoor
open Go.RowKit

/-- What fails of a variable: it is not set; it is a Der that is not fresh. -/
def failB (st : Bool) (f : FunV) (v : Int) (s : KSt) : Bool := if st = true then isK f v 2 && !hasB s.2 v else !hasB s.1 v
set_option maxHeartbeats 1000000 in
set_option maxRecDepth 100000 in
theorem kunset_any (vk vb vs : Value) (f : FunV) (v : Int) (hv : i64R v) (w : World) (B : Nat) (hB : B ≤ w.heap.size) (hi : FunI w (· < B) vk vb vs f) (v1 v2 : Value) (s : KSt) (hs : GoodK f s) (h1 : SetV w v1 s.1) (h2 : SetV w v2 s.2) :
    Calls Tryz.prog 22 #[.agg #[vk, vb, .int .i64 f.params, .int .i64 f.result, vs], .int .i64 v, .agg #[v1, v2]] w fun e w' => e = .returned (.bool (failB false f v s)) ∧ Below w.heap.size w w' := by
  have HHA := hide (fun (W : World) (hW : Below w.heap.size w W) => hasV (h1.below hW) (by have := hs.l1; omega) hs.w1 v hv)
  show Calls _ _ _ _ fun e w' => e = .returned (.bool (!hasB s.1 v)) ∧ Below w.heap.size w w'
  generalize hasB s.1 v = b1 at *
  obtain ⟨Ak, ck, rfl, hck, hmk⟩ := hi.1.open'
  obtain ⟨Ab, cb, rfl, hcb, hmb⟩ := hi.2.1.open'
  obtain ⟨As, cs, rfl, hcs, hms⟩ := hi.2.2.1.open'
  obtain ⟨A1, d1, rfl, -, -, -⟩ := h1
  obtain ⟨A2, d2, rfl, -, -, -⟩ := h2
  generalize s.1.length = n1, s.2.length = n2 at *
  clear hi hs hv
  generalize f.kinds.length = lk, f.base.length = lb, f.blocks.length = ls, f.params = fp, f.result = fr at *
  go_enter Tryz.func22, Tryz.ntmps22
  go_upto_region 1 with (fail)
  obtain ⟨w1, hw1⟩ : ∃ w1, w1 = (w.alloc (.cells #[.slice Ak lk ck, .slice Ab lb cb, .int .i64 fp, .int .i64 fr, .slice As ls cs] 32)).alloc (.cells #[.slice A1 n1 d1, .slice A2 n2 d2] 52) := ⟨_, rfl⟩
  obtain ⟨h5, hh5⟩ : ∃ h5, w.heap.size = h5 := ⟨_, rfl⟩
  have HX0 := hide (show Box w1 (h5) #[.slice Ak lk ck, .slice Ab lb cb, .int .i64 fp, .int .i64 fr, .slice As ls cs] 32 by rw [hw1, ← hh5]; have t := Box.new w #[.slice Ak lk ck, .slice Ab lb cb, .int .i64 fp, .int .i64 fr, .slice As ls cs] 32; (try simp only [World.size_alloc] at t); exact (t.alloc _))
  have HX1 := hide (show Box w1 (h5 + 1) #[.slice A1 n1 d1, .slice A2 n2 d2] 52 by rw [hw1, ← hh5]; have t := Box.new (w.alloc (.cells #[.slice Ak lk ck, .slice Ab lb cb, .int .i64 fp, .int .i64 fr, .slice As ls cs] 32)) #[.slice A1 n1 d1, .slice A2 n2 d2] 52; (try simp only [World.size_alloc] at t); exact t)
  have HB1 := hide (show Below w.heap.size w w1 by rw [hw1]; exact (((Below.refl _ _).alloc (Nat.le_refl _) _).alloc (by simp only [World.size_alloc]; omega) _))
  have w1s := HB1.out.size
  have w1z := hide (show w1.heap.size = h5 + 1 + 1 by rw [hw1, ← hh5]; simp only [World.size_alloc])
  have HK0 := hide (fun (W : World) (hW : Below w1.heap.size w1 W) => (And.intro ((HX0.out.below hW).cell 0 (v := .slice Ak lk ck) rfl).1 (And.intro ((HX0.out.below hW).cell 1 (v := .slice Ab lb cb) rfl).1 (And.intro ((HX0.out.below hW).cell 2 (v := .int .i64 fp) rfl).1 (And.intro ((HX0.out.below hW).cell 3 (v := .int .i64 fr) rfl).1 ((HX0.out.below hW).cell 4 (v := .slice As ls cs) rfl).1)))))
  have lHX0 := HX0.out.lt
  have HK1 := hide (fun (W : World) (hW : Below w1.heap.size w1 W) => (And.intro ((HX1.out.below hW).cell 0 (v := .slice A1 n1 d1) rfl).1 ((HX1.out.below hW).cell 1 (v := .slice A2 n2 d2) rfl).1))
  have lHX1 := HX1.out.lt
  have h5g : w.heap.size ≤ h5 := by omega
  rw [← hw1, hh5]
  clear hw1 hh5
  obtain ⟨c0, c1, c2, c3, c4⟩ := HK0.out w1 (Below.refl _ _)
  obtain ⟨s0, s1⟩ := HK1.out w1 (Below.refl _ _)
  go_wp2_with (go_at_call 23; (with_reducible refine (HHA.out w1 HB1.out).mono ?_); rintro e w2 ⟨rfl, q, rfl⟩)
  go_ret
  exact ⟨rfl, below_drewN HB1.out q⟩
set_option maxHeartbeats 1000000 in
set_option maxRecDepth 100000 in
theorem kstale_any (vk vb vs : Value) (f : FunV) (v : Int) (hv : i64R v) (w : World) (B : Nat) (hB : B ≤ w.heap.size) (hi : FunI w (· < B) vk vb vs f) (v1 v2 : Value) (s : KSt) (hs : GoodK f s) (h1 : SetV w v1 s.1) (h2 : SetV w v2 s.2) :
    Calls Tryz.prog 24 #[.agg #[vk, vb, .int .i64 f.params, .int .i64 f.result, vs], .int .i64 v, .agg #[v1, v2]] w fun e w' => e = .returned (.bool (failB true f v s)) ∧ Below w.heap.size w w' := by
  have HHA := hide (fun (W : World) (hW : Below w.heap.size w W) => hasV (h2.below hW) (by have := hs.l2; omega) hs.w2 v hv)
  have HIS := hide (fun (W : World) (hW : Below w.heap.size w W) => kis_any vk vb vs f v 2 W B (by have := hW.size; omega) (hi.keep (up hW hB) (fun _ h => h)))
  show Calls _ _ _ _ fun e w' => e = .returned (.bool (isK f v 2 && !hasB s.2 v)) ∧ Below w.heap.size w w'
  generalize hasB s.2 v = b1 at *
  generalize isK f v 2 = b2 at *
  obtain ⟨Ak, ck, rfl, hck, hmk⟩ := hi.1.open'
  obtain ⟨Ab, cb, rfl, hcb, hmb⟩ := hi.2.1.open'
  obtain ⟨As, cs, rfl, hcs, hms⟩ := hi.2.2.1.open'
  obtain ⟨A1, d1, rfl, -, -, -⟩ := h1
  obtain ⟨A2, d2, rfl, -, -, -⟩ := h2
  generalize s.1.length = n1, s.2.length = n2 at *
  clear hi hs hv
  generalize f.kinds.length = lk, f.base.length = lb, f.blocks.length = ls, f.params = fp, f.result = fr at *
  cases b2
  all_goals
    go_enter Tryz.func24, Tryz.ntmps24
    go_upto_region 1 with (fail)
    obtain ⟨w1, hw1⟩ : ∃ w1, w1 = (w.alloc (.cells #[.slice Ak lk ck, .slice Ab lb cb, .int .i64 fp, .int .i64 fr, .slice As ls cs] 32)).alloc (.cells #[.slice A1 n1 d1, .slice A2 n2 d2] 52) := ⟨_, rfl⟩
    obtain ⟨h5, hh5⟩ : ∃ h5, w.heap.size = h5 := ⟨_, rfl⟩
    have HX0 := hide (show Box w1 (h5) #[.slice Ak lk ck, .slice Ab lb cb, .int .i64 fp, .int .i64 fr, .slice As ls cs] 32 by rw [hw1, ← hh5]; have t := Box.new w #[.slice Ak lk ck, .slice Ab lb cb, .int .i64 fp, .int .i64 fr, .slice As ls cs] 32; (try simp only [World.size_alloc] at t); exact (t.alloc _))
    have HX1 := hide (show Box w1 (h5 + 1) #[.slice A1 n1 d1, .slice A2 n2 d2] 52 by rw [hw1, ← hh5]; have t := Box.new (w.alloc (.cells #[.slice Ak lk ck, .slice Ab lb cb, .int .i64 fp, .int .i64 fr, .slice As ls cs] 32)) #[.slice A1 n1 d1, .slice A2 n2 d2] 52; (try simp only [World.size_alloc] at t); exact t)
    have HB1 := hide (show Below w.heap.size w w1 by rw [hw1]; exact (((Below.refl _ _).alloc (Nat.le_refl _) _).alloc (by simp only [World.size_alloc]; omega) _))
    have w1s := HB1.out.size
    have w1z := hide (show w1.heap.size = h5 + 1 + 1 by rw [hw1, ← hh5]; simp only [World.size_alloc])
    have HK0 := hide (fun (W : World) (hW : Below w1.heap.size w1 W) => (And.intro ((HX0.out.below hW).cell 0 (v := .slice Ak lk ck) rfl).1 (And.intro ((HX0.out.below hW).cell 1 (v := .slice Ab lb cb) rfl).1 (And.intro ((HX0.out.below hW).cell 2 (v := .int .i64 fp) rfl).1 (And.intro ((HX0.out.below hW).cell 3 (v := .int .i64 fr) rfl).1 ((HX0.out.below hW).cell 4 (v := .slice As ls cs) rfl).1)))))
    have lHX0 := HX0.out.lt
    have HK1 := hide (fun (W : World) (hW : Below w1.heap.size w1 W) => (And.intro ((HX1.out.below hW).cell 0 (v := .slice A1 n1 d1) rfl).1 ((HX1.out.below hW).cell 1 (v := .slice A2 n2 d2) rfl).1))
    have lHX1 := HX1.out.lt
    have h5g : w.heap.size ≤ h5 := by omega
    rw [← hw1, hh5]
    clear hw1 hh5
    obtain ⟨c0, c1, c2, c3, c4⟩ := HK0.out w1 (Below.refl _ _)
    obtain ⟨s0, s1⟩ := HK1.out w1 (Below.refl _ _)
    go_wp2_with (first
      | (go_at_call 25; (with_reducible refine (HIS.out w1 HB1.out).mono ?_); rintro e w2 ⟨rfl, hb2⟩; obtain ⟨t0, t1⟩ := HK1.out w2 hb2; have HB2 := hide (HB1.out.trans (hb2.mono HB1.out.size)); clear hb2)
      | (go_at_call 23; (with_reducible refine (HHA.out w2 HB2.out).mono ?_); rintro e w3 ⟨rfl, q, rfl⟩))
    go_ret
    first
      | exact ⟨rfl, below_drewN HB2.out q⟩
      | exact ⟨rfl, HB2.out⟩
end Go.Proofs.YtehboglielnjbaaGreatDoor
