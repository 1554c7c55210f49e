/- Texts of several names, of which only what the statement needs is kept. -/
import Derived.Test.YthbnbaikdcfbmaaGreatDoorPmUE
set_option linter.unusedSimpArgs false
set_option linter.unusedVariables false
set_option maxHeartbeats 2000000
set_option maxRecDepth 100000
namespace Go.Proofs.YthbnbaikdcfbmaaGreatDoor
open Go.RowKit
theorem jo7 (b : Bool) (w : World) : Calls Tryz.prog 147 #[.bool b] w fun e w' => e = .returned (.int .i64 (if b = true then 1 else 0)) /\ w = w' := by
 cases b
 all_goals
  go_enter Tryz.func147, Tryz.ntmps147
  go_wp2
  go_ret
  exact ⟨rfl, rfl⟩
theorem jgn (v : ValV) (w : World) : Calls Tryz.prog 146 #[.agg #[.int .i64 v.n, .int .i64 v.o, .int .i64 v.a]] w fun e w' => e = .returned (.bool (v.o == 0)) /\ Below w.heap.size w w' := by
 obtain ⟨n, o, a⟩ := v
 show Calls Tryz.prog 146 #[.agg #[.int .i64 n, .int .i64 o, .int .i64 a]] w fun e w' => e = .returned (.bool (o == 0)) /\ Below w.heap.size w w'
 go_enter Tryz.func146, Tryz.ntmps146
 go_wp2
 go_ret
 exact ⟨rfl, ja4 w _⟩
theorem jm2 (v : ValV) (n : Int) (w : World) : Calls Tryz.prog 112 #[.agg #[.int .i64 v.n, .int .i64 v.o, .int .i64 v.a], .int .i64 n] w fun e w' => e = .returned (.tuple #[.agg #[.int .i64 (derR v n).1.n, .int .i64 (derR v n).1.o, .int .i64 (derR v n).1.a], .int .i64 (((derR v n).2 : Nat) : Int)]) /\ Below w.heap.size w w' := by
 have HN := hide (fun W => jgn v W)
 unfold derR
 obtain ⟨vn, o, va⟩ := v
 have HB := hide (show Below w.heap.size w ((w.alloc (.cells #[.int .i64 vn, .int .i64 o, .int .i64 va] 87)).alloc (.cells #[.int .i64 0, .int .i64 0, .int .i64 0] 87)) from jbm w _ _)
 obtain ⟨h5, hh5⟩ := zl w.heap.size
 by_cases h0 : o = 0
 ·subst h0
  rw [if_pos rfl]
  show Calls Tryz.prog 112 #[.agg #[.int .i64 vn, .int .i64 0, .int .i64 va], .int .i64 n] w fun e w' => e = .returned (.tuple #[.agg #[.int .i64 0, .int .i64 0, .int .i64 0], .int .i64 14]) /\ Below w.heap.size w w'
  go_enter Tryz.func112, Tryz.ntmps112
  go_upto_region 1 with (fail)
  obtain ⟨w1, hw1⟩ := zr ((w.alloc (.cells #[.int .i64 vn, .int .i64 0, .int .i64 va] 87)).alloc (.cells #[.int .i64 0, .int .i64 0, .int .i64 0] 87))
  have HX0 := zy2 hw1 hh5
  have HX1 := zx2 hw1 hh5
  rw [<- hw1] at HB ⊢
  clear hw1
  obtain ⟨a0, -⟩ := HX0.out.cell 0 (v := .int .i64 vn) rfl
  obtain ⟨a1, -⟩ := HX0.out.cell 1 (v := .int .i64 0) rfl
  obtain ⟨a2, -⟩ := HX0.out.cell 2 (v := .int .i64 va) rfl
  go_wp2_with (go_at_call 146; refine (HN.out w1).mono ?_; rintro e w2 ⟨rfl, hb2⟩; have HB2 := hide hb2; obtain ⟨z0, f0⟩ := (HX1.out.below hb2).cell 0 (v := .int .i64 0) rfl; obtain ⟨z1, f1⟩ := (HX1.out.below hb2).cell 1 (v := .int .i64 0) rfl; obtain ⟨z2, f2⟩ := (HX1.out.below hb2).cell 2 (v := .int .i64 0) rfl; clear hb2)
  have HZ := hide ((((HX1.out.below HB2.out).set 0 (.int .i64 0)).set 1 (.int .i64 0)).set 2 (.int .i64 0))
  have y0 := (HZ.out.cell 0 (v := .int .i64 0) rfl).1
  have y1 := (HZ.out.cell 1 (v := .int .i64 0) rfl).1
  have y2 := (HZ.out.cell 2 (v := .int .i64 0) rfl).1
  have hb := HB.out
  have hb2 := HB.out.trans (HB2.out.mono HB.out.size)
  refine bodyPost_ret (v := .tuple #[.agg #[.int .i64 0, .int .i64 0, .int .i64 0], .int .i64 14]) (by simp [results, Tryz.results112, go_sem, y0, y1, y2]) rfl ⟨rfl, ?_⟩
  exact ((hb2.setCell (p := ⟨h5 + 1, 0, none⟩) (by show w.heap.size <= h5 + 1; omega) _).setCell (p := ⟨h5 + 1, 1, none⟩) (by show w.heap.size <= h5 + 1; omega) _).setCell (p := ⟨h5 + 1, 2, none⟩) (by show w.heap.size <= h5 + 1; omega) _
 ·rw [if_neg h0]
  have hz : (o == 0) = false := by simpa using h0
  show Calls Tryz.prog 112 #[.agg #[.int .i64 vn, .int .i64 o, .int .i64 va], .int .i64 n] w fun e w' => e = .returned (.tuple #[.agg #[.int .i64 0, .int .i64 o, .int .i64 n], .int .i64 0]) /\ Below w.heap.size w w'
  have HN' := hide (show ∀ W, Calls Tryz.prog 146 #[.agg #[.int .i64 vn, .int .i64 o, .int .i64 va]] W fun e w' => e = .returned (.bool false) /\ Below W.heap.size W w' from fun W => by have t := HN.out W; rw [show ((⟨vn, o, va⟩ : ValV).o == 0) = false from hz] at t; exact t)
  clear HN hz h0
  go_enter Tryz.func112, Tryz.ntmps112
  go_upto_region 1 with (fail)
  obtain ⟨w1, hw1⟩ := zr ((w.alloc (.cells #[.int .i64 vn, .int .i64 o, .int .i64 va] 87)).alloc (.cells #[.int .i64 0, .int .i64 0, .int .i64 0] 87))
  have HX0 := zy2 hw1 hh5
  have HX1 := zx2 hw1 hh5
  rw [<- hw1] at HB ⊢
  clear hw1
  obtain ⟨a0, -⟩ := HX0.out.cell 0 (v := .int .i64 vn) rfl
  obtain ⟨a1, -⟩ := HX0.out.cell 1 (v := .int .i64 o) rfl
  obtain ⟨a2, -⟩ := HX0.out.cell 2 (v := .int .i64 va) rfl
  go_wp2_with (go_at_call 146; refine (HN'.out w1).mono ?_; rintro e w2 ⟨rfl, hb2⟩; have HB2 := hide hb2; have b1 := ((HX0.out.below hb2).cell 1 (v := .int .i64 o) rfl).1; obtain ⟨z0, f0⟩ := (HX1.out.below hb2).cell 0 (v := .int .i64 0) rfl; obtain ⟨z1, f1⟩ := (HX1.out.below hb2).cell 1 (v := .int .i64 0) rfl; obtain ⟨z2, f2⟩ := (HX1.out.below hb2).cell 2 (v := .int .i64 0) rfl; clear hb2)
  have HZ := hide ((((HX1.out.below HB2.out).set 0 (.int .i64 0)).set 1 (.int .i64 o)).set 2 (.int .i64 n))
  have y0 := (HZ.out.cell 0 (v := .int .i64 0) rfl).1
  have y1 := (HZ.out.cell 1 (v := .int .i64 o) rfl).1
  have y2 := (HZ.out.cell 2 (v := .int .i64 n) rfl).1
  have hb := HB.out
  have hb2 := HB.out.trans (HB2.out.mono HB.out.size)
  refine bodyPost_ret (v := .tuple #[.agg #[.int .i64 0, .int .i64 o, .int .i64 n], .int .i64 0]) (by simp [results, Tryz.results112, go_sem, y0, y1, y2]) rfl ⟨rfl, ?_⟩
  exact ((hb2.setCell (p := ⟨h5 + 1, 0, none⟩) (by show w.heap.size <= h5 + 1; omega) _).setCell (p := ⟨h5 + 1, 1, none⟩) (by show w.heap.size <= h5 + 1; omega) _).setCell (p := ⟨h5 + 1, 2, none⟩) (by show w.heap.size <= h5 + 1; omega) _
theorem jm3 (n : Int) (x : InsV) (A : Option Addr) (l c : Nat) (w : World) : Calls Tryz.prog 88 #[.int .i64 n, .agg #[.int .i64 x.op, .int .i64 x.d, .int .i64 x.a, .int .i64 x.b, .int .i64 x.n, .int .i64 x.m, .slice A l c]] w fun e w' => e = .returned (.int .i64 (if n = 0 then x.m else x.n)) /\ Below w.heap.size w w' := by
 by_cases h0 : n = 0
 ·subst h0
  rw [if_pos rfl]
  go_enter Tryz.func88, Tryz.ntmps88
  go_wp2
  go_ret
  exact ⟨rfl, ja4 w _⟩
 ·rw [if_neg h0]
  have hz : (n != 0) = true := by simpa using h0
  clear h0
  go_enter Tryz.func88, Tryz.ntmps88
  go_wp2
  go_ret
  exact ⟨rfl, ja4 w _⟩
theorem alloc3B (w : World) (o1 o2 o3 : Obj) : Below w.heap.size w (((w.alloc o1).alloc o2).alloc o3) := (jbm w o1 o2).alloc (by simp only [World.size_alloc]; omega) _
theorem jlt (a b : ValV) (x : InsV) (A : Option Addr) (l c : Nat) (w : World) : Calls Tryz.prog 113 #[.agg #[.int .i64 a.n, .int .i64 a.o, .int .i64 a.a], .agg #[.int .i64 b.n, .int .i64 b.o, .int .i64 b.a], .agg #[.int .i64 x.op, .int .i64 x.d, .int .i64 x.a, .int .i64 x.b, .int .i64 x.n, .int .i64 x.m, .slice A l c]] w fun e w' => e = .returned (.int .i64 (numR a b x)) /\ Below w.heap.size w w' := by
 have HT := hide (fun b W => jo7 b W)
 have HN := hide (fun W => jgn a W)
 unfold numR
 have HB := hide (show Below w.heap.size w (((w.alloc (.cells #[.int .i64 a.n, .int .i64 a.o, .int .i64 a.a] 87)).alloc (.cells #[.int .i64 b.n, .int .i64 b.o, .int .i64 b.a] 87)).alloc (.cells #[.int .i64 x.op, .int .i64 x.d, .int .i64 x.a, .int .i64 x.b, .int .i64 x.n, .int .i64 x.m, .slice A l c] 57)) from alloc3B w _ _ _)
 obtain ⟨h5, hh5⟩ := zl w.heap.size
 obtain ⟨w1, hw1⟩ := zr (((w.alloc (.cells #[.int .i64 a.n, .int .i64 a.o, .int .i64 a.a] 87)).alloc (.cells #[.int .i64 b.n, .int .i64 b.o, .int .i64 b.a] 87)).alloc (.cells #[.int .i64 x.op, .int .i64 x.d, .int .i64 x.a, .int .i64 x.b, .int .i64 x.n, .int .i64 x.m, .slice A l c] 57))
 have HX0 := zy3 hw1 hh5
 have HX1 := zm3 hw1 hh5
 have HX2 := zx3 hw1 hh5
 obtain ⟨a0, -⟩ := HX0.out.cell 0 (v := .int .i64 a.n) rfl
 obtain ⟨a1, -⟩ := HX0.out.cell 1 (v := .int .i64 a.o) rfl
 obtain ⟨a2, -⟩ := HX0.out.cell 2 (v := .int .i64 a.a) rfl
 obtain ⟨b0, -⟩ := HX1.out.cell 0 (v := .int .i64 b.n) rfl
 obtain ⟨b1, -⟩ := HX1.out.cell 1 (v := .int .i64 b.o) rfl
 obtain ⟨x0, -⟩ := HX2.out.cell 0 (v := .int .i64 x.op) rfl
 obtain ⟨x4, -⟩ := HX2.out.cell 4 (v := .int .i64 x.n) rfl
 generalize x.op = op at *
 generalize x.n = xn at *
 have key : op = 1 \/ op = 3 \/ op = 4 \/ op = 5 \/ op = 6 \/ op = 8 \/ op = 9 \/ (¬ op = 1 /\ ¬ op = 3 /\ ¬ op = 4 /\ ¬ op = 5 /\ ¬ op = 6 /\ ¬ op = 8 /\ ¬ op = 9) := by omega
 rcases key with rfl | rfl | rfl | rfl | rfl | rfl | rfl | ⟨n1, n3, n4, n5, n6, n8, n9⟩
 case inr.inr.inr.inr.inr.inr.inr =>
  rw [if_neg n1, if_neg n3, if_neg n4, if_neg n5, if_neg n6, if_neg n8, if_neg n9]
  have q1 : (op == 1) = false := by simpa using n1
  have q3 : (op == 3) = false := by simpa using n3
  have q4 : (op == 4) = false := by simpa using n4
  have q5 : (op == 5) = false := by simpa using n5
  have q6 : (op == 6) = false := by simpa using n6
  have q8 : (op == 8) = false := by simpa using n8
  have q9 : (op == 9) = false := by simpa using n9
  clear n1 n3 n4 n5 n6 n8 n9
  go_enter Tryz.func113, Tryz.ntmps113
  go_upto_region 1 with (fail)
  rw [<- hw1] at HB ⊢
  clear hw1
  go_wp2
  go_ret
  exact ⟨rfl, HB.out⟩
 all_goals
  simp only [if_true, if_false, show ¬ ((3 : Int) = 1) by decide, show ¬ ((4 : Int) = 1) by decide, show ¬ ((4 : Int) = 3) by decide, show ¬ ((5 : Int) = 1) by decide, show ¬ ((5 : Int) = 3) by decide, show ¬ ((5 : Int) = 4) by decide, show ¬ ((6 : Int) = 1) by decide, show ¬ ((6 : Int) = 3) by decide, show ¬ ((6 : Int) = 4) by decide, show ¬ ((6 : Int) = 5) by decide, show ¬ ((8 : Int) = 1) by decide, show ¬ ((8 : Int) = 3) by decide, show ¬ ((8 : Int) = 4) by decide, show ¬ ((8 : Int) = 5) by decide, show ¬ ((8 : Int) = 6) by decide, show ¬ ((9 : Int) = 1) by decide, show ¬ ((9 : Int) = 3) by decide, show ¬ ((9 : Int) = 4) by decide, show ¬ ((9 : Int) = 5) by decide, show ¬ ((9 : Int) = 6) by decide, show ¬ ((9 : Int) = 8) by decide]
  go_enter Tryz.func113, Tryz.ntmps113
  go_upto_region 1 with (fail)
  rw [<- hw1] at HB ⊢
  clear hw1
  go_wp2_with (first
   | (go_at_call 147; refine (HT.out _ _).mono ?_; rintro e w3 ⟨rfl, rfl⟩)
   | (go_at_call 146; refine (HN.out w1).mono ?_; rintro e w2 ⟨rfl, hb2⟩; have HB2 := hide (HB.out.trans (hb2.mono HB.out.size)); clear hb2))
  all_goals
   go_ret
   subst hh5
   first
    | exact ⟨rfl, HB.out⟩
    | exact ⟨jem (by simp), HB2.out⟩
    | exact ⟨jem (by simp), HB.out⟩
    | exact ⟨jem (by rw [if_neg (by omega)]), HB.out⟩
    | exact ⟨jem (by rw [if_pos (by omega)]), HB.out⟩
theorem jl1 (n : Nat) (h : n < 1000000) : IntKind.i64.wrap ((n : Int) + 1) = ((n + 1 : Nat) : Int) := by
 rw [IntWalk.i64_in _ ⟨by omega, by omega⟩]
 omega
theorem jhq (n : Nat) (h : n < 1000000) : wrap64 ((n : Int) + 1) = ((n + 1 : Nat) : Int) := by
 unfold wrap64
 omega
theorem Below.both {w w3 : World} (h : Below w.heap.size w w3) (p : Addr) (v : Value) : Below (w.setCell p v).heap.size (w.setCell p v) (w3.setCell p v) := by
 refine ⟨h.os, h.tape, h.output, by rw [World.size_setCell, World.size_setCell]; exact h.size, fun k hk => ?_⟩
 rw [World.size_setCell] at hk
 simp only [World.setCell, Array.getElem?_modify, h.block k hk]
theorem jba (hc g n cap : Nat) (w : World) (hlt : hc < w.heap.size) (h1 : w.cell? ⟨hc, 1, none⟩ = some (.slice (some ⟨g, 0, none⟩) (n + 1) cap)) (hn : n < 1000) (hcap : n + 1 <= cap) :
  Calls Tryz.prog 85 #[.pointer (some ⟨hc, 0, none⟩)] w fun e w' => e = .returned (.pointer (some ⟨g, n * 9, none⟩)) /\ ∃ q, w' = w.drewN q := by
 have e1 : IntKind.i64.wrap ((n : Int) + 1 - 1) = (n : Int) := by rw [Int.add_sub_cancel]; exact IntWalk.i64_in _ ⟨by omega, by omega⟩
 have hi1 : (0 : Int) <= (n : Int) := by omega
 have hi2 : (n : Int) < (n : Int) + 1 := by omega
 go_enter Tryz.func85, Tryz.ntmps85
 go_wp2_with fail
 go_quiet (fail)
 go_wp2_with fail
 go_ret
 exact ⟨rfl, _, rfl⟩
theorem Box.set7 {w : World} {h : Nat} {T : TypeId} {a0 a1 a2 a3 a4 a5 a6 : Value} (v0 v1 v2 v3 v4 v5 v6 : Value) (b : Box w h #[a0, a1, a2, a3, a4, a5, a6] T) : Box (((((((w.setCell ⟨h, 0, none⟩ v0).setCell ⟨h, 1, none⟩ v1).setCell ⟨h, 2, none⟩ v2).setCell ⟨h, 3, none⟩ v3).setCell ⟨h, 4, none⟩ v4).setCell ⟨h, 5, none⟩ v5).setCell ⟨h, 6, none⟩ v6) h #[v0, v1, v2, v3, v4, v5, v6] T := by
 have t0 : Box (w.setCell ⟨h, 0, none⟩ v0) h #[v0, a1, a2, a3, a4, a5, a6] T := by have t := b.set 0 v0; simpa using t
 have t1 : Box ((w.setCell ⟨h, 0, none⟩ v0).setCell ⟨h, 1, none⟩ v1) h #[v0, v1, a2, a3, a4, a5, a6] T := by have t := t0.set 1 v1; simpa using t
 have t2 : Box (((w.setCell ⟨h, 0, none⟩ v0).setCell ⟨h, 1, none⟩ v1).setCell ⟨h, 2, none⟩ v2) h #[v0, v1, v2, a3, a4, a5, a6] T := by have t := t1.set 2 v2; simpa using t
 have t3 : Box ((((w.setCell ⟨h, 0, none⟩ v0).setCell ⟨h, 1, none⟩ v1).setCell ⟨h, 2, none⟩ v2).setCell ⟨h, 3, none⟩ v3) h #[v0, v1, v2, v3, a4, a5, a6] T := by have t := t2.set 3 v3; simpa using t
 have t4 : Box (((((w.setCell ⟨h, 0, none⟩ v0).setCell ⟨h, 1, none⟩ v1).setCell ⟨h, 2, none⟩ v2).setCell ⟨h, 3, none⟩ v3).setCell ⟨h, 4, none⟩ v4) h #[v0, v1, v2, v3, v4, a5, a6] T := by have t := t3.set 4 v4; simpa using t
 have t5 : Box ((((((w.setCell ⟨h, 0, none⟩ v0).setCell ⟨h, 1, none⟩ v1).setCell ⟨h, 2, none⟩ v2).setCell ⟨h, 3, none⟩ v3).setCell ⟨h, 4, none⟩ v4).setCell ⟨h, 5, none⟩ v5) h #[v0, v1, v2, v3, v4, v5, a6] T := by have t := t4.set 5 v5; simpa using t
 have t6 : Box (((((((w.setCell ⟨h, 0, none⟩ v0).setCell ⟨h, 1, none⟩ v1).setCell ⟨h, 2, none⟩ v2).setCell ⟨h, 3, none⟩ v3).setCell ⟨h, 4, none⟩ v4).setCell ⟨h, 5, none⟩ v5).setCell ⟨h, 6, none⟩ v6) h #[v0, v1, v2, v3, v4, v5, v6] T := by have t := t5.set 6 v6; simpa using t
 exact t6
theorem Box.drewU {w : World} {h : Nat} {cs : Array Value} {T : TypeId} (b : Box w h cs T) : Box w.drew h cs T := b
theorem ja7 {B : Nat} {w W : World} (h : Below B w W) : Below B w W.drew := ⟨h.os, h.tape, h.output, h.size, h.block⟩
theorem jar {w : World} (q : Nat) : Below w.heap.size w (w.drewN q) := ja0 (Below.refl _ _) q
section
variable {w : World} {base hc : Nat} {vp va vh ve : Value} {P : List FunV} {s : StV} {L : List (FrV × ActW)} {f : FrV} {a : ActW} {S : Nat -> Prop}
theorem RunP.low (h : RunP w base hc vp P s va vh ve L S) : ObjsV w (· < w.heap.size) vh s.heap := h.objs.keep (fun _ _ _ => rfl) (fun b hb => (h.sin b hb).1)
end
theorem jjn (base hc : Nat) (vp va vh ve : Value) (P : List FunV) (s : StV) (L : List (FrV × ActW)) (S : Nat -> Prop) (obj n : Int) (w : World) (hR : RunP w base hc vp P s va vh ve L S) (hl : s.heap.length <= 10000) :
  Calls Tryz.prog 110 #[.pointer (some ⟨hc, 0, none⟩), .int .i64 obj, .int .i64 n] w fun e w' => e = .returned (.tuple #[.agg #[.int .i64 (jbb s.heap obj n).1, .int .i64 0, .int .i64 0], .int .i64 (((jbb s.heap obj n).2 : Nat) : Int)]) /\ Below w.heap.size w w' := by
 have HL := hide (fun (W : World) (hW : Below w.heap.size w W) => jrz vh s.heap obj n W w.heap.size hW.size (hR.low.keep (up hW (Nat.le_refl _)) (fun _ h => h)) (by omega))
 have hlt := hR.box.lt
 obtain ⟨Ao, c, rfl, hc', hm⟩ := hR.objs.open'
 have c2 := (hR.box.cell 2 (v := .slice Ao s.heap.length c) rfl).1
 generalize jbb s.heap obj n = r at *
 obtain ⟨r1, r2⟩ := r
 show Calls Tryz.prog 110 #[.pointer (some ⟨hc, 0, none⟩), .int .i64 obj, .int .i64 n] w fun e w' => e = .returned (.tuple #[.agg #[.int .i64 r1, .int .i64 0, .int .i64 0], .int .i64 ((r2 : Nat) : Int)]) /\ Below w.heap.size w w'
 generalize s.heap.length = hn at *
 clear hR
 go_enter Tryz.func110, Tryz.ntmps110
 go_upto_region 1 with (fail)
 obtain ⟨w1, hw1⟩ := zr (w.alloc (.cells #[.int .i64 0, .int .i64 0, .int .i64 0] 87))
 obtain ⟨h5, hh5⟩ := zl w.heap.size
 have HX := zx1 hw1 hh5
 have HB1 := zb1 hw1
 have h5g : w.heap.size <= h5 := by omega
 have p2 : w1.cell? ⟨hc, 2, none⟩ = some (.slice Ao hn c) := (HB1.out.cell (p := ⟨hc, 2, none⟩) hlt).trans c2
 rw [<- hw1, hh5]
 clear hw1 hh5 c2
 go_upto_region 2 with (go_at_call 144; (with_reducible refine (HL.out w1 HB1.out).mono ?_); rintro e w2 ⟨rfl, hb2⟩; have HB2 := hide (HB1.out.trans (hb2.mono HB1.out.size)); obtain ⟨z0, f0⟩ := (HX.out.below hb2).cell 0 (v := .int .i64 0) rfl; obtain ⟨z1, f1⟩ := (HX.out.below hb2).cell 1 (v := .int .i64 0) rfl; obtain ⟨z2, f2⟩ := (HX.out.below hb2).cell 2 (v := .int .i64 0) rfl; have HX2 := hide (HX.out.below hb2); clear hb2)
 go_wp2
 have HZ := hide (((HX2.out.set 0 (.int .i64 r1)).set 1 (.int .i64 0)).set 2 (.int .i64 0))
 have y0 := (HZ.out.cell 0 (v := .int .i64 r1) rfl).1
 have y1 := (HZ.out.cell 1 (v := .int .i64 0) rfl).1
 have y2 := (HZ.out.cell 2 (v := .int .i64 0) rfl).1
 refine bodyPost_ret (v := .tuple #[.agg #[.int .i64 r1, .int .i64 0, .int .i64 0], .int .i64 (r2 : Nat)]) (by simp [results, Tryz.results110, go_sem, y0, y1, y2]) rfl ⟨rfl, ?_⟩
 exact ((HB2.out.setCell (p := ⟨h5, 0, none⟩) h5g _).setCell (p := ⟨h5, 1, none⟩) h5g _).setCell (p := ⟨h5, 2, none⟩) h5g _
theorem jo9 (base hc : Nat) (vp va vh ve : Value) (P : List FunV) (s : StV) (L : List (FrV × ActW)) (f : FrV) (a : ActW) (F : FunV) (m : Nat) (S : Nat -> Prop) (w : World) (hR : RunP w base hc vp P s va vh ve (L ++ [(f, a)]) S) (hF : FrOk P m f F) (hL : L.length < 1000) (hbase : base <= w.heap.size) (hsm : f.pl < 1000) :
  Calls Tryz.prog 68 #[.pointer (some ⟨hc, 0, none⟩)] w fun e w' => ∃ A c, e = .returned (.agg #[.int .i64 (jbz P f).op, .int .i64 (jbz P f).d, .int .i64 (jbz P f).a, .int .i64 (jbz P f).b, .int .i64 (jbz P f).n, .int .i64 (jbz P f).m, .slice A (jbz P f).args.length c]) /\ InsI w' (· < base) (.slice A (jbz P f).args.length c) (jbz P f) /\
   RunP w' base hc vp P { s with stk := L.map Prod.fst ++ [{ f with pl := f.pl + 1 }] } va vh ve (L ++ [({ f with pl := f.pl + 1 }, a)]) S /\ Below base w w' := by
 obtain ⟨g, cap, rfl, hcap, hcm, hgb, hgl, hgne, hcell⟩ := hR.last
 obtain ⟨F', hF1, hFI, -, -⟩ := (hR.all (f, a) (by simp)).fn
 have hFF : F' = F := by have := hF1.symm.trans hF.fn; injection this
 subst hFF
 have hins := hF.ins
 have hblk : F'.blocks[f.bl]? = some (jaj F' f.bl) := by
  unfold jaj
  rw [List.getElem?_eq_getElem hF.bl]
  rfl
 have hbl := hF.bl
 have hpl := hF.pl
 have HTOP := hide (fun (u : Value) (k : Nat) (hk : k = L.length * 9 + 6) (hq : u = .int .i64 ((f.pl + 1 : Nat) : Int)) => (show RunP (w.setCell ⟨g, k, none⟩ u) base hc vp P { s with stk := L.map Prod.fst ++ [{ f with pl := f.pl + 1 }] } (.slice (some ⟨g, 0, none⟩) (L.length + 1) cap) vh ve (L ++ [({ f with pl := f.pl + 1 }, a)]) S from by subst hk; exact hR.top 6 u { f with pl := f.pl + 1 } (by omega) (by subst hq; rfl) rfl rfl))
 have hhc := hR.box.lt
 have c1 := (hR.box.cell 1 (v := .slice (some ⟨g, 0, none⟩) (L.length + 1) cap) rfl).1
 obtain ⟨n, hn⟩ := zl L.length
 rw [hn] at hcap c1 hcell hL
 have HNK := hide (show n * 9 + 5 + 1 = L.length * 9 + 6 by rw [hn])
 obtain ⟨vk, vb, pa, re, vs, vv⟩ := a
 obtain ⟨As, cs, e4, hcs, hcsm⟩ := hFI.2.2.1.open'
 subst e4
 obtain ⟨b1, o1, Ac, cc, hAs, hb1, k1, hIn⟩ := hFI.2.2.1.get hblk
 subst hAs
 obtain ⟨b2, o2, A, c, hAc, hb2, ⟨x0, x1, x2, x3, x4, x5, x6⟩, hII⟩ := hIn.get hins
 subst hAc
 generalize jbz P f = x at *
 simp only [maxLen] at hcm
 have t4 := (hcell 4 (.slice (some ⟨b1, o1, none⟩) F'.blocks.length cs) (by omega) rfl).1
 have t5 := (hcell 5 (.int .i64 (f.bl : Int)) (by omega) rfl).1
 obtain ⟨t6, t6f⟩ := hcell 6 (.int .i64 (f.pl : Int)) (by omega) rfl
 replace t6 : w.cell? ⟨g, n * 9 + 5 + 1, none⟩ = some (.int .i64 (f.pl : Int)) := t6
 replace t6f : w.frozen? ⟨g, n * 9 + 5 + 1, none⟩ = false := t6f
 have HL := hide (fun (W : World) (q1 : hc < W.heap.size) (q2 : W.cell? ⟨hc, 1, none⟩ = some (.slice (some ⟨g, 0, none⟩) (n + 1) cap)) => jba hc g n cap W q1 q2 hL hcap)
 generalize f.bl = bl, f.pl = pl at *
 generalize F'.blocks.length = nb, (jaj F' bl).length = nc at *
 have HII := hide hII
 have i1 : (0 : Int) <= (bl : Int) := by omega
 have i2 : (bl : Int) < (nb : Int) := by omega
 have i3 : (0 : Int) <= (pl : Int) := by omega
 have i4 : (pl : Int) < (nc : Int) := by omega
 have b1l : b1 < w.heap.size := by omega
 have b2l : b2 < w.heap.size := by omega
 have wz := jhq pl (Nat.lt_of_lt_of_le hsm (by decide))
 have wz2 := jl1 pl (Nat.lt_of_lt_of_le hsm (by decide))
 clear hR hF hF1 hFI hins hblk hIn hII hcell hbl hpl
 go_enter Tryz.func68, Tryz.ntmps68
 go_upto_region 1 with (fail)
 obtain ⟨w1, hw1⟩ := zr (w.alloc (.cells #[.int .i64 0, .int .i64 0, .int .i64 0, .int .i64 0, .int .i64 0, .int .i64 0, .slice none 0 0] 57))
 obtain ⟨h5, hh5⟩ := zl w.heap.size
 have HX := zx1 hw1 hh5
 have HB1 := zb1 hw1
 have h5g : w.heap.size <= h5 := by omega
 rw [<- hw1, hh5]
 clear hw1 hh5
 have HK := hide (fun (W : World) (hW : Below w.heap.size w W) => And.intro (And.intro ((hW.cell (p := ⟨hc, 1, none⟩) hhc).trans c1) (And.intro ((hW.cell (p := ⟨g, n * 9 + 4, none⟩) hgl).trans t4) (And.intro ((hW.cell (p := ⟨g, n * 9 + 5, none⟩) hgl).trans t5) ((hW.cell (p := ⟨g, n * 9 + 5 + 1, none⟩) hgl).trans t6)))) (And.intro ((hW.cell (p := ⟨b1, o1 + bl, none⟩) b1l).trans k1) (And.intro ((hW.cell (p := ⟨b2, o2 + pl * 7, none⟩) b2l).trans x0) (And.intro ((hW.cell (p := ⟨b2, o2 + pl * 7 + 1, none⟩) b2l).trans x1) (And.intro ((hW.cell (p := ⟨b2, o2 + pl * 7 + 2, none⟩) b2l).trans x2) (And.intro ((hW.cell (p := ⟨b2, o2 + pl * 7 + 3, none⟩) b2l).trans x3) (And.intro ((hW.cell (p := ⟨b2, o2 + pl * 7 + 4, none⟩) b2l).trans x4) (And.intro ((hW.cell (p := ⟨b2, o2 + pl * 7 + 5, none⟩) b2l).trans x5) ((hW.cell (p := ⟨b2, o2 + pl * 7 + 6, none⟩) b2l).trans x6)))))))))
 have p1 := (HK.out w1 HB1.out).1.1
 have hhc1 : hc < w1.heap.size := by have := HB1.out.size; omega
 clear c1 t4 t5 t6 k1 x0 x1 x2 x3 x4 x5 x6
 go_upto_region 2 with (go_at_call 85; (with_reducible refine (HL.out w1 hhc1 p1).mono ?_); rintro e w2 ⟨rfl, q, hw2⟩; have HB2 := hide (show Below w1.heap.size w1 w2 by rw [hw2]; exact jar q); clear hw2)
 have HC2 := hide (HB1.out.trans (HB2.out.mono HB1.out.size))
 obtain ⟨⟨-, t4, t5, t6⟩, k1, x0, x1, x2, x3, x4, x5, x6⟩ := HK.out w2 HC2.out
 clear p1
 have t6' : w2.cell? ⟨g, n * 9 + 6, none⟩ = some (.int .i64 (pl : Int)) := t6
 have gl2 : g < w2.heap.size := Nat.lt_of_lt_of_le hgl HC2.out.size
 have bl21 : b1 < w2.heap.size := Nat.lt_of_lt_of_le b1l HC2.out.size
 have bl22 : b2 < w2.heap.size := Nat.lt_of_lt_of_le b2l HC2.out.size
 go_region
 have t6g : w2.frozen? ⟨g, n * 9 + 5 + 1, none⟩ = false := (World.frozen?_of_block (a := ⟨g, n * 9 + 5 + 1, none⟩) (HC2.out.block g hgl)).trans t6f
 have hgh : h5 ≠ g := by omega
 have HX2 := hide (HX.out.below HB2.out)
 obtain ⟨z0, f0⟩ := HX2.out.cell 0 (v := .int .i64 0) rfl
 obtain ⟨z1, f1⟩ := HX2.out.cell 1 (v := .int .i64 0) rfl
 obtain ⟨z2, f2⟩ := HX2.out.cell 2 (v := .int .i64 0) rfl
 obtain ⟨z3, f3⟩ := HX2.out.cell 3 (v := .int .i64 0) rfl
 obtain ⟨z4, f4⟩ := HX2.out.cell 4 (v := .int .i64 0) rfl
 obtain ⟨z5, f5⟩ := HX2.out.cell 5 (v := .int .i64 0) rfl
 obtain ⟨z6, f6⟩ := HX2.out.cell 6 (v := .slice none 0 0) rfl
 have h5l := HX2.out.lt
 have HX3 := hide (show Box (w2.setCell ⟨g, n * 9 + 5 + 1, none⟩ (.int .i64 ((pl : Int) + 1))) h5 #[.int .i64 0, .int .i64 0, .int .i64 0, .int .i64 0, .int .i64 0, .int .i64 0, .slice none 0 0] 57 from HX2.out.other hgh)
 have HB4 := hide (ja7 (((((((((Below.both HC2.out ⟨g, n * 9 + 5 + 1, none⟩ (.int .i64 ((pl : Int) + 1))).setCell (p := ⟨h5, 0, none⟩) (by rw [World.size_setCell]; exact h5g) (.int .i64 x.op)).setCell (p := ⟨h5, 1, none⟩) (by rw [World.size_setCell]; exact h5g) (.int .i64 x.d)).setCell (p := ⟨h5, 2, none⟩) (by rw [World.size_setCell]; exact h5g) (.int .i64 x.a)).setCell (p := ⟨h5, 3, none⟩) (by rw [World.size_setCell]; exact h5g) (.int .i64 x.b)).setCell (p := ⟨h5, 4, none⟩) (by rw [World.size_setCell]; exact h5g) (.int .i64 x.n)).setCell (p := ⟨h5, 5, none⟩) (by rw [World.size_setCell]; exact h5g) (.int .i64 x.m)).setCell (p := ⟨h5, 6, none⟩) (by rw [World.size_setCell]; exact h5g) (.slice A x.args.length c)).alloc (by rw [World.size_setCell, World.size_setCell, World.size_setCell, World.size_setCell, World.size_setCell, World.size_setCell, World.size_setCell, World.size_setCell, World.size_setCell]; exact HC2.out.size) (.cells #[.int .i64 x.op, .int .i64 x.d, .int .i64 x.a, .int .i64 x.b, .int .i64 x.n, .int .i64 x.m, .slice A x.args.length c] 57)))
 have HT := hide (HTOP.out _ (n * 9 + 5 + 1) HNK.out (by rw [<- Int.natCast_add_one] : Value.int .i64 ((pl : Int) + 1) = .int .i64 ((pl + 1 : Nat) : Int)))
 have HBB := hide ((show Below base w (w.setCell ⟨g, n * 9 + 5 + 1, none⟩ (.int .i64 ((pl : Int) + 1))) from (Below.refl _ _).setCell (p := ⟨g, n * 9 + 5 + 1, none⟩) hgb _).trans (HB4.out.mono (by rw [World.size_setCell]; exact hbase)))
 go_wp2
 have HZ := hide (((Box.set7 (.int .i64 x.op) (.int .i64 x.d) (.int .i64 x.a) (.int .i64 x.b) (.int .i64 x.n) (.int .i64 x.m) (.slice A x.args.length c) HX3.out).alloc (.cells #[.int .i64 x.op, .int .i64 x.d, .int .i64 x.a, .int .i64 x.b, .int .i64 x.n, .int .i64 x.m, .slice A x.args.length c] 57)).drewU)
 have y0 := (HZ.out.cell 0 (v := .int .i64 x.op) rfl).1
 have y1 := (HZ.out.cell 1 (v := .int .i64 x.d) rfl).1
 have y2 := (HZ.out.cell 2 (v := .int .i64 x.a) rfl).1
 have y3 := (HZ.out.cell 3 (v := .int .i64 x.b) rfl).1
 have y4 := (HZ.out.cell 4 (v := .int .i64 x.n) rfl).1
 have y5 := (HZ.out.cell 5 (v := .int .i64 x.m) rfl).1
 have y6 := (HZ.out.cell 6 (v := .slice A x.args.length c) rfl).1
 refine bodyPost_ret (v := .agg #[.int .i64 x.op, .int .i64 x.d, .int .i64 x.a, .int .i64 x.b, .int .i64 x.n, .int .i64 x.m, .slice A x.args.length c]) (by simp [results, Tryz.results68, go_sem, y0, y1, y2, y3, y4, y5, y6]) rfl ⟨A, c, rfl, HII.out.keep (Same'.of_below HBB.out) (fun _ h => h), HT.out.below HB4.out, HBB.out⟩
end Go.Proofs.YthbnbaikdcfbmaaGreatDoor
