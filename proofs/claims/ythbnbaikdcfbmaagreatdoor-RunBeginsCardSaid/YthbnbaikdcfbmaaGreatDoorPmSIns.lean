/- Texts of several names, of which only what the statement needs is kept. -/
import Derived.Test.YthbnbaikdcfbmaaGreatDoorPmUQ
set_option linter.unusedSimpArgs false
set_option linter.unusedVariables false
set_option maxHeartbeats 4000000
set_option maxRecDepth 100000
namespace Go.Proofs.YthbnbaikdcfbmaaGreatDoor
open Go.RowKit
theorem jg7 (vp : Value) (P : List FunV) (fuel : Int) (w : World) (B : Nat) (hB : B <= w.heap.size) (hp : FunsV w (· < B) vp P) (hT : TabP w) (hRw : RowP w) (hf : jaz P) (hC : ∀ n, ChkR P n -> n = 0) (hP : jad P = true) (hRR : RunR P) :
  Calls Tryz.prog 12 #[.agg #[vp], .int .i64 fuel] w fun e w' => ∃ ve, e = .returned (.agg #[ve, .int .i64 ((runS P fuel).en : Int), .int .i64 (runS P fuel).val, .int .i64 ((runS P fuel).code : Int)]) /\ IntsV w' (fun b => w.heap.size <= b /\ b < w'.heap.size) ve (runS P fuel).ev /\ Below w.heap.size w w' := by
 have HAF := hide (fun (W : World) (hW : Below w.heap.size w W) => jfe vp P fuel W B (by have := hW.size; omega) (hp.keep (up hW hB) (fun _ h => h)) (hT.below hW hT.1) (hRw.below hW hRw.1) hf hC hP hRR)
 obtain ⟨Ap, cp, rfl, -, -⟩ := hp.open'
 obtain ⟨pl, hpl⟩ := zl P.length
 rw [hpl] at HAF ⊢
 obtain ⟨s, hs⟩ := zl (runS P fuel)
 rw [hs] at HAF ⊢
 clear hp hT hRw hf hC hP hRR hpl hs hB
 go_enter Tryz.func12, Tryz.ntmps12
 go_upto_region 1 with (fail)
 obtain ⟨w1, hw1⟩ := zr ((w.alloc (.cells #[.slice Ap pl cp] 24)).alloc (.cells #[.slice none 0 0, .int .i64 0, .int .i64 0, .int .i64 0] 35))
 obtain ⟨h5, hh5⟩ := zl w.heap.size
 have HX0 := zy2 hw1 hh5
 have HX1 := zx2 hw1 hh5
 have HB1 := zb2 hw1
 have h5g : w.heap.size <= h5 := by omega
 obtain ⟨p0, -⟩ := HX0.out.cell 0 (v := .slice Ap pl cp) rfl
 have lx := HX1.out.lt
 rw [<- hw1, hh5]
 clear hw1 hh5
 go_wp2_with (go_at_call 24; (with_reducible refine (HAF.out w1 HB1.out).mono ?_); rintro e w2 ⟨va, vh, ve, rfl, hO, hI, hb⟩; obtain ⟨Ae, ce, rfl, he1, he2, he3⟩ := hI; obtain ⟨Ah, ch, rfl, ho1, ho2, ho3⟩ := hO; have HI := hide (show IntsV w2 (fun b => w1.heap.size <= b /\ b < w2.heap.size) (.slice Ae s.ev.length ce) s.ev from ⟨Ae, ce, rfl, he1, he2, he3⟩); have HO := hide (show ObjsV w2 (fun b => w1.heap.size <= b /\ b < w2.heap.size) (.slice Ah s.heap.length ch) s.heap from ⟨Ah, ch, rfl, ho1, ho2, ho3⟩); have HB2 := hide (HB1.out.trans (hb.mono HB1.out.size)); have fd : ∀ w, (Instr.field 67 (.agg #[.slice Ap pl cp, va, .slice Ah s.heap.length ch, .slice Ae s.ev.length ce, .int .i64 (s.en : Int), .int .i64 s.val, .int .i64 (s.code : Int), .int .i64 (s.steps : Int)]) 3).run Tryz.prog w = .ok (.agg #[.slice Ae s.ev.length ce, .int .i64 (s.en : Int), .int .i64 s.val, .int .i64 (s.code : Int)]) w := (fun _ => by kernel_rfl); have HX2 := hide (HX1.out.below hb); obtain ⟨z0, f0⟩ := HX2.out.cell 0 (v := .slice none 0 0) rfl; obtain ⟨z1, f1⟩ := HX2.out.cell 1 (v := .int .i64 0) rfl; obtain ⟨z2, f2⟩ := HX2.out.cell 2 (v := .int .i64 0) rfl; obtain ⟨z3, f3⟩ := HX2.out.cell 3 (v := .int .i64 0) rfl; have lx2 := HX2.out.lt; clear hb he1 he2 he3 ho1 ho2 ho3 p0)
 have HZ := hide ((((HX2.out.set 0 (.slice Ae s.ev.length ce)).set 1 (.int .i64 (s.en : Int))).set 2 (.int .i64 s.val)).set 3 (.int .i64 (s.code : Int)))
 have y0 := (HZ.out.cell 0 (v := .slice Ae s.ev.length ce) rfl).1
 have y1 := (HZ.out.cell 1 (v := .int .i64 (s.en : Int)) rfl).1
 have y2 := (HZ.out.cell 2 (v := .int .i64 s.val) rfl).1
 have y3 := (HZ.out.cell 3 (v := .int .i64 (s.code : Int)) rfl).1
 refine bodyPost_ret (v := .agg #[.slice Ae s.ev.length ce, .int .i64 (s.en : Int), .int .i64 s.val, .int .i64 (s.code : Int)]) (by simp [results, Tryz.results12, go_sem, y0, y1, y2, y3]) rfl ⟨_, rfl, IntsV.keep HI.out (fun b o hb => have hne : b ≠ h5 + 1 := (by have h : w1.heap.size <= b := hb.1; omega); ja8 (by rw [heap_setCell_other _ _ _ _ hne]; rw [heap_setCell_other _ _ _ _ hne]; rw [heap_setCell_other _ _ _ _ hne]; rw [heap_setCell_other _ _ _ _ hne]) o) (fun b hb => ⟨by have h : w1.heap.size <= b := hb.1; have := HB1.out.size; omega, by rw [World.size_setCell]; rw [World.size_setCell]; rw [World.size_setCell]; rw [World.size_setCell]; exact hb.2⟩), ((((HB2.out.setCell (p := ⟨h5 + 1, 0, none⟩) (show w.heap.size <= h5 + 1 by omega) _).setCell (p := ⟨h5 + 1, 1, none⟩) (show w.heap.size <= h5 + 1 by omega) _).setCell (p := ⟨h5 + 1, 2, none⟩) (show w.heap.size <= h5 + 1 by omega) _).setCell (p := ⟨h5 + 1, 3, none⟩) (show w.heap.size <= h5 + 1 by omega) _)⟩
theorem jht (vp : Value) (P : List FunV) (fuel : Int) (w : World) (B : Nat) (hB : B <= w.heap.size) (hp : FunsV w (· < B) vp P) (hT : TabP w) (hRw : RowP w) (hf : jaz P) (hC : ∀ n, ChkR P n -> n = 0) (hP : jad P = true) (hRR : RunR P) :
  Calls Tryz.prog 13 #[.agg #[vp], .int .i64 fuel] w fun e w' => e = .returned (.int .i64 ((runS P fuel).steps : Int)) /\ Below w.heap.size w w' := by
 have HAF := hide (fun (W : World) (hW : Below w.heap.size w W) => jfe vp P fuel W B (by have := hW.size; omega) (hp.keep (up hW hB) (fun _ h => h)) (hT.below hW hT.1) (hRw.below hW hRw.1) hf hC hP hRR)
 obtain ⟨Ap, cp, rfl, -, -⟩ := hp.open'
 obtain ⟨pl, hpl⟩ := zl P.length
 rw [hpl] at HAF ⊢
 obtain ⟨s, hs⟩ := zl (runS P fuel)
 rw [hs] at HAF ⊢
 clear hp hT hRw hf hC hP hRR hpl hs hB
 go_enter Tryz.func13, Tryz.ntmps13
 go_upto_region 1 with (fail)
 obtain ⟨w1, hw1⟩ := zr (w.alloc (.cells #[.slice Ap pl cp] 24))
 obtain ⟨h5, hh5⟩ := zl w.heap.size
 have HX0 := zx1 hw1 hh5
 have HB1 := zb1 hw1
 have h5g : w.heap.size <= h5 := by omega
 obtain ⟨p0, -⟩ := HX0.out.cell 0 (v := .slice Ap pl cp) rfl
 have lx := HX0.out.lt
 rw [<- hw1, hh5]
 clear hw1 hh5
 go_wp2_with (go_at_call 24; (with_reducible refine (HAF.out w1 HB1.out).mono ?_); rintro e w2 ⟨va, vh, ve, rfl, hO, hI, hb⟩; obtain ⟨Ae, ce, rfl, he1, he2, he3⟩ := hI; obtain ⟨Ah, ch, rfl, ho1, ho2, ho3⟩ := hO; have HI := hide (show IntsV w2 (fun b => w1.heap.size <= b /\ b < w2.heap.size) (.slice Ae s.ev.length ce) s.ev from ⟨Ae, ce, rfl, he1, he2, he3⟩); have HO := hide (show ObjsV w2 (fun b => w1.heap.size <= b /\ b < w2.heap.size) (.slice Ah s.heap.length ch) s.heap from ⟨Ah, ch, rfl, ho1, ho2, ho3⟩); have HB2 := hide (HB1.out.trans (hb.mono HB1.out.size)); have fd : ∀ w, (Instr.field 67 (.agg #[.slice Ap pl cp, va, .slice Ah s.heap.length ch, .slice Ae s.ev.length ce, .int .i64 (s.en : Int), .int .i64 s.val, .int .i64 (s.code : Int), .int .i64 (s.steps : Int)]) 4).run Tryz.prog w = .ok (.int .i64 (s.steps : Int)) w := (fun _ => by kernel_rfl); clear hb he1 he2 he3 ho1 ho2 ho3 p0)
 go_ret
 exact ⟨rfl, HB2.out⟩
theorem jjo (vp : Value) (P : List FunV) (fuel : Int) (w : World) (B : Nat) (hB : B <= w.heap.size) (hp : FunsV w (· < B) vp P) (hT : TabP w) (hRw : RowP w) (hf : jaz P) (hC : ∀ n, ChkR P n -> n = 0) (hP : jad P = true) (hRR : RunR P) :
  Calls Tryz.prog 15 #[.agg #[vp], .int .i64 fuel] w fun e w' => ∃ vh, e = .returned (.agg #[vh]) /\ ObjsV w' (fun b => w.heap.size <= b /\ b < w'.heap.size) vh (runS P fuel).heap /\ Below w.heap.size w w' := by
 have HAF := hide (fun (W : World) (hW : Below w.heap.size w W) => jfe vp P fuel W B (by have := hW.size; omega) (hp.keep (up hW hB) (fun _ h => h)) (hT.below hW hT.1) (hRw.below hW hRw.1) hf hC hP hRR)
 obtain ⟨Ap, cp, rfl, -, -⟩ := hp.open'
 obtain ⟨pl, hpl⟩ := zl P.length
 rw [hpl] at HAF ⊢
 obtain ⟨s, hs⟩ := zl (runS P fuel)
 rw [hs] at HAF ⊢
 clear hp hT hRw hf hC hP hRR hpl hs hB
 go_enter Tryz.func15, Tryz.ntmps15
 go_upto_region 1 with (fail)
 obtain ⟨w1, hw1⟩ := zr ((w.alloc (.cells #[.slice Ap pl cp] 24)).alloc (.cells #[.slice none 0 0] 31))
 obtain ⟨h5, hh5⟩ := zl w.heap.size
 have HX0 := zy2 hw1 hh5
 have HX1 := zx2 hw1 hh5
 have HB1 := zb2 hw1
 have h5g : w.heap.size <= h5 := by omega
 obtain ⟨p0, -⟩ := HX0.out.cell 0 (v := .slice Ap pl cp) rfl
 have lx := HX1.out.lt
 rw [<- hw1, hh5]
 clear hw1 hh5
 go_wp2_with (go_at_call 24; (with_reducible refine (HAF.out w1 HB1.out).mono ?_); rintro e w2 ⟨va, vh, ve, rfl, hO, hI, hb⟩; obtain ⟨Ae, ce, rfl, he1, he2, he3⟩ := hI; obtain ⟨Ah, ch, rfl, ho1, ho2, ho3⟩ := hO; have HI := hide (show IntsV w2 (fun b => w1.heap.size <= b /\ b < w2.heap.size) (.slice Ae s.ev.length ce) s.ev from ⟨Ae, ce, rfl, he1, he2, he3⟩); have HO := hide (show ObjsV w2 (fun b => w1.heap.size <= b /\ b < w2.heap.size) (.slice Ah s.heap.length ch) s.heap from ⟨Ah, ch, rfl, ho1, ho2, ho3⟩); have HB2 := hide (HB1.out.trans (hb.mono HB1.out.size)); have fd : ∀ w, (Instr.field 67 (.agg #[.slice Ap pl cp, va, .slice Ah s.heap.length ch, .slice Ae s.ev.length ce, .int .i64 (s.en : Int), .int .i64 s.val, .int .i64 (s.code : Int), .int .i64 (s.steps : Int)]) 2).run Tryz.prog w = .ok (.agg #[.slice Ah s.heap.length ch]) w := (fun _ => by kernel_rfl); have HX2 := hide (HX1.out.below hb); obtain ⟨z0, f0⟩ := HX2.out.cell 0 (v := .slice none 0 0) rfl; have lx2 := HX2.out.lt; clear hb he1 he2 he3 ho1 ho2 ho3 p0)
 have HZ := hide (HX2.out.set 0 (.slice Ah s.heap.length ch))
 have y0 := (HZ.out.cell 0 (v := .slice Ah s.heap.length ch) rfl).1
 refine bodyPost_ret (v := .agg #[.slice Ah s.heap.length ch]) (by simp [results, Tryz.results15, go_sem, y0]) rfl ⟨_, rfl, HO.out.keep (fun b o hb => have hne : b ≠ h5 + 1 := (by have h : w1.heap.size <= b := hb.1; omega); ja8 (by rw [heap_setCell_other _ _ _ _ hne]) o) (fun b hb => ⟨by have h : w1.heap.size <= b := hb.1; have := HB1.out.size; omega, by rw [World.size_setCell]; exact hb.2⟩), (HB2.out.setCell (p := ⟨h5 + 1, 0, none⟩) (show w.heap.size <= h5 + 1 by omega) _)⟩
end Go.Proofs.YthbnbaikdcfbmaaGreatDoor
