/- Texts of several names, of which only what the statement needs is kept. -/
import Derived.Test.YtehboglielnjbaaGreatDoorPlEC
import Derived.Test.YtehboglielnjbaaGreatDoorPlJO
import Derived.Test.YtehboglielnjbaaGreatDoorPlKQ
import Derived.Test.YtehboglielnjbaaGreatDoorPlSAlive
import Derived.Laws.Cover1
/- Layer 12, the program: Across. Condition: the table of parts reads as listed. -/
set_option linter.unusedSimpArgs false
set_option linter.unusedVariables false
namespace Go.Proofs.YtehboglielnjbaaGreatDoor
open Go.RowKit

/-- What is kept across an instruction. -/
def AcrQ (f : FunV) (b i : Int) (t : List Nat) : Prop := if hereB f b i = true then ∃ s x, LvQ f 1 b i s ∧ (codeOf f b.toNat)[i.toNat]? = some x ∧ t = (if hasB4 x.op 68 = true then withoutL (closeL f s) [x.d] else closeL f s) else t = []
theorem closeL_ok (f : FunV) (s : List Nat) : SetOk (closeL f s) := ofL_ok _
theorem one_lit12 (W : World) (z : Int) : Sl (W.alloc (.cells #[.int .i64 z] 3)) (W.alloc (.cells #[.int .i64 z] 3)).heap.size .i64 (some ⟨W.heap.size, 0, none⟩) [z] := Sl.lit' W 3 .i64 #[.int .i64 z] [z] rfl
set_option maxHeartbeats 4000000 in
set_option maxRecDepth 100000 in
theorem across_any (vk vb vs : Value) (f : FunV) (b i : Int) (w : World) (B : Nat) (hB : B ≤ w.heap.size) (hi : FunI w (· < B) vk vb vs f) (hT : TabP w) (hok : FlowOk f) (hne : ∀ c, c < f.blocks.length → codeOf f c ≠ []) (hfew : ∀ l ∈ f.blocks, ∀ x ∈ l, x.args.length ≤ 1099511627000) (hk : f.kinds.length ≤ 1000) :
    Calls Tryz.prog 19 #[.agg #[vk, vb, .int .i64 f.params, .int .i64 f.result, vs], .int .i64 b, .int .i64 i] w fun e w' => ∃ r t, e = .returned r ∧ AcrQ f b i t ∧ SetV w' r t ∧ Below w.heap.size w w' := by
  have HTR := hide (fun (W : World) (hW : Below w.heap.size w W) => kp_there_any vk vb vs f b i W B (by have := hW.size; omega) (hi.keep (up hW hB) (fun _ h => h)))
  by_cases hh : hereB f b i = true
  case neg =>
    have hq : AcrQ f b i [] := by unfold AcrQ; rw [if_neg hh]
    have hf : hereB f b i = false := by simpa using hh
    rw [hf] at HTR
    have HQ := hide hq
    obtain ⟨Ak, ck, rfl, hck, hmk⟩ := hi.1.open'
    obtain ⟨Ab, cb, rfl, hcb, hmb⟩ := hi.2.1.open'
    obtain ⟨As, cs, rfl, hcs, hms⟩ := hi.2.2.1.open'
    clear hi hh hq hf hT hne hfew hok hk
    generalize f.kinds.length = lk, f.base.length = lb, f.blocks.length = ls, f.params = fp, f.result = fr at *
    go_enter Tryz.func19, Tryz.ntmps19
    go_upto_region 1 with (fail)
    obtain ⟨w1, hw1⟩ : ∃ w1, w1 = w.alloc (.cells #[.slice Ak lk ck, .slice Ab lb cb, .int .i64 fp, .int .i64 fr, .slice As ls cs] 32) := ⟨_, rfl⟩
    obtain ⟨h5, hh5⟩ : ∃ h5, w.heap.size = h5 := ⟨_, rfl⟩
    have HX0 := hide (show Box w1 (h5) #[.slice Ak lk ck, .slice Ab lb cb, .int .i64 fp, .int .i64 fr, .slice As ls cs] 32 by rw [hw1, ← hh5]; have t := Box.new w #[.slice Ak lk ck, .slice Ab lb cb, .int .i64 fp, .int .i64 fr, .slice As ls cs] 32; (try simp only [World.size_alloc] at t); exact t)
    have HB1 := hide (show Below w.heap.size w w1 by rw [hw1]; exact ((Below.refl _ _).alloc (Nat.le_refl _) _))
    have w1s := HB1.out.size
    have w1z := hide (show w1.heap.size = h5 + 1 by rw [hw1, ← hh5]; simp only [World.size_alloc])
    have HK0 := hide (fun (W : World) (hW : Below w1.heap.size w1 W) => (And.intro ((HX0.out.below hW).cell 0 (v := .slice Ak lk ck) rfl).1 (And.intro ((HX0.out.below hW).cell 1 (v := .slice Ab lb cb) rfl).1 (And.intro ((HX0.out.below hW).cell 2 (v := .int .i64 fp) rfl).1 (And.intro ((HX0.out.below hW).cell 3 (v := .int .i64 fr) rfl).1 ((HX0.out.below hW).cell 4 (v := .slice As ls cs) rfl).1)))))
    have lHX0 := HX0.out.lt
    have h5g : w.heap.size ≤ h5 := by omega
    rw [← hw1, hh5]
    clear hw1 hh5
    obtain ⟨c0, c1, c2, c3, c4⟩ := HK0.out w1 (Below.refl _ _)
    go_wp2_with (go_at_call 43; (with_reducible refine (HTR.out w1 HB1.out).mono ?_); rintro e w2 ⟨rfl, hb2⟩; have HB2 := hide (HB1.out.trans (hb2.mono HB1.out.size)); clear hb2)
    go_ret
    exact ⟨_, [], rfl, HQ.out, SetV.nil0 _, HB2.out⟩
  rw [hh] at HTR
  obtain ⟨bn, i, l, rfl, rfl, hl, hil⟩ := hereB_in hh
  have hcl : codeOf f bn = l := by unfold codeOf; rw [hl]; rfl
  have hbl := (List.getElem?_eq_some_iff.1 hl).1
  obtain ⟨x, hx⟩ : ∃ x, l[i]? = some x := ⟨_, List.getElem?_eq_getElem hil⟩
  have HQ := hide (fun s (hs : LvQ f 1 (bn : Int) (i : Int) s) => (show AcrQ f (bn : Int) (i : Int) (if hasB4 x.op 68 = true then withoutL (closeL f s) [x.d] else closeL f s) by unfold AcrQ; rw [if_pos hh]; exact ⟨s, x, hs, by rw [Int.toNat_natCast, Int.toNat_natCast, hcl]; exact hx, rfl⟩))
  have HBH := hide (fun (W : World) (hW : Below w.heap.size w W) => kp_behind_any vk vb vs f (bn : Int) (i : Int) W B (by have := hW.size; omega) (hi.keep (up hW hB) (fun _ h => h)) (hT.below hW hT.1) hok hne hfew hk)
  have HTT := hide (fun (W : World) (hW : Below w.heap.size w W) => hT.below hW hT.1)
  have HBL := hide (fun (W : World) (hW : Below w.heap.size w W) => hi.2.2.1.keep (up hW hB) (fun _ h => h))
  obtain ⟨Ak, ck, rfl, hck, hmk⟩ := hi.1.open'
  obtain ⟨Ab, cb, rfl, hcb, hmb⟩ := hi.2.1.open'
  obtain ⟨As, cs, rfl, hcs, hms⟩ := hi.2.2.1.open'
  obtain ⟨ls, hls2⟩ : ∃ ls, f.blocks.length = ls := ⟨_, rfl⟩
  rw [hls2] at HTR HBH HBL hbl hcs
  rw [hls2]
  obtain ⟨bb, ob, Al, cl, hAs, hbb, d0', hli⟩ := (HBL.out w (Below.refl _ _)).get hl
  subst hAs
  obtain ⟨bq, oq, Ax, cx, hAl, hbq, gg, hxi⟩ := hli.get hx
  subst hAl
  have HXI := hide hxi
  obtain ⟨ll, hll⟩ : ∃ ll, l.length = ll := ⟨_, rfl⟩
  obtain ⟨lx, hlx⟩ : ∃ lx, x.args.length = lx := ⟨_, rfl⟩
  rw [hll] at d0' hil
  rw [hlx] at gg HXI
  have hbb2 : bb < w.heap.size := by omega
  have hbq2 : bq < w.heap.size := by omega
  have HDC := hide (fun (W : World) (hW : Below w.heap.size w W) => (World.cell?_of_block (a := ⟨bb, ob + bn, none⟩) (hW.block bb hbb2)).trans d0')
  have HGC := hide (fun (W : World) (hW : Below w.heap.size w W) => (show (W.cell? ⟨bq, oq + i * 7, none⟩ = some (.int .i64 x.op) ∧ W.cell? ⟨bq, oq + i * 7 + 1, none⟩ = some (.int .i64 x.d) ∧ W.cell? ⟨bq, oq + i * 7 + 2, none⟩ = some (.int .i64 x.a) ∧ W.cell? ⟨bq, oq + i * 7 + 3, none⟩ = some (.int .i64 x.b) ∧ W.cell? ⟨bq, oq + i * 7 + 4, none⟩ = some (.int .i64 x.n) ∧ W.cell? ⟨bq, oq + i * 7 + 5, none⟩ = some (.int .i64 x.m) ∧ W.cell? ⟨bq, oq + i * 7 + 6, none⟩ = some (.slice Ax lx cx)) from
    ⟨(World.cell?_of_block (hW.block bq hbq2)).trans gg.1, (World.cell?_of_block (hW.block bq hbq2)).trans gg.2.1, (World.cell?_of_block (hW.block bq hbq2)).trans gg.2.2.1, (World.cell?_of_block (hW.block bq hbq2)).trans gg.2.2.2.1, (World.cell?_of_block (hW.block bq hbq2)).trans gg.2.2.2.2.1, (World.cell?_of_block (hW.block bq hbq2)).trans gg.2.2.2.2.2.1, (World.cell?_of_block (hW.block bq hbq2)).trans gg.2.2.2.2.2.2⟩))
  have HSX := hide (fun (W : World) (hW : Below w.heap.size w W) => sets_any x Ax lx cx W (HTT.out W hW) HXI.out.2.1)
  have hdR := hide HXI.out.2.2.1
  have hi0 : (0 : Int) ≤ (i : Int) := by omega
  have hi1 : (i : Int) < (ll : Int) := by omega
  have hb0 : (0 : Int) ≤ (bn : Int) := by omega
  have hb1 : (bn : Int) < (ls : Int) := by omega
  clear hi hh hcl hl hls2 hT hok hne hfew hli hll hlx hx d0' gg hxi hk
  obtain ⟨CL, hCL⟩ : ∃ CL : List Nat → List Nat, (fun s => closeL f s) = CL := ⟨_, rfl⟩
  have hCL2 : ∀ s, closeL f s = CL s := fun s => by rw [← hCL]
  have HCO := hide (fun s => (show SetOk (CL s) by rw [← hCL2]; exact closeL_ok f s))
  simp only [hCL2] at HQ HBH
  clear hCL hCL2
  generalize f.kinds.length = lk, f.base.length = lb, f.params = fp, f.result = fr at *
  by_cases hD : hasB4 x.op 68 = true
  case pos =>
    have HSQ := hide (fun (W : World) (hW : Below w.heap.size w W) => (show Calls Tryz.prog 36 #[.agg #[.int .i64 x.op, .int .i64 x.d, .int .i64 x.a, .int .i64 x.b, .int .i64 x.n, .int .i64 x.m, .slice Ax lx cx]] W fun e w' => e = .returned (.tuple #[.int .i64 x.d, .bool true]) ∧ Below W.heap.size W w' by have t := HSX.out W hW; simp only [hD] at t; exact t))
    simp only [hD, if_true] at HQ
    have HWO := hide (fun (W : World) (v : Value) (s : List Nat) (hv : SetV W v (CL s)) => withoutV (hv.below (alloc1 W (.cells #[.int .i64 x.d] 3))) (by have := (HCO.out s).1; omega) (HCO.out s).2 _ 1 1 [x.d] (one_lit12 W x.d) rfl (by omega) (by intro z hz; simp at hz; subst hz; exact hdR.out))
    clear hD
    go_enter Tryz.func19, Tryz.ntmps19
    go_upto_region 1 with (fail)
    obtain ⟨w1, hw1⟩ : ∃ w1, w1 = w.alloc (.cells #[.slice Ak lk ck, .slice Ab lb cb, .int .i64 fp, .int .i64 fr, .slice (some ⟨bb, ob, none⟩) ls cs] 32) := ⟨_, rfl⟩
    obtain ⟨h5, hh5⟩ : ∃ h5, w.heap.size = h5 := ⟨_, rfl⟩
    have HX0 := hide (show Box w1 (h5) #[.slice Ak lk ck, .slice Ab lb cb, .int .i64 fp, .int .i64 fr, .slice (some ⟨bb, ob, none⟩) ls cs] 32 by rw [hw1, ← hh5]; have t := Box.new w #[.slice Ak lk ck, .slice Ab lb cb, .int .i64 fp, .int .i64 fr, .slice (some ⟨bb, ob, none⟩) ls cs] 32; (try simp only [World.size_alloc] at t); exact t)
    have HB1 := hide (show Below w.heap.size w w1 by rw [hw1]; exact ((Below.refl _ _).alloc (Nat.le_refl _) _))
    have w1s := HB1.out.size
    have w1z := hide (show w1.heap.size = h5 + 1 by rw [hw1, ← hh5]; simp only [World.size_alloc])
    have HK0 := hide (fun (W : World) (hW : Below w1.heap.size w1 W) => (And.intro ((HX0.out.below hW).cell 0 (v := .slice Ak lk ck) rfl).1 (And.intro ((HX0.out.below hW).cell 1 (v := .slice Ab lb cb) rfl).1 (And.intro ((HX0.out.below hW).cell 2 (v := .int .i64 fp) rfl).1 (And.intro ((HX0.out.below hW).cell 3 (v := .int .i64 fr) rfl).1 ((HX0.out.below hW).cell 4 (v := .slice (some ⟨bb, ob, none⟩) ls cs) rfl).1)))))
    have lHX0 := HX0.out.lt
    have h5g : w.heap.size ≤ h5 := by omega
    rw [← hw1, hh5]
    clear hw1 hh5
    obtain ⟨c0, c1, c2, c3, c4⟩ := HK0.out w1 (Below.refl _ _)
    go_wp2_with (first
      | (go_at_call 39; refine (HWO.out w4 r3 s3 (HV3.out.below HW4.out)).mono ?_; rintro e w5 ⟨r5, rfl, hn5, hb5⟩; have HV5 := hide hn5.ws; have HB5 := hide (HB4.out.trans (((alloc1 w4 (.cells #[.int .i64 x.d] 3)).trans (hb5.mono (by rw [World.size_alloc]; omega))).mono HB4.out.size)); clear hn5 hb5)
      | (go_at_call 36; refine (HSQ.out w3 HB3.out).mono ?_; rintro e w4 ⟨rfl, hb4⟩; have HW4 := hide hb4; have HB4 := hide (HB3.out.trans (hb4.mono HB3.out.size)); have l4 := hb4.size; clear hb4)
      | (go_at_call 15; (with_reducible refine (HBH.out w2 HB2.out).mono ?_); rintro e w3 ⟨r3, s3, rfl, hq3, hw3, hb3⟩; have hc3 := HC2.out.trans (hb3.mono HC2.out.size); obtain ⟨y0, y1, y2, y3, y4⟩ := HK0.out w3 hc3; have d3 := HDC.out w3 (HB1.out.trans (hc3.mono HB1.out.size)); obtain ⟨g0, g1, g2, g3, g4, g5, g6⟩ := HGC.out w3 (HB1.out.trans (hc3.mono HB1.out.size)); have HQ3 := hide hq3; have HV3 := hide hw3.ws; have HB3 := hide (HB1.out.trans (hc3.mono HB1.out.size)); have l3 := hb3.size; clear hq3 hw3 hb3 hc3)
      | (go_at_call 43; (with_reducible refine (HTR.out w1 HB1.out).mono ?_); rintro e w2 ⟨rfl, hb2⟩; have HC2 := hide hb2; have HB2 := hide (HB1.out.trans (hb2.mono HB1.out.size)); obtain ⟨x0, x1, x2, x3, x4⟩ := HK0.out w2 hb2; have l2 := hb2.size; clear hb2))
    go_ret
    exact ⟨r5, _, rfl, HQ.out s3 HQ3.out, HV5.out, HB5.out⟩
  have hDf : hasB4 x.op 68 = false := by simpa using hD
  have HSQ := hide (fun (W : World) (hW : Below w.heap.size w W) => (show Calls Tryz.prog 36 #[.agg #[.int .i64 x.op, .int .i64 x.d, .int .i64 x.a, .int .i64 x.b, .int .i64 x.n, .int .i64 x.m, .slice Ax lx cx]] W fun e w' => e = .returned (.tuple #[.int .i64 0, .bool false]) ∧ Below W.heap.size W w' by have t := HSX.out W hW; simp only [hDf] at t; exact t))
  simp only [hDf] at HQ
  clear hD hDf
  go_enter Tryz.func19, Tryz.ntmps19
  go_upto_region 1 with (fail)
  obtain ⟨w1, hw1⟩ : ∃ w1, w1 = w.alloc (.cells #[.slice Ak lk ck, .slice Ab lb cb, .int .i64 fp, .int .i64 fr, .slice (some ⟨bb, ob, none⟩) ls cs] 32) := ⟨_, rfl⟩
  obtain ⟨h5, hh5⟩ : ∃ h5, w.heap.size = h5 := ⟨_, rfl⟩
  have HX0 := hide (show Box w1 (h5) #[.slice Ak lk ck, .slice Ab lb cb, .int .i64 fp, .int .i64 fr, .slice (some ⟨bb, ob, none⟩) ls cs] 32 by rw [hw1, ← hh5]; have t := Box.new w #[.slice Ak lk ck, .slice Ab lb cb, .int .i64 fp, .int .i64 fr, .slice (some ⟨bb, ob, none⟩) ls cs] 32; (try simp only [World.size_alloc] at t); exact t)
  have HB1 := hide (show Below w.heap.size w w1 by rw [hw1]; exact ((Below.refl _ _).alloc (Nat.le_refl _) _))
  have w1s := HB1.out.size
  have w1z := hide (show w1.heap.size = h5 + 1 by rw [hw1, ← hh5]; simp only [World.size_alloc])
  have HK0 := hide (fun (W : World) (hW : Below w1.heap.size w1 W) => (And.intro ((HX0.out.below hW).cell 0 (v := .slice Ak lk ck) rfl).1 (And.intro ((HX0.out.below hW).cell 1 (v := .slice Ab lb cb) rfl).1 (And.intro ((HX0.out.below hW).cell 2 (v := .int .i64 fp) rfl).1 (And.intro ((HX0.out.below hW).cell 3 (v := .int .i64 fr) rfl).1 ((HX0.out.below hW).cell 4 (v := .slice (some ⟨bb, ob, none⟩) ls cs) rfl).1)))))
  have lHX0 := HX0.out.lt
  have h5g : w.heap.size ≤ h5 := by omega
  rw [← hw1, hh5]
  clear hw1 hh5
  obtain ⟨c0, c1, c2, c3, c4⟩ := HK0.out w1 (Below.refl _ _)
  go_wp2_with (first
    | (go_at_call 36; refine (HSQ.out w3 HB3.out).mono ?_; rintro e w4 ⟨rfl, hb4⟩; have HW4 := hide hb4; have HB4 := hide (HB3.out.trans (hb4.mono HB3.out.size)); have l4 := hb4.size; clear hb4)
    | (go_at_call 15; (with_reducible refine (HBH.out w2 HB2.out).mono ?_); rintro e w3 ⟨r3, s3, rfl, hq3, hw3, hb3⟩; have hc3 := HC2.out.trans (hb3.mono HC2.out.size); obtain ⟨y0, y1, y2, y3, y4⟩ := HK0.out w3 hc3; have d3 := HDC.out w3 (HB1.out.trans (hc3.mono HB1.out.size)); obtain ⟨g0, g1, g2, g3, g4, g5, g6⟩ := HGC.out w3 (HB1.out.trans (hc3.mono HB1.out.size)); have HQ3 := hide hq3; have HV3 := hide hw3.ws; have HB3 := hide (HB1.out.trans (hc3.mono HB1.out.size)); have l3 := hb3.size; clear hq3 hw3 hb3 hc3)
    | (go_at_call 43; (with_reducible refine (HTR.out w1 HB1.out).mono ?_); rintro e w2 ⟨rfl, hb2⟩; have HC2 := hide hb2; have HB2 := hide (HB1.out.trans (hb2.mono HB1.out.size)); obtain ⟨x0, x1, x2, x3, x4⟩ := HK0.out w2 hb2; have l2 := hb2.size; clear hb2))
  go_ret
  exact ⟨r3, _, rfl, HQ.out s3 HQ3.out, HV3.out.below HW4.out, HB4.out⟩
end Go.Proofs.YtehboglielnjbaaGreatDoor

/- The statement LiveOuts, walked: it answers true. Condition: the table of parts reads as listed; no slice of the program is longer than any machine's memory. -/
set_option linter.unusedSimpArgs false
set_option linter.unusedVariables false
namespace Go.Proofs.YtehboglielnjbaaGreatDoor
open Go.RowKit

/-- What layer 11 asks of a function of a program that may be. -/
structure LOk (p : List FunV) (f : FunV) : Prop where
  flow : FlowOk f
  one : 1 ≤ f.blocks.length
  ne : ∀ c, c < f.blocks.length → codeOf f c ≠ []
  few : ∀ l ∈ f.blocks, ∀ x ∈ l, x.args.length ≤ 1099511627000
  kinds : f.kinds.length ≤ 48
  bl : f.base.length = f.kinds.length
  base : ∀ kb ∈ f.kinds.zip f.base, baseB4 f.kinds kb.1 kb.2 = true
  may : ∀ l ∈ f.blocks, ∀ x ∈ l, mayB4 p f x = true
theorem lOk_of {p : List FunV} (h : progB4 p = true) (hf : progFew p) : ∀ f ∈ p, LOk p f := fun f hm => by
  obtain ⟨-, -, -, hall⟩ := prog_parts h
  obtain ⟨⟨h1, h2, h3⟩, -, -, ⟨-, -, h4⟩, hmay⟩ := fun_parts (hall f hm)
  refine ⟨(flowOk_of h f hm).1, (flowOk_of h f hm).2, fun c hc => ?_, hf f hm, h2, h1, h3, hmay⟩
  obtain ⟨l, hl⟩ : ∃ l, f.blocks[c]? = some l := ⟨_, List.getElem?_eq_getElem hc⟩
  have := (h4 l (List.mem_of_getElem? hl)).1
  unfold codeOf
  rw [hl]
  intro e
  simp at e
  subst e
  simp at this
/-- The set of what is live at the beginning of one of l. -/
structure JnS (f : FunV) (l : List Int) (s : List Nat) : Prop where
  tidy : Tidy s
  ok : SetOk s
  has : ∀ v : Nat, hasB s (v : Int) = true ↔ ∃ n ∈ l, Lv f n.toNat v
theorem JnS.nil (f : FunV) : JnS f [] [] := ⟨tidy_nil, ⟨by simp, fun x hx => by cases hx⟩, fun v => by simp [hasB]⟩
theorem JnS.one {f : FunV} {l : List Int} {s t : List Nat} (h1 : JnS f l s) (h2 : JnS f l t) : s = t := has_ext h1.tidy h2.tidy h1.ok.2 h2.ok.2 fun v => (h1.has v).trans (h2.has v).symm
end Go.Proofs.YtehboglielnjbaaGreatDoor
