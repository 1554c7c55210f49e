/- Texts of several names, of which only what the statement needs is kept. -/
import Derived.Test.YthbnbaikdcfbmaaGreatDoorPmKCC
set_option linter.unusedSimpArgs false
set_option linter.unusedVariables false
set_option maxHeartbeats 4000000
set_option maxRecDepth 100000
namespace Go.Proofs.YthbnbaikdcfbmaaGreatDoor
open Go.RowKit
theorem chkR_nat {p : List FunV} {n : Nat} (h : (n : Int) = 0) (hc : ChkR p n) : ChkR p 0 := by
 have h0 : n = 0 := by omega
 subst h0
 exact hc
theorem jcj {w : World} {S : Nat -> Prop} {vp : Value} {P : List FunV} (h : FunsV w S vp P) : RunR P := fun f hf l hl x hx => by
 obtain ⟨A, c, rfl, -, -⟩ := h.open'
 obtain ⟨i, hi⟩ := List.mem_iff_getElem?.1 hf
 obtain ⟨bg, og, Ak, ck, Ab, cb, As, cs, hAp, -, -, hfi⟩ := h.get hi
 obtain ⟨j, hj⟩ := List.mem_iff_getElem?.1 hl
 obtain ⟨bb, ob, Al, cl, hAs, -, -, hli⟩ := hfi.2.2.1.get hj
 obtain ⟨k, hk⟩ := List.mem_iff_getElem?.1 hx
 obtain ⟨bq, oq, Ax, cx, hAl, -, -, hxi⟩ := hli.get hk
 exact hxi.2
def L10 : List InsV := [⟨1, 0, 0, 0, 5, 0, []⟩, ⟨20, 0, 0, 0, 0, 0, []⟩, ⟨23, 0, 0, 0, 0, 0, []⟩]
def U10 : FunV := ⟨[0], [-1], 0, 0, [L10]⟩
def WU10 (w : World) (h6 : Nat) : World := (((((w.alloc (.cells #[.int .i64 0] 3)).alloc (.cells #[.int .i64 (-1)] 3)).alloc (.cells #[.int .i64 1, .int .i64 0, .int .i64 0, .int .i64 0, .int .i64 5, .int .i64 0, .slice none 0 0, .int .i64 20, .int .i64 0, .int .i64 0, .int .i64 0, .int .i64 0, .int .i64 0, .slice none 0 0, .int .i64 23, .int .i64 0, .int .i64 0, .int .i64 0, .int .i64 0, .int .i64 0, .slice none 0 0] 57)).alloc (.cells #[.slice (some ⟨h6 + 1 + 1, 0, none⟩) 3 3] 55)).alloc (.cells #[.slice (some ⟨h6, 0, none⟩) 1 1, .slice (some ⟨h6 + 1, 0, none⟩) 1 1, .int .i64 0, .int .i64 0, .slice (some ⟨h6 + 1 + 1 + 1, 0, none⟩) 1 1] 52))
theorem u10_of (w : World) : FunsV (WU10 w w.heap.size) (fun b => w.heap.size <= b /\ b < (WU10 w w.heap.size).heap.size) (.slice (some ⟨w.heap.size + 1 + 1 + 1 + 1, 0, none⟩) 1 1) [U10] /\ Below w.heap.size w (WU10 w w.heap.size) := by
 unfold WU10
 obtain ⟨h6, hh⟩ := zl w.heap.size
 rw [hh]
 obtain ⟨w0, hw0⟩ := zl (w.alloc (.cells #[.int .i64 0] 3))
 have b0 : Box w0 (h6) #[.int .i64 0] 3 := by rw [<- hw0, <- hh]; exact Box.new _ _ _
 have z0 : w0.heap.size = h6 + 1 := by rw [<- hw0, World.size_alloc, hh]
 have l0 : Below h6 w w0 := by rw [<- hw0]; exact (by rw [<- hh]; exact ja4 w _)
 rw [hw0]
 obtain ⟨w1, hw1⟩ := zl (w0.alloc (.cells #[.int .i64 (-1)] 3))
 have b1 : Box w1 (h6 + 1) #[.int .i64 (-1)] 3 := by rw [<- hw1, <- z0]; exact Box.new _ _ _
 have z1 : w1.heap.size = h6 + 1 + 1 := by rw [<- hw1, World.size_alloc, z0]
 have l1 : Below h6 w w1 := by rw [<- hw1]; exact l0.alloc (by omega) _
 replace b0 : Box w1 (h6) #[.int .i64 0] 3 := by rw [<- hw1]; exact b0.alloc _
 rw [hw1]
 obtain ⟨w2, hw2⟩ := zl (w1.alloc (.cells #[.int .i64 1, .int .i64 0, .int .i64 0, .int .i64 0, .int .i64 5, .int .i64 0, .slice none 0 0, .int .i64 20, .int .i64 0, .int .i64 0, .int .i64 0, .int .i64 0, .int .i64 0, .slice none 0 0, .int .i64 23, .int .i64 0, .int .i64 0, .int .i64 0, .int .i64 0, .int .i64 0, .slice none 0 0] 57))
 have b2 : Box w2 (h6 + 1 + 1) #[.int .i64 1, .int .i64 0, .int .i64 0, .int .i64 0, .int .i64 5, .int .i64 0, .slice none 0 0, .int .i64 20, .int .i64 0, .int .i64 0, .int .i64 0, .int .i64 0, .int .i64 0, .slice none 0 0, .int .i64 23, .int .i64 0, .int .i64 0, .int .i64 0, .int .i64 0, .int .i64 0, .slice none 0 0] 57 := by rw [<- hw2, <- z1]; exact Box.new _ _ _
 have z2 : w2.heap.size = h6 + 1 + 1 + 1 := by rw [<- hw2, World.size_alloc, z1]
 have l2 : Below h6 w w2 := by rw [<- hw2]; exact l1.alloc (by omega) _
 replace b0 : Box w2 (h6) #[.int .i64 0] 3 := by rw [<- hw2]; exact b0.alloc _
 replace b1 : Box w2 (h6 + 1) #[.int .i64 (-1)] 3 := by rw [<- hw2]; exact b1.alloc _
 rw [hw2]
 obtain ⟨w3, hw3⟩ := zl (w2.alloc (.cells #[.slice (some ⟨h6 + 1 + 1, 0, none⟩) 3 3] 55))
 have b3 : Box w3 (h6 + 1 + 1 + 1) #[.slice (some ⟨h6 + 1 + 1, 0, none⟩) 3 3] 55 := by rw [<- hw3, <- z2]; exact Box.new _ _ _
 have z3 : w3.heap.size = h6 + 1 + 1 + 1 + 1 := by rw [<- hw3, World.size_alloc, z2]
 have l3 : Below h6 w w3 := by rw [<- hw3]; exact l2.alloc (by omega) _
 replace b0 : Box w3 (h6) #[.int .i64 0] 3 := by rw [<- hw3]; exact b0.alloc _
 replace b1 : Box w3 (h6 + 1) #[.int .i64 (-1)] 3 := by rw [<- hw3]; exact b1.alloc _
 replace b2 : Box w3 (h6 + 1 + 1) #[.int .i64 1, .int .i64 0, .int .i64 0, .int .i64 0, .int .i64 5, .int .i64 0, .slice none 0 0, .int .i64 20, .int .i64 0, .int .i64 0, .int .i64 0, .int .i64 0, .int .i64 0, .slice none 0 0, .int .i64 23, .int .i64 0, .int .i64 0, .int .i64 0, .int .i64 0, .int .i64 0, .slice none 0 0] 57 := by rw [<- hw3]; exact b2.alloc _
 rw [hw3]
 obtain ⟨w4, hw4⟩ := zl (w3.alloc (.cells #[.slice (some ⟨h6, 0, none⟩) 1 1, .slice (some ⟨h6 + 1, 0, none⟩) 1 1, .int .i64 0, .int .i64 0, .slice (some ⟨h6 + 1 + 1 + 1, 0, none⟩) 1 1] 52))
 have b4 : Box w4 (h6 + 1 + 1 + 1 + 1) #[.slice (some ⟨h6, 0, none⟩) 1 1, .slice (some ⟨h6 + 1, 0, none⟩) 1 1, .int .i64 0, .int .i64 0, .slice (some ⟨h6 + 1 + 1 + 1, 0, none⟩) 1 1] 52 := by rw [<- hw4, <- z3]; exact Box.new _ _ _
 have z4 : w4.heap.size = h6 + 1 + 1 + 1 + 1 + 1 := by rw [<- hw4, World.size_alloc, z3]
 have l4 : Below h6 w w4 := by rw [<- hw4]; exact l3.alloc (by omega) _
 replace b0 : Box w4 (h6) #[.int .i64 0] 3 := by rw [<- hw4]; exact b0.alloc _
 replace b1 : Box w4 (h6 + 1) #[.int .i64 (-1)] 3 := by rw [<- hw4]; exact b1.alloc _
 replace b2 : Box w4 (h6 + 1 + 1) #[.int .i64 1, .int .i64 0, .int .i64 0, .int .i64 0, .int .i64 5, .int .i64 0, .slice none 0 0, .int .i64 20, .int .i64 0, .int .i64 0, .int .i64 0, .int .i64 0, .int .i64 0, .slice none 0 0, .int .i64 23, .int .i64 0, .int .i64 0, .int .i64 0, .int .i64 0, .int .i64 0, .slice none 0 0] 57 := by rw [<- hw4]; exact b2.alloc _
 replace b3 : Box w4 (h6 + 1 + 1 + 1) #[.slice (some ⟨h6 + 1 + 1, 0, none⟩) 3 3] 55 := by rw [<- hw4]; exact b3.alloc _
 rw [hw4]
 clear hw0 hw1 hw2 hw3 hw4 z0 z1 z2 z3 l0 l1 l2 l3
 have r0 : i64R 0 := by unfold i64R; omega
 have r1 : i64R (-1) := by unfold i64R; omega
 refine ⟨jih (⟨by omega, b4.lt⟩) ⟨_, _, _, ⟨(b4.cell 0 (v := .slice (some ⟨h6, 0, none⟩) 1 1) rfl).1, (b4.cell 1 (v := .slice (some ⟨h6 + 1, 0, none⟩) 1 1) rfl).1, (b4.cell 2 (v := .int .i64 0) rfl).1, (b4.cell 3 (v := .int .i64 0) rfl).1, (b4.cell 4 (v := .slice (some ⟨h6 + 1 + 1 + 1, 0, none⟩) 1 1) rfl).1⟩, ?_, ?_, ?_, r0, r0⟩ (by omega) (by omega), l4⟩
 ·exact jih ⟨by omega, b0.lt⟩ ⟨(b0.cell 0 (v := .int .i64 0) rfl).1, r0⟩ (by omega) (by omega)
 ·exact jih ⟨by omega, b1.lt⟩ ⟨(b1.cell 0 (v := .int .i64 (-1)) rfl).1, r1⟩ (by omega) (by omega)
 ·refine jih ⟨by omega, b3.lt⟩ ⟨_, (b3.cell 0 (v := .slice (some ⟨h6 + 1 + 1, 0, none⟩) 3 3) rfl).1, ⟨_, 3, rfl, Nat.le_refl _, by omega, fun _ => ⟨_, 0, rfl, ⟨by omega, b2.lt⟩, fun j y hj => ?_⟩⟩⟩ (by omega) (by omega)
  have hj4 : j < 3 := (List.getElem?_eq_some_iff.1 hj).1
  rcases (show j = 0 \/ j = 1 \/ j = 2 by omega) with rfl | rfl | rfl
  ·injection hj with hj
   subst hj
   refine ⟨.slice none 0 0, ⟨(b2.cell 0 (v := .int .i64 1) rfl).1, (b2.cell 1 (v := .int .i64 0) rfl).1, (b2.cell 2 (v := .int .i64 0) rfl).1, (b2.cell 3 (v := .int .i64 0) rfl).1, (b2.cell 4 (v := .int .i64 5) rfl).1, (b2.cell 5 (v := .int .i64 0) rfl).1, (b2.cell 6 (v := .slice none 0 0) rfl).1⟩, Vec.nil _ _ _, ?_⟩
   unfold InsR i64R; simp
  ·injection hj with hj
   subst hj
   refine ⟨.slice none 0 0, ⟨(b2.cell 7 (v := .int .i64 20) rfl).1, (b2.cell 8 (v := .int .i64 0) rfl).1, (b2.cell 9 (v := .int .i64 0) rfl).1, (b2.cell 10 (v := .int .i64 0) rfl).1, (b2.cell 11 (v := .int .i64 0) rfl).1, (b2.cell 12 (v := .int .i64 0) rfl).1, (b2.cell 13 (v := .slice none 0 0) rfl).1⟩, Vec.nil _ _ _, ?_⟩
   unfold InsR i64R; simp
  ·injection hj with hj
   subst hj
   refine ⟨.slice none 0 0, ⟨(b2.cell 14 (v := .int .i64 23) rfl).1, (b2.cell 15 (v := .int .i64 0) rfl).1, (b2.cell 16 (v := .int .i64 0) rfl).1, (b2.cell 17 (v := .int .i64 0) rfl).1, (b2.cell 18 (v := .int .i64 0) rfl).1, (b2.cell 19 (v := .int .i64 0) rfl).1, (b2.cell 20 (v := .slice none 0 0) rfl).1⟩, Vec.nil _ _ _, ?_⟩
   unfold InsR i64R; simp
theorem few10 : jaz [U10] := fun f hf b hb x hx => by
 rw [List.mem_singleton] at hf
 subst hf
 have hb' : b = L10 := by simpa [U10] using hb
 subst hb'
 have : x.args = [] := by simp [L10] at hx; rcases hx with rfl | rfl | rfl <;> rfl
 rw [this]
 simp
theorem jn4 : jad [U10] = true := by kernel_rfl
theorem chk10 (n : Nat) (h : ChkR [U10] n) : n = 0 := by
 have h4 := jn4
 have hn : nxt U10 0 = [] := by kernel_rfl
 have hk := jkw h4 U10 (List.mem_singleton.2 rfl)
 have e1 := jll (st := false) hk (l := L10) rfl hn
 have e2 := jll (st := true) hk (l := L10) rfl hn
 have a1 : askL false U10 L10 (iniW U10) = false := by kernel_rfl
 have a2 : askL true U10 L10 (iniW U10) = false := by kernel_rfl
 have a3 : misB [U10] = false := by kernel_rfl
 rw [a1] at e1
 rw [a2] at e2
 rcases h with ⟨h, -⟩ | ⟨-, h, rfl⟩ | ⟨-, h, h', rfl⟩ | ⟨-, h, h', h'', rfl⟩ | ⟨-, h, h', h'', rfl⟩
 ·rw [h4] at h; cases h
 ·rw [a3] at h; cases h
 ·exact absurd (e1.1 h') (by simp)
 ·exact absurd (e2.1 h'') (by simp)
 ·rfl
theorem jq8 : (runS [U10] 9).en = 1 /\ (runS [U10] 9).val = 5 /\ (runS [U10] 9).code = 0 /\ (runS [U10] 9).ev = [5] /\ (runS [U10] 9).steps = 3 := by decide +kernel
theorem run2_10 : (runS [U10] 2).en = 0 := by decide +kernel
theorem jff (w : World) : Calls Tryz.prog 18 #[] w fun e w' => ∃ b, e = .returned (.agg #[.slice (some ⟨b, 0, none⟩) 1 1]) /\ FunsV w' (· < w'.heap.size) (.slice (some ⟨b, 0, none⟩) 1 1) [U10] /\ Below w.heap.size w w' := by
 go_enter Tryz.func18, Tryz.ntmps18
 go_upto_region 1 with (fail)
 obtain ⟨w1, hw1⟩ := zr (w.alloc (.cells #[.slice none 0 0] 24))
 obtain ⟨h5, hh5⟩ := zl w.heap.size
 have HX0 := zx1 hw1 hh5
 have HB1 := zb1 hw1
 have lHX0 := HX0.out.lt
 rw [<- hw1, hh5]
 clear hw1
 have qa : ∀ o1 o2 o3 o4 o5, (((((w1.alloc o1).alloc o2).alloc o3).alloc o4).alloc o5).cell? ⟨h5, 0, none⟩ = some (.slice none 0 0) := fun _ _ _ _ _ => ((((((HX0.out.alloc _).alloc _).alloc _).alloc _).alloc _).cell 0 (v := .slice none 0 0) rfl).1
 have qf : ∀ o1 o2 o3 o4 o5, (((((w1.alloc o1).alloc o2).alloc o3).alloc o4).alloc o5).frozen? ⟨h5, 0, none⟩ = false := fun _ _ _ _ _ => ((((((HX0.out.alloc _).alloc _).alloc _).alloc _).alloc _).cell 0 (v := .slice none 0 0) rfl).2
 go_wp2
 clear qa qf
 obtain ⟨hF, hB⟩ := u10_of w1
 have HF := hide hF
 have HB := hide hB
 have HX4 := hide (HX0.out.below HB.out)
 obtain ⟨w4, hw4⟩ := zr (WU10 w1 w1.heap.size)
 rw [<- hw4] at HF HB HX4
 have q5 := ((HX4.out.set 0 (.slice (some ⟨w1.heap.size + 1 + 1 + 1 + 1, 0, none⟩) 1 1)).cell 0 (v := .slice (some ⟨w1.heap.size + 1 + 1 + 1 + 1, 0, none⟩) 1 1) rfl).1
 unfold WU10 at hw4
 rw [<- hw4]
 clear hw4 hF hB
 refine bodyPost_ret (v := .agg #[.slice (some ⟨w1.heap.size + 1 + 1 + 1 + 1, 0, none⟩) 1 1]) (by simp [results, Tryz.results18, go_sem, q5]) rfl ⟨_, rfl, HF.out.keep (fun b o hb => have hne : b ≠ h5 := (by have h : w1.heap.size <= b := hb.1; omega); ja8 (by rw [heap_setCell_other _ _ _ _ hne]) o) (fun b hb => by show b < _; rw [World.size_setCell]; exact hb.2), ((HB1.out.trans (HB.out.mono HB1.out.size)).setCell (p := ⟨h5, 0, none⟩) (show w.heap.size <= h5 by omega) _)⟩
theorem jkh (vp : Value) (p : List FunV) (w : World) (B : Nat) (hB : B <= w.heap.size) (hp : FunsV w (· < B) vp p) (hsz : jg8 p) :
  Calls Tryz.prog 9 #[.agg #[vp]] w fun e w' => ∃ b : Bool, e = .returned (.bool b) /\ Hid (b = false -> ChkR p 0 /\ jaz p) /\ Below w.heap.size w w' := by
 have HG := hide (fun (W : World) (hW : Below w.heap.size w W) => joy vp p W B (by have := hW.size; omega) (hp.keep (up hW hB) (fun _ h => h)) hsz)
 have HCK := hide (fun (W : World) (hW : Below w.heap.size w W) (hf : jaz p) => (job vp p W B (by have := hW.size; omega) (hp.keep (up hW hB) (fun _ h => h)) hf).mono (R' := fun e w' => ∃ z : Int, e = .returned (.int .i64 z) /\ (z = 0 -> ChkR p 0) /\ Below W.heap.size W w') (fun e w' ⟨n, h1, h2, h3⟩ => ⟨n, h1, fun h => chkR_nat h h2, h3⟩))
 have HFEW := hide (fun h : ∀ f ∈ p, smallF f => smallF.few h)
 have HPK := hide (fun (W : World) (hW : Below w.heap.size w W) => hp.keep (up hW hB) (fun _ h => h))
 obtain ⟨Ap, cp, rfl, hcp, hmp⟩ := hp.open'
 obtain ⟨lp, hlp⟩ := zl p.length
 have HLP := hide hlp
 rw [hlp] at HPK HG HCK hcp ⊢
 clear hp hsz hlp
 go_enter Tryz.func9, Tryz.ntmps9
 go_upto_region 1 with (fail)
 obtain ⟨w1, hw1⟩ := zr (w.alloc (.cells #[.slice Ap lp cp] 24))
 obtain ⟨h5, hh5⟩ := zl w.heap.size
 have HX0 := zx1 hw1 hh5
 have HB1 := zb1 hw1
 have w1s := HB1.out.size
 have w1z := zs1 hw1 hh5
 have HK0 := zk1 HX0
 have lHX0 := HX0.out.lt
 have h5g : w.heap.size <= h5 := by omega
 rw [<- hw1, hh5]
 clear hw1 hh5
 have p0 := HK0.out w1 (Below.refl _ _)
 go_wp2
 go_loopw [3, 4] (fun a i wr => ∃ (n : Int) (k : Nat), k <= lp /\ a = .int .i64 n /\ i = .int .i64 (k : Int) /\ Below w1.heap.size w1 wr) (fun _ i _ => lp - (intOf i).toNat)
 case atStart => exact ⟨0, 0, Nat.zero_le _, rfl, rfl, Below.refl _ _⟩
 case round =>
  obtain ⟨n, k, hk, rfl, rfl, hb⟩ := hrel
  obtain ⟨wo, rfl⟩ := zr wr
  have hszo := hb.size
  have HBEL := hide (HB1.out.trans (hb.mono HB1.out.size))
  have HBW := hide hb
  have HXO := hide (HX0.out.below hb)
  have xp := (HXO.out.cell 0 (v := .slice Ap lp cp) rfl).1
  have lxp := HXO.out.lt
  clear hb p0
  by_cases hgo : k < lp /\ k < 9
  ·obtain ⟨hlt, h9⟩ := hgo
   obtain ⟨f, hf⟩ : ∃ f, p[k]? = some f := ⟨_, List.getElem?_eq_getElem (by have := HLP.out; omega)⟩
   obtain ⟨bg, og, Ak, ck', Ab, cb, As, cs, hAp, hbgb, ⟨e0, e1, e2, e3, e4⟩, hi⟩ := (HPK.out wo HBEL.out).get hf
   subst hAp
   have hbs : bg < wo.heap.size := by omega
   clear hi hf
   generalize f.kinds.length = lk, f.base.length = lb, f.blocks.length = ls, f.params = fp, f.result = fr at *
   have hki : (0 : Int) <= (k : Int) := by omega
   have hkl : (k : Int) < (lp : Int) := by omega
   have hd1 : decide ((k : Int) < (lp : Int)) = true := by simpa using hkl
   have hd9 : decide ((k : Int) < 9) = true := by simp; omega
   go_upto_region 5 with (fail)
   go_region
   go_wp2
   go_roundw
   case rel => exact ⟨_, k + 1, by omega, rfl, by go_num, ⟨HBW.out.os, HBW.out.tape, HBW.out.output, HBW.out.size, HBW.out.block⟩⟩
   case measure => simp [intOf]; omega
  ·have hend : (¬ k < lp /\ decide ((k : Int) < (lp : Int)) = false) \/ (k < lp /\ ¬ k < 9 /\ decide ((k : Int) < (lp : Int)) = true /\ decide ((k : Int) < 9) = false) := by
    by_cases h1 : k < lp
    ·exact .inr ⟨h1, by omega, by simp; omega, by simp; omega⟩
    ·exact .inl ⟨h1, by simp; omega⟩
   clear hgo
   by_cases h14 : n > 14
   ·have hd : decide (n > 14) = true := by simpa using h14
    have hd2 : decide (14 < n) = true := by simpa using h14
    rcases hend with ⟨hlt, hd1⟩ | ⟨hlt, h9, hd1, hd9⟩
    all_goals
     go_wp2
     go_ret
     exact ⟨true, rfl, hide (fun h => by cases h), HBEL.out⟩
   ·have hd : decide (n > 14) = false := by simpa using h14
    have hd2 : decide (14 < n) = false := by simpa using h14
    rcases hend with ⟨hlt, hd1⟩ | ⟨hlt, h9, hd1, hd9⟩
    all_goals
     go_wp2_with (first
      | (go_at_call 21; refine (HCK.out w2 HB2.out (HFEW.out (HS2.out (by first | assumption | exact Bool.eq_false_iff.2 (by assumption))))).mono ?_; rintro e w3 ⟨z3, rfl, hz3, hb3⟩; have HF3 := hide (HFEW.out (HS2.out (by first | assumption | exact Bool.eq_false_iff.2 (by assumption)))); have HB3 := hide (HB2.out.trans (hb3.mono HB2.out.size)); have HZ3 := hide hz3; clear hb3 hz3; rcases Decidable.em (z3 = 0) with rfl | hne3)
      | (go_at_call 20; refine (HG.out wo HBEL.out).mono ?_; rintro e w2 ⟨b1, rfl, hs2, hb2⟩; have x2 := ((HXO.out.below hb2).cell 0 (v := .slice Ap lp cp) rfl).1; have l2 := (HXO.out.below hb2).lt; have HB2 := hide (HBEL.out.trans (hb2.mono HBEL.out.size)); have HS2 := hide hs2; clear hb2 hs2))
     all_goals
      go_ret
      first
       | exact ⟨_, rfl, hide (fun _ => ⟨by first | exact HZ3.out trivial | exact HZ3.out rfl | exact HZ3.out, HF3.out⟩), HB3.out⟩
       | exact ⟨true, rfl, hide (fun h => by cases h), HB3.out⟩
       | exact ⟨_, rfl, hide (fun h => absurd (by simpa using h) hne3), HB3.out⟩
       | exact ⟨_, rfl, hide (fun h => ⟨HZ3.out (by simpa using h), HF3.out⟩), HB3.out⟩
       | exact ⟨true, rfl, hide (fun h => by cases h), HB2.out⟩
       | exact ⟨_, rfl, hide (fun h => by simp_all), HB2.out⟩
theorem jrs (W : World) (v : Value) (zs : List Int) (cs : Array Value) (n : Nat) (hz : ∀ z ∈ zs, i64R z) (hc : cs.toList = zs.map (Value.int .i64)) (hn : zs.length = n) (hm : n <= 1000) (h : IntsV W (· < W.heap.size) v zs) :
  Calls Tryz.prog 19 #[v, .slice (some ⟨W.heap.size, 0, none⟩) n n] (W.alloc (.cells cs 3)) fun e w' => e = .returned (.bool true) /\ Below W.heap.size W w' := by
 subst hn
 have h1 : IntsV (W.alloc (.cells cs 3)) (· < W.heap.size + 1) v zs := IntsV.keep h (up (ja4 W _) (Nat.le_refl _)) (fun b hb => Nat.lt_succ_of_lt hb)
 have h2 := (Sl.lit W 3 .i64 cs zs hc).vec (c := zs.length) (Nat.le_refl _) (by omega) hz
 exact (jqe _ _ zs zs _ _ h1 h2).mono fun e w' ⟨q1, q, q2⟩ => ⟨by rw [q1]; simp, by rw [q2]; exact ja0 (ja4 W _) q⟩
theorem jhg (w : World) (hT : TabP w) (hR : RowP w) : Calls Tryz.prog 8 #[] w fun e w' => e = .returned (.bool true) /\ Below w.heap.size w w' := by
 have HR9 := hide (fun (W : World) (hW : Below w.heap.size w W) (b : Nat) (h : FunsV W (· < W.heap.size) (.slice (some ⟨b, 0, none⟩) 1 1) [U10]) => (show Calls Tryz.prog 12 #[.agg #[.slice (some ⟨b, 0, none⟩) 1 1], .int .i64 9] W fun e w' => ∃ ve, e = .returned (.agg #[ve, .int .i64 1, .int .i64 5, .int .i64 0]) /\ IntsV w' (· < w'.heap.size) ve [5] /\ Below W.heap.size W w' from
  (jg7 _ [U10] 9 W W.heap.size (Nat.le_refl _) h (hT.below hW hT.1) (hR.below hW hR.1) few10 chk10 jn4 (jcj h)).mono fun e w' ⟨ve, h1, h2, h3⟩ => by
   obtain ⟨q1, q2, q3, q4, -⟩ := jq8
   rw [q1, q2, q3] at h1
   rw [q4] at h2
   exact ⟨ve, h1, IntsV.keep h2 (fun _ _ _ => rfl) (fun b hb => hb.2), h3⟩))
 have HR2 := hide (fun (W : World) (hW : Below w.heap.size w W) (b : Nat) (h : FunsV W (· < W.heap.size) (.slice (some ⟨b, 0, none⟩) 1 1) [U10]) => (show Calls Tryz.prog 12 #[.agg #[.slice (some ⟨b, 0, none⟩) 1 1], .int .i64 2] W fun e w' => ∃ A n c x y, e = .returned (.agg #[.slice A n c, .int .i64 0, .int .i64 x, .int .i64 y]) /\ Below W.heap.size W w' from
  (jg7 _ [U10] 2 W W.heap.size (Nat.le_refl _) h (hT.below hW hT.1) (hR.below hW hR.1) few10 chk10 jn4 (jcj h)).mono fun e w' ⟨ve, h1, h2, h3⟩ => by
   rw [run2_10] at h1
   obtain ⟨A, c, rfl, -⟩ := h2
   exact ⟨_, _, _, _, _, h1, h3⟩))
 have HS9 := hide (fun (W : World) (hW : Below w.heap.size w W) (b : Nat) (h : FunsV W (· < W.heap.size) (.slice (some ⟨b, 0, none⟩) 1 1) [U10]) => (show Calls Tryz.prog 13 #[.agg #[.slice (some ⟨b, 0, none⟩) 1 1], .int .i64 9] W fun e w' => e = .returned (.int .i64 3) /\ Below W.heap.size W w' from
  (jht _ [U10] 9 W W.heap.size (Nat.le_refl _) h (hT.below hW hT.1) (hR.below hW hR.1) few10 chk10 jn4 (jcj h)).mono fun e w' ⟨h1, h3⟩ => by
   obtain ⟨-, -, -, -, q⟩ := jq8
   rw [q] at h1
   exact ⟨h1, h3⟩))
 have HI5 := hide (fun (W : World) (v : Value) (h : IntsV W (· < W.heap.size) v [5]) => jrs W v [5] #[.int .i64 5] 1 (by unfold i64R; simp) rfl rfl (by omega) h)
 clear hT hR
 go_enter Tryz.func8, Tryz.ntmps8
 go_upto_region 2 with (first
  | (go_at_call 12; (with_reducible refine (HR9.out w1 HB1.out b1 HF1.out).mono ?_); rintro e w2 ⟨ve, rfl, hi, hb⟩; obtain ⟨Ae, ce, rfl, i1, i2, i3⟩ := hi; have HI2 := hide (show IntsV w2 (· < w2.heap.size) (.slice Ae 1 ce) [5] from ⟨Ae, ce, rfl, i1, i2, i3⟩); have HB2 := hide (HB1.out.trans (hb.mono HB1.out.size)); clear hb i1 i2 i3)
  | (go_at_call 18; (with_reducible refine (jff w).mono ?_); rintro e w1 ⟨b1, rfl, hf, hb⟩; have HF1 := hide hf; have HB1 := hide hb; clear hf hb))
 obtain ⟨w3, hw3⟩ := zr (w2.alloc (.cells #[.slice Ae 1 ce, .int .i64 1, .int .i64 5, .int .i64 0] 35))
 obtain ⟨h3, hh3⟩ := zl w2.heap.size
 have HX3 := zx1 hw3 hh3
 have HD3 := zb1 hw3
 have HB3 := hide (HB2.out.trans (HD3.out.mono HB2.out.size))
 have HI3 := hide (show IntsV w3 (· < w3.heap.size) (.slice Ae 1 ce) [5] from IntsV.keep HI2.out (up HD3.out (Nat.le_refl _)) (fun b hb => Nat.lt_of_lt_of_le hb HD3.out.size))
 have HK3 := hide (fun (W : World) (hW : Below w3.heap.size w3 W) => And.intro ((HX3.out.below hW).cell 1 (v := .int .i64 1) rfl).1 ((HX3.out.below hW).cell 2 (v := .int .i64 5) rfl).1)
 have x0 := (HX3.out.cell 0 (v := .slice Ae 1 ce) rfl).1
 have l3 := HX3.out.lt
 rw [<- hw3, hh3]
 clear hw3 hh3
 have fd : ∀ (A : Option Addr) (n c : Nat) (x y : Int) (W : World), (Instr.field 35 (.agg #[.slice A n c, .int .i64 0, .int .i64 x, .int .i64 y]) 1).run Tryz.prog W = .ok (.int .i64 0) W := (fun _ _ _ _ _ _ => by kernel_rfl)
 go_wp2_with (first
  | (go_at_call 12; (with_reducible refine (HR2.out w7 HB7.out b7 HF7.out).mono ?_); rintro e w8 ⟨A8, n8, c8, x8, y8, rfl, hb⟩; have HB8 := hide (HB7.out.trans (hb.mono HB7.out.size)); clear hb)
  | (go_at_call 18; (with_reducible refine (jff w6).mono ?_); rintro e w7 ⟨b7, rfl, hf, hb⟩; have HF7 := hide hf; have HB7 := hide (HB6.out.trans (hb.mono HB6.out.size)); clear hf hb)
  | (go_at_call 13; (with_reducible refine (HS9.out w5 HB5.out b5 HF5.out).mono ?_); rintro e w6 ⟨rfl, hb⟩; have HB6 := hide (HB5.out.trans (hb.mono HB5.out.size)); clear hb)
  | (go_at_call 18; (with_reducible refine (jff w4).mono ?_); rintro e w5 ⟨b5, rfl, hf, hb⟩; have HF5 := hide hf; have HB5 := hide (HB4.out.trans (hb.mono HB4.out.size)); clear hf hb)
  | (go_at_call 19; refine (HI5.out w3 _ HI3.out).mono ?_; rintro e w4 ⟨rfl, hb⟩; obtain ⟨x1, x2⟩ := HK3.out w4 hb; have l4 := (HX3.out.below hb).lt; have HB4 := hide (HB3.out.trans (hb.mono HB3.out.size)); clear hb))
 go_ret
 exact ⟨by simp, HB8.out⟩
end Go.Proofs.YthbnbaikdcfbmaaGreatDoor
