/- Layer 8, the statements: the fixed fact. Condition: the tables read as listed. -/
import Derived.Test.YtckpaikppgjfnaaGreatDoorKP
set_option linter.unusedSimpArgs false
set_option linter.unusedVariables false
namespace Go.Proofs.YtckpaikppgjfnaaGreatDoor
open Go.RowKit

def CodeAt (w : World) (g o : Nat) (l : List InsV) : Prop := g < w.heap.size ∧ ∀ (j : Nat) (y : InsV) (i : Nat) (u : Value), l[j]? = some y → (inC y)[i]? = some u → w.cell? ⟨g, o + j * 7 + i, none⟩ = some u
theorem CodeAt.of {w : World} {base g cap n : Nat} {l : List InsV} (h : OwI w base (.slice (some ⟨g, 0, none⟩) n cap) l) (hn : l.length = n) : CodeAt w g 0 l := by
  subst hn
  exact ⟨(World.ownsRow.lt h g rfl).2, fun j y i u hy hu => by rw [Nat.zero_add]; exact h.cells hy hu⟩
theorem CodeAt.tail {w : World} {g o : Nat} {x : InsV} {l : List InsV} (h : CodeAt w g o (x :: l)) : CodeAt w g (o + 7) l :=
  ⟨h.1, fun j y i u hy hu => by rw [show o + 7 + j * 7 + i = o + (j + 1) * 7 + i by omega]; exact h.2 (j + 1) y i u (by simpa using hy) hu⟩
theorem CodeAt.below {w w' : World} {g o : Nat} {l : List InsV} (h : CodeAt w g o l) (hb : Below w.heap.size w w') : CodeAt w' g o l :=
  ⟨by have := hb.size; have := h.1; omega, fun j y i u hy hu => (hb.cell (p := ⟨g, o + j * 7 + i, none⟩) h.1).trans (h.2 j y i u hy hu)⟩
theorem CodeAt.but {w w' : World} {g o k : Nat} {l : List InsV} (h : CodeAt w g o l) (hb : But k w w') (hk : g ≠ k) : CodeAt w' g o l :=
  ⟨by have := hb.size; have := h.1; omega, fun j y i u hy hu => (World.cell?_of_block (a := ⟨g, o + j * 7 + i, none⟩) (hb.block g h.1 hk)).trans (h.2 j y i u hy hu)⟩
theorem OwI.ne_box {w : World} {base g n cap k : Nat} {l : List InsV} {cs : Array Value} {T : TypeId} (h : OwI w base (.slice (some ⟨g, 0, none⟩) n cap) l) (hb : Box w k cs T) (hT : T ≠ 38) : g ≠ k := by
  rcases h.2 with ⟨h, -⟩ | ⟨g', cap', cur, e, hg, hh, -⟩
  · cases h
  · injection e with e _ _
    injection e with e
    injection e with e _ _
    subst e
    rintro rfl
    obtain ⟨fz, hb'⟩ : ∃ fz, w.heap[g]? = some (.cells cs T fz) := ⟨_, hb⟩
    have e2 := hh.symm.trans hb'
    injection e2 with e2
    injection e2 with _ e2 _
    exact hT e2.symm
def TinyQ (w : World) (K g o cap : Nat) (l : List InsV) : Prop :=
  CodeAt w g o l ∧ Box w K #[.int .i64 0, .int .i64 1, .int .i64 2] 3 ∧ Box w (K + 1) #[.int .i64 (-1), .int .i64 (-1), .int .i64 1] 3 ∧ Box w (K + 1 + 1) #[.slice (some ⟨g, o, none⟩) l.length cap] 32 ∧
    Box w (K + 1 + 1 + 1) #[.slice (some ⟨K, 0, none⟩) 3 3, .slice (some ⟨K + 1, 0, none⟩) 3 3, .int .i64 0, .int .i64 0, .slice (some ⟨K + 1 + 1, 0, none⟩) 1 1] 36 ∧ l.length ≤ cap ∧ cap ≤ maxLen
theorem TinyK.q {w : World} {base K g cap : Nat} {l : List InsV} (h : TinyK w base K g cap l) : TinyQ w K g 0 cap l := ⟨CodeAt.of h.1 rfl, h.2.1, h.2.2.1, h.2.2.2.1, h.2.2.2.2.1, h.2.2.2.2.2.2.2.1, h.2.2.2.2.2.2.2.2⟩
theorem TinyQ.below {w w' : World} {K g o cap : Nat} {l : List InsV} (h : TinyQ w K g o cap l) (hb : Below w.heap.size w w') : TinyQ w' K g o cap l :=
  ⟨h.1.below hb, h.2.1.below hb, h.2.2.1.below hb, h.2.2.2.1.below hb, h.2.2.2.2.1.below hb, h.2.2.2.2.2⟩
theorem vec_three {w : World} {S : Nat → Prop} {b : Nat} {x y z : Int} (hb : Box w b #[.int .i64 x, .int .i64 y, .int .i64 z] 3) (hS : S b) (hx : i64R x) (hy : i64R y) (hz : i64R z) : IntsV w S (.slice (some ⟨b, 0, none⟩) 3 3) [x, y, z] := by
  refine ⟨some ⟨b, 0, none⟩, 3, rfl, by simp, by omega, fun _ => ⟨b, 0, rfl, hS, fun j u hj => ?_⟩⟩
  have hj3 : j < 3 := by
    have := (List.getElem?_eq_some_iff.1 hj).1
    simpa using this
  rcases (show j = 0 ∨ j = 1 ∨ j = 2 by omega) with rfl | rfl | rfl
  · simp at hj; subst hj; exact ⟨(hb.cell 0 (v := .int .i64 x) rfl).1, hx⟩
  · simp at hj; subst hj; exact ⟨(hb.cell 1 (v := .int .i64 y) rfl).1, hy⟩
  · simp at hj; subst hj; exact ⟨(hb.cell 2 (v := .int .i64 z) rfl).1, hz⟩
theorem TinyQ.funs {w : World} {K g o cap : Nat} {l : List InsV} (t : TinyQ w K g o cap l) (hl : ∀ x ∈ l, InsR x ∧ x.args = []) : FunsV w (· < w.heap.size) (.slice (some ⟨K + 1 + 1 + 1, 0, none⟩) 1 1) [K0 l] := by
  obtain ⟨t0, t1, t2, t4, t5, c1, c2⟩ := t
  have r0 : i64R 0 := by unfold i64R; omega
  have r1 : i64R 1 := by unfold i64R; omega
  have r2 : i64R 2 := by unfold i64R; omega
  have r3 : i64R (-1) := by unfold i64R; omega
  refine vec_one t5.lt ⟨_, _, _, ⟨(t5.cell 0 (v := .slice (some ⟨K, 0, none⟩) 3 3) rfl).1, (t5.cell 1 (v := .slice (some ⟨K + 1, 0, none⟩) 3 3) rfl).1, (t5.cell 2 (v := .int .i64 0) rfl).1, (t5.cell 3 (v := .int .i64 0) rfl).1, (t5.cell 4 (v := .slice (some ⟨K + 1 + 1, 0, none⟩) 1 1) rfl).1⟩, ?_, ?_, ?_, r0, r0⟩ (by omega) (by omega)
  · exact vec_three t1 t1.lt r0 r1 r2
  · exact vec_three t2 t2.lt r3 r3 r1
  · refine vec_one t4.lt ⟨_, (t4.cell 0 (v := .slice (some ⟨g, o, none⟩) l.length cap) rfl).1, ?_⟩ (by omega) (by omega)
    refine ⟨some ⟨g, o, none⟩, cap, rfl, c1, by simpa [maxLen] using c2, fun hp => ⟨g, o, rfl, t0.1, fun j y hy => ?_⟩⟩
    obtain ⟨hr, ha⟩ := hl y (List.mem_of_getElem? hy)
    exact ⟨.slice none 0 0, ⟨t0.2 j y 0 _ hy rfl, t0.2 j y 1 _ hy rfl, t0.2 j y 2 _ hy rfl, t0.2 j y 3 _ hy rfl, t0.2 j y 4 _ hy rfl, t0.2 j y 5 _ hy rfl, t0.2 j y 6 _ hy rfl⟩, by rw [ha]; exact Vec.nil _ _ _, hr⟩
theorem few_K0 {l : List InsV} (hl : ∀ x ∈ l, InsR x ∧ x.args = []) : progFew [K0 l] := fun f hf b hb x hx => by
  rw [List.mem_singleton] at hf
  subst hf
  have hb' : b = l := by simpa [K0] using hb
  subst hb'
  rw [(hl x hx).2]
  simp
theorem r_iA : InsR iA ∧ iA.args = [] := ⟨by unfold InsR i64R iA; simp, rfl⟩
theorem r_iD : InsR iD ∧ iD.args = [] := ⟨by unfold InsR i64R iD; simp, rfl⟩
theorem r_iZ : InsR iZ ∧ iZ.args = [] := ⟨by unfold InsR i64R iZ; simp, rfl⟩
theorem r_iL : InsR iL ∧ iL.args = [] := ⟨by unfold InsR i64R iL; simp, rfl⟩
theorem r_iR : InsR iR ∧ iR.args = [] := ⟨by unfold InsR i64R iR; simp, rfl⟩
theorem r_iM : InsR iM ∧ iM.args = [] := ⟨by unfold InsR i64R iM; simp, rfl⟩
theorem check_tiny {w : World} {K g o cap : Nat} {l : List InsV} (hT : TabP w) (hR : RowP w) (t : TinyQ w K g o cap l) (hl : ∀ x ∈ l, InsR x ∧ x.args = []) (m : Nat) (hm : ∀ n, ChkR [K0 l] n → n = m) :
    Calls Tryz.prog 6 #[.agg #[.slice (some ⟨K + 1 + 1 + 1, 0, none⟩) 1 1]] w fun e w' => e = .returned (.int .i64 (m : Int)) ∧ Below w.heap.size w w' :=
  (kcheck_any [K0 l] _ w w.heap.size (Nat.le_refl _) (t.funs hl) hT hR (few_K0 hl)).mono fun e w' ⟨n, h1, h2, h3⟩ => ⟨by rw [h1, hm n h2], h3⟩
set_option maxHeartbeats 4000000 in
set_option maxRecDepth 100000 in
theorem alive8_any (w : World) (hT : TabP w) (hR : RowP w) : Calls Tryz.prog 4 #[] w fun e w' => e = .returned (.bool true) ∧ Below w.heap.size w w' := by
  have HT := hide (fun (W : World) (hW : Below w.heap.size w W) => hT.below hW hT.1)
  have HR := hide (fun (W : World) (hW : Below w.heap.size w W) => hR.below hW hR.1)
  clear hT hR
  go_enter Tryz.func4, Tryz.ntmps4
  go_upto_region 2 with (go_at_call 8; (with_reducible refine (tinyF_any w).mono ?_); rintro e w1 ⟨K1, g1, cap1, rfl, ht1, hb1⟩; have HT1 := hide ht1; have HB1 := hide hb1; clear ht1 hb1)
  obtain ⟨w2, hw2⟩ : ∃ w2, w2 = w1.alloc (.cells #[.slice (some ⟨K1 + 1 + 1 + 1, 0, none⟩) 1 1] 24) := ⟨_, rfl⟩
  obtain ⟨h2, hh2⟩ : ∃ h2, w1.heap.size = h2 := ⟨_, rfl⟩
  have HP0 := hide (show Box w2 (h2) #[.slice (some ⟨K1 + 1 + 1 + 1, 0, none⟩) 1 1] 24 by rw [hw2, ← hh2]; have t := Box.new w1 #[.slice (some ⟨K1 + 1 + 1 + 1, 0, none⟩) 1 1] 24; (try simp only [World.size_alloc] at t); exact t)
  have HB2 := hide (show Below w1.heap.size w1 w2 by rw [hw2]; exact ((Below.refl _ _).alloc (Nat.le_refl _) _))
  have w2s := HB2.out.size
  have w2z := hide (show w2.heap.size = h2 + 1 by rw [hw2, ← hh2]; simp only [World.size_alloc])
  have HPK0 := hide (fun (W : World) (hW : Below w2.heap.size w2 W) => ((HP0.out.below hW).cell 0 (v := .slice (some ⟨K1 + 1 + 1 + 1, 0, none⟩) 1 1) rfl).1)
  have lHP0 := HP0.out.lt
  have h2g : w1.heap.size ≤ h2 := by omega
  rw [← hw2, hh2]
  clear hw2 hh2
  have HQ1 := hide (HT1.out.q.below HB2.out)
  obtain ⟨t0, t1, t2, t4, t5, tc1, tc2⟩ := HQ1.out
  have l4 := t4.lt
  have l5 := t5.lt
  have hgk : g1 < w2.heap.size := t0.1
  obtain ⟨p0, -⟩ := HP0.out.cell 0 (v := .slice (some ⟨K1 + 1 + 1 + 1, 0, none⟩) 1 1) rfl
  have f4 := (t5.cell 4 (v := .slice (some ⟨K1 + 1 + 1, 0, none⟩) 1 1) rfl).1
  obtain ⟨b0, bf⟩ := t4.cell 0 (v := .slice (some ⟨g1, 0, none⟩) 4 cap1) rfl
  have tc3 : 4 ≤ cap1 := tc1
  clear t0 t1 t2 t4 t5 tc1
  go_region
  obtain ⟨w3, hw3⟩ : ∃ w3, w3 = (w2.setCell ⟨K1 + 1 + 1, 0, none⟩ (.slice (some ⟨g1, 7, none⟩) 3 (cap1 - 1))).drew := ⟨_, rfl⟩
  have HG3 := hide (show But (K1 + 1 + 1) w2 w3 by rw [hw3]; have h := (But.refl (K1 + 1 + 1) w2).set (j := 0) (v := .slice (some ⟨g1, 7, none⟩) 3 (cap1 - 1)); exact ⟨h.os, h.tape, h.output, h.size, h.block⟩)
  have HS3 := hide (show Box w3 (K1 + 1 + 1) #[.slice (some ⟨g1, 7, none⟩) 3 (cap1 - 1)] 32 by rw [hw3]; exact HQ1.out.2.2.2.1.set 0 _)
  have hk1 := HT1.out.2.2.2.2.2.1
  have lK := HT1.out.2.2.2.2.1.lt
  have hgne : g1 ≠ K1 + 1 + 1 := HT1.out.1.ne_box HT1.out.2.2.2.1 (by decide)
  have HP3 := hide (show TinyQ w3 K1 g1 7 (cap1 - 1) [iD, iL, iR] from
    ⟨(HQ1.out.1.but HG3.out hgne).tail, HG3.out.box HQ1.out.2.1 (by omega), HG3.out.box HQ1.out.2.2.1 (by omega), HS3.out, HG3.out.box HQ1.out.2.2.2.2.1 (by omega), by show 3 ≤ cap1 - 1; omega, by omega⟩)
  have HX3 := hide (HG3.out.box HP0.out (by omega))
  have HB3 := hide (HG3.out.below (HB1.out.trans (HB2.out.mono HB1.out.size)) (by omega) (by have := HB1.out.size; have := HB2.out.size; omega))
  have hz3 := HB3.out.size
  rw [← hw3]
  clear hw3 p0 f4 b0 bf
  go_upto_region 4 with (go_at_call 8; (with_reducible refine (tinyF_any w3).mono ?_); rintro e w4 ⟨K2, g2, cap2, rfl, ht2, hb4⟩; have HT2 := hide ht2; have HB4 := hide hb4; clear ht2 hb4)
  obtain ⟨w5, hw5⟩ : ∃ w5, w5 = w4.alloc (.cells #[.slice (some ⟨K2 + 1 + 1 + 1, 0, none⟩) 1 1] 24) := ⟨_, rfl⟩
  obtain ⟨h5, hh5⟩ : ∃ h5, w4.heap.size = h5 := ⟨_, rfl⟩
  have HV0 := hide (show Box w5 (h5) #[.slice (some ⟨K2 + 1 + 1 + 1, 0, none⟩) 1 1] 24 by rw [hw5, ← hh5]; have t := Box.new w4 #[.slice (some ⟨K2 + 1 + 1 + 1, 0, none⟩) 1 1] 24; (try simp only [World.size_alloc] at t); exact t)
  have HB5 := hide (show Below w4.heap.size w4 w5 by rw [hw5]; exact ((Below.refl _ _).alloc (Nat.le_refl _) _))
  have w5s := HB5.out.size
  have w5z := hide (show w5.heap.size = h5 + 1 by rw [hw5, ← hh5]; simp only [World.size_alloc])
  have HVK0 := hide (fun (W : World) (hW : Below w5.heap.size w5 W) => ((HV0.out.below hW).cell 0 (v := .slice (some ⟨K2 + 1 + 1 + 1, 0, none⟩) 1 1) rfl).1)
  have lHV0 := HV0.out.lt
  have h5g : w4.heap.size ≤ h5 := by omega
  rw [← hw5, hh5]
  clear hw5 hh5
  have HQ2 := hide (HT2.out.q.below HB5.out)
  have HO5 := hide (HT2.out.1.but (But.of_bel (b := g2 + 1) HB5.out) (by omega))
  have l4 := HQ2.out.2.2.2.1.lt
  have l5 := HQ2.out.2.2.2.2.1.lt
  have tc4 : 4 ≤ cap2 := HQ2.out.2.2.2.2.2.1
  have hg2b := HT2.out.2.2.2.2.2.2.1
  have hgk2 : g2 < w5.heap.size := HQ2.out.1.1
  have hn0 := HT2.out.1.ne_box HT2.out.2.1 (by decide)
  have hn1 := HT2.out.1.ne_box HT2.out.2.2.1 (by decide)
  have hn2 := HT2.out.1.ne_box HT2.out.2.2.2.1 (by decide)
  have hn3 := HT2.out.1.ne_box HT2.out.2.2.2.2.1 (by decide)
  obtain ⟨p0, -⟩ := HV0.out.cell 0 (v := .slice (some ⟨K2 + 1 + 1 + 1, 0, none⟩) 1 1) rfl
  have f4 := (HQ2.out.2.2.2.2.1.cell 4 (v := .slice (some ⟨K2 + 1 + 1, 0, none⟩) 1 1) rfl).1
  have b0 := (HQ2.out.2.2.2.1.cell 0 (v := .slice (some ⟨g2, 0, none⟩) 4 cap2) rfl).1
  have k0 : w5.cell? ⟨g2, 7, none⟩ = some (.int .i64 15) := HQ2.out.1.2 1 iD 0 _ rfl rfl
  have kf : w5.frozen? ⟨g2, 7, none⟩ = false := World.ownsRow.frozenAt HO5.out 7
  have hz5 := HB5.out.size
  have hz4 := HB4.out.size
  go_upto_region 5 with (fail)
  obtain ⟨w6, hw6⟩ : ∃ w6, w6 = w5.setCell ⟨g2, 7, none⟩ (.int .i64 2) := ⟨_, rfl⟩
  have HG6 := hide (show But g2 w5 w6 by rw [hw6]; exact (But.refl _ _).set)
  have HO6 := hide (show OwI w6 w3.heap.size (.slice (some ⟨g2, 0, none⟩) 4 cap2) [iA, iM, iL, iR] by rw [hw6]; exact (World.ownsRow.stored HO5.out 7 (.int .i64 2)).1)
  rw [← hw6]
  clear hw6 p0 f4 b0 k0 kf
  have HB36 := hide (HG6.out.below (HB4.out.trans (HB5.out.mono hz4)) hg2b (by omega))
  have HW6 := hide (HB3.out.trans (HB36.out.mono hz3))
  have HP6 := hide (HP3.out.below HB36.out)
  have HX6 := hide (HX3.out.below HB36.out)
  have hh5w : w4.heap.size ≤ h5 := by omega
  have hg2w4 := (World.ownsRow.lt HT2.out.1 g2 rfl).2
  have HV6 := hide (HG6.out.box HV0.out (by omega))
  have HQ6 := hide (show TinyQ w6 K2 g2 0 cap2 [iA, iM, iL, iR] from ⟨CodeAt.of HO6.out rfl, HG6.out.box HQ2.out.2.1 (Ne.symm hn0), HG6.out.box HQ2.out.2.2.1 (Ne.symm hn1), HG6.out.box HQ2.out.2.2.2.1 (Ne.symm hn2), HG6.out.box HQ2.out.2.2.2.2.1 (Ne.symm hn3), tc4, HQ2.out.2.2.2.2.2.2⟩)
  clear hn0 hn1 hn2 hn3
  have HMchk8_ok : ∀ x ∈ [iA, iD, iL, iR], InsR x ∧ x.args = [] := (by intro x hx; simp at hx; rcases hx with rfl | rfl | rfl | rfl; exact r_iA; exact r_iD; exact r_iL; exact r_iR)
  have HMchk8_stale : ∀ x ∈ [iA, iD, iZ, iL, iR], InsR x ∧ x.args = [] := (by intro x hx; simp at hx; rcases hx with rfl | rfl | rfl | rfl | rfl; exact r_iA; exact r_iD; exact r_iZ; exact r_iL; exact r_iR)
  have HMchk8_unset : ∀ x ∈ [iD, iL, iR], InsR x ∧ x.args = [] := (by intro x hx; simp at hx; rcases hx with rfl | rfl | rfl; exact r_iD; exact r_iL; exact r_iR)
  have HMchk8_kind : ∀ x ∈ [iA, iM, iL, iR], InsR x ∧ x.args = [] := (by intro x hx; simp at hx; rcases hx with rfl | rfl | rfl | rfl; exact r_iA; exact r_iM; exact r_iL; exact r_iR)
  go_wp2_with (first
    | (go_at_call 6; (with_reducible refine (check_tiny (HT.out w11 (HW6.out.trans (HS11.out.mono HW6.out.size))) (HR.out w11 (HW6.out.trans (HS11.out.mono HW6.out.size))) (HQ6.out.below HS11.out) HMchk8_kind 6 (fun n h => chk8_kind h)).mono ?_); rintro e w12 ⟨rfl, hb12⟩; have HS12 := hide (HS11.out.trans (hb12.mono HS11.out.size)); clear hb12)
    | (go_at_call 6; (with_reducible refine (check_tiny (HT.out w10 (HW6.out.trans (HS10.out.mono HW6.out.size))) (HR.out w10 (HW6.out.trans (HS10.out.mono HW6.out.size))) (HP6.out.below HS10.out) HMchk8_unset 7 (fun n h => chk8_unset h)).mono ?_); rintro e w11 ⟨rfl, hb11⟩; have HS11 := hide (HS10.out.trans (hb11.mono HS10.out.size)); have q11 := ((HV6.out.below HS11.out).cell 0 (v := .slice (some ⟨K2 + 1 + 1 + 1, 0, none⟩) 1 1) rfl).1; clear hb11)
    | (go_at_call 6; (with_reducible refine (check_tiny (HT.out w9 (HW6.out.trans (HS9.out.mono HW6.out.size))) (HR.out w9 (HW6.out.trans (HS9.out.mono HW6.out.size))) (HT9.out.q) HMchk8_stale 8 (fun n h => chk8_stale h)).mono ?_); rintro e w10 ⟨rfl, hb10⟩; have HS10 := hide (HS9.out.trans (hb10.mono HS9.out.size)); have q10 := ((HX6.out.below HS10.out).cell 0 (v := .slice (some ⟨K1 + 1 + 1 + 1, 0, none⟩) 1 1) rfl).1; clear hb10)
    | (go_at_call 8; (with_reducible refine (tinyT_any w8).mono ?_); rintro e w9 ⟨K4, g4, cap4, rfl, ht9, hb9⟩; have HT9 := hide ht9; have HS9 := hide (HS8.out.trans (hb9.mono HS8.out.size)); clear ht9 hb9)
    | (go_at_call 6; (with_reducible refine (check_tiny (HT.out w7 (HW6.out.trans (HS7.out.mono HW6.out.size))) (HR.out w7 (HW6.out.trans (HS7.out.mono HW6.out.size))) (HT7.out.q) HMchk8_ok 0 (fun n h => chk8_ok h)).mono ?_); rintro e w8 ⟨rfl, hb8⟩; have HS8 := hide (HS7.out.trans (hb8.mono HS7.out.size)); clear hb8)
    | (go_at_call 8; (with_reducible refine (tinyF_any w6).mono ?_); rintro e w7 ⟨K3, g3, cap3, rfl, ht7, hb7⟩; have HT7 := hide ht7; have HS7 := hide hb7; clear ht7 hb7))
  go_ret
  exact ⟨rfl, HW6.out.trans (HS12.out.mono HW6.out.size)⟩
end Go.Proofs.YtckpaikppgjfnaaGreatDoor
