/- Layer 15, the program: found. Conditions: the tables of parts and of the library read as listed. -/
import Derived.Test.YteoopilmdlhkhaaDoorPaWF
import Derived.Test.YteoopilmdlhkhaaDoorPaZN
set_option linter.unusedSimpArgs false
set_option linter.unusedVariables false
namespace Go.Proofs.YteoopilmdlhkhaaDoor
open Go.RowKit

/-- What is live at a block's end. -/
noncomputable def endT15 (f : FunV) (b : Nat) : List Nat := Classical.epsilon (EndS f b)
theorem endT15_eq {f : FunV} (hok : FlowOk f) {b : Nat} {t : List Nat} (h : EndS f b t) : endT15 f b = t := (Classical.epsilon_spec (p := EndS f b) ⟨t, h⟩).one hok h
def prs15 (ls : List InsV) : List (Nat × InsV) := ((List.range ls.length).map (fun j => (j, ls.getD j ⟨0, 0, 0, 0, 0, 0, []⟩))).reverse
noncomputable def fnd15 (f : FunV) (l : List Int) : Int × SpF15 := l.foldl (fun a b => (a.1 + 2 * ((codeOf f b.toNat).length : Int), (blk15 f a.1 (prs15 (codeOf f b.toNat)) (endT15 f b.toNat, a.2)).2)) (0, fun _ => none)
theorem fnd15_snoc (f : FunV) (l : List Int) (b : Int) : fnd15 f (l ++ [b]) = ((fnd15 f l).1 + 2 * ((codeOf f b.toNat).length : Int), (blk15 f (fnd15 f l).1 (prs15 (codeOf f b.toNat)) (endT15 f b.toNat, (fnd15 f l).2)).2) := by simp [fnd15, List.foldl_append]
set_option maxRecDepth 100000 in
set_option maxHeartbeats 4000000 in
theorem found_any15 (vk vb vs : Value) (f : FunV) (w : World) (B : Nat) (hB : B ≤ w.heap.size) (hi : FunI w (· < B) vk vb vs f) (hT : TabP w) (hTB : 0 < B) (hW : TabW w) (hWB : 1 < B) (hok : FlowOk f) (h1 : 1 ≤ f.blocks.length) (hne : ∀ c, c < f.blocks.length → codeOf f c ≠ []) (hfew : ∀ l ∈ f.blocks, ∀ x ∈ l, x.args.length ≤ 1099511627000) (hk : f.kinds.length ≤ 1000) :
    Calls Tryd.prog 15 #[.agg #[vk, vb, .int .i64 f.params, .int .i64 f.result, vs]] w fun e w' => ∃ b n o, e = .returned (.map (some b)) ∧ OrderOf f o ∧ MpS15 w' b n (fnd15 f o).2 ∧ n ≤ 100000000 ∧ w.heap.size ≤ b ∧ Below w.heap.size w w' := by
  have HOR := hide (fun (W : World) (hWW : Below w.heap.size w W) => forder_any vk vb vs f W B (by have := hWW.size; omega) (hi.keep (up hWW hB) (fun _ h => h)) hok h1)
  have HOL := hide (fun (o : List Int) (ho : OrderOf f o) => order_len hok h1 ho)
  have HOX := hide (fun (o : List Int) (ho : OrderOf f o) (z : Int) (hz : z ∈ o) => (show ∃ (bi : Nat) (ls : List InsV), z = (bi : Int) ∧ f.blocks[bi]? = some ls ∧ codeOf f bi = ls ∧ ls.length ≤ 40 from by
    obtain ⟨h2, h3⟩ : 0 ≤ z ∧ z < (f.blocks.length : Int) := (order_reach hok h1 ho).rng z hz
    obtain ⟨bi, rfl⟩ : ∃ bi : Nat, z = (bi : Int) := ⟨z.toNat, by omega⟩
    obtain ⟨ls, hl⟩ : ∃ ls, f.blocks[bi]? = some ls := ⟨_, List.getElem?_eq_getElem (by omega)⟩
    exact ⟨bi, ls, rfl, hl, by unfold codeOf; rw [hl]; rfl, hok.2.1 ls (List.mem_of_getElem? hl)⟩))
  have HBK := hide (fun (W : World) (hWW : Below B w W) (bi : Nat) (ls : List InsV) (hl : f.blocks[bi]? = some ls) (b n : Nat) (F : SpF15) (p0 : Int) (hM : MpS15 W b n F) (hbB : B ≤ b) (hn : n ≤ 98000000) (h0 : 0 ≤ p0) (h1' : p0 ≤ 1000000) (hl40 : ls.length ≤ 40) =>
    (block_any15 vk vb vs f bi ls p0 b n F W B (by have := hWW.size; omega) hbB (hi.keep (fun b o hb => hWW.cell (p := ⟨b, o, none⟩) hb) (fun _ h => h)) (hT.below hWW hTB) hTB (hW.below hWW hWB) hWB hok hl hne hfew hk hM (by omega) h0 h1').mono (R' := fun e w' => e = .returned (.tuple #[]) ∧ MpS15 w' b (n + 16384 * ls.length) (blk15 f p0 (prs15 ls) (endT15 f bi, F)).2 ∧ W.grownBy w' (some b)) (fun e w' ⟨h2, t, h3, h4, h5⟩ => ⟨h2, by rw [endT15_eq hok h3]; exact h4, h5⟩))
  have HSN := hide (fun (o : List Int) (k : Nat) (z : Int) (hz : o[k]? = some z) => (show fnd15 f (o.take (k + 1)) = ((fnd15 f (o.take k)).1 + 2 * ((codeOf f z.toNat).length : Int), (blk15 f (fnd15 f (o.take k)).1 (prs15 (codeOf f z.toNat)) (endT15 f z.toNat, (fnd15 f (o.take k)).2)).2) from by rw [List.take_add_one, hz, Option.toList_some, fnd15_snoc]))
  have HF0 := hide (show fnd15 f [] = (0, fun _ => none) from rfl)
  have HBL := hide (fun (W : World) (hWW : Below B w W) => hi.2.2.1.keep (w' := W) (fun b o hb => hWW.cell (p := ⟨b, o, none⟩) hb) (fun _ h => h))
  obtain ⟨Ak, ck, rfl, hck, hmk⟩ := hi.1.open'
  obtain ⟨Ab, cb, rfl, hcb, hmb⟩ := hi.2.1.open'
  obtain ⟨As, cs, rfl, hcs, hms⟩ := hi.2.2.1.open'
  obtain ⟨OF, hOF⟩ := letl (OrderOf f)
  obtain ⟨FN, hFN⟩ := letl (fnd15 f)
  rw [hOF] at HOR HOL HOX ⊢
  rw [hFN] at HSN HF0 ⊢
  obtain ⟨nls, hnls⟩ := letl f.blocks.length
  have HNL := hide hnls
  rw [hnls] at HOR HBK HBL hcs
  rw [hnls]
  clear hi hT hW hok h1 hne hfew hk hOF hFN hnls
  generalize f.kinds.length = lk, f.base.length = lb, f.params = fp, f.result = fr at *
  have hmm := @run_makeMap Tryd.prog
  go_enter Tryd.func15, Tryd.ntmps15
  go_upto_region 1 with (fail)
  obtain ⟨w1, hw1⟩ := letr (w.alloc (.cells #[.slice Ak lk ck, .slice Ab lb cb, .int .i64 fp, .int .i64 fr, .slice As nls cs] 34))
  obtain ⟨h1, hh1⟩ := letl w.heap.size
  have HX1 := lBox hw1 hh1
  have HB1 := lBel hw1
  rw [← hw1]
  have HHB := hide (show B ≤ h1 from by omega)
  clear hw1
  go_upto_region 2 with (fail)
  obtain ⟨w2, hw2⟩ := letr (w1.alloc (.map #[] 0))
  obtain ⟨b, hb⟩ := letl w1.heap.size
  have HM2 := hide (show MpS15 w2 b 0 (fun _ => none) from by rw [hw2, ← hb]; exact MpS15.start w1)
  have HB2 := hide (show Below w1.heap.size w1 w2 from lBel hw2)
  rw [← hw2]
  have hbl := HX1.out.lt
  have HX2 := hide (HX1.out.below HB2.out)
  clear hw2
  have HBW2 := hide (show Below h1 w w2 from by rw [← hh1]; exact HB1.out.trans (HB2.out.mono HB1.out.size))
  have HBB := hide (show B ≤ b from by omega)
  have HB1B := hide (show h1 < b from by omega)
  have x2 := And.intro ((HX2.out.below (Below.refl _ _)).cell 0 (v := .slice Ak lk ck) rfl).1 (And.intro ((HX2.out.below (Below.refl _ _)).cell 1 (v := .slice Ab lb cb) rfl).1 (And.intro ((HX2.out.below (Below.refl _ _)).cell 2 (v := .int .i64 fp) rfl).1 (And.intro ((HX2.out.below (Below.refl _ _)).cell 3 (v := .int .i64 fr) rfl).1 (((HX2.out.below (Below.refl _ _)).cell 4 (v := .slice As nls cs) rfl).1))))
  have l2 := HX2.out.lt
  go_upto_region 4 with (go_at_call 16; (with_reducible refine (HOR.out w2 (by rw [hh1]; exact HBW2.out)).mono ?_); rintro e w3 ⟨v3, o, rfl, hO, ho3, hb3⟩; obtain ⟨A3, c3, rfl, hc3, hm3, -⟩ := id ho3.sl; obtain ⟨no, hno⟩ := letl o.length; rw [hno] at ho3 hc3 ⊢; have HNO := hide hno; have HO := hide hO; have HO3 := hide ho3; have HB3 := hide hb3; clear hO ho3 hb3 x2 l2 hno)
  have HXO := hide (HOX.out o HO.out)
  have HOL2 := hide (show no ≤ 40 from by have := HOL.out o HO.out; have := HNO.out; omega)
  have HST := hide (HSN.out o)
  have HM3 := hide (HM2.out.below HB3.out)
  have HX3 := hide (HX2.out.below HB3.out)
  have HC := hide (fun (V : World) (hV : w3.grownBy V (some b)) => (show V.cell? ⟨h1, 0, none⟩ = some (.slice Ak lk ck) ∧ V.cell? ⟨h1, 1, none⟩ = some (.slice Ab lb cb) ∧ V.cell? ⟨h1, 2, none⟩ = some (.int .i64 fp) ∧ V.cell? ⟨h1, 3, none⟩ = some (.int .i64 fr) ∧ V.cell? ⟨h1, 4, none⟩ = some (.slice As nls cs) from by
    have q := Box.own (row := some b) HX3.out hV HM3.out.hr
    exact ⟨(q.cell 0 (v := .slice Ak lk ck) rfl).1, (q.cell 1 (v := .slice Ab lb cb) rfl).1, (q.cell 2 (v := .int .i64 fp) rfl).1, (q.cell 3 (v := .int .i64 fr) rfl).1, (q.cell 4 (v := .slice As nls cs) rfl).1⟩))
  have hz3 := HB3.out.size
  have hz2 := HBW2.out.size
  go_loopw [4, 11] (fun pv z wr => ∃ k N : Nat, k ≤ no ∧ z = .int .i64 (k : Int) ∧ pv = .int .i64 (FN (o.take k)).1 ∧ 0 ≤ (FN (o.take k)).1 ∧ (FN (o.take k)).1 ≤ 80 * (k : Int) ∧ N ≤ 655360 * k ∧ Hid (MpS15 wr b N (FN (o.take k)).2) ∧ w3.grownBy wr (some b)) (fun _ z _ => no - (intOf z).toNat)
  case atStart => exact ⟨0, 0, Nat.zero_le _, rfl, by rw [List.take_zero, HF0.out], by rw [List.take_zero, HF0.out]; exact Int.le_refl _, by rw [List.take_zero, HF0.out]; simp, by omega, hide (by rw [List.take_zero, HF0.out]; exact HM3.out), gr15_refl _ _⟩
  case round =>
    obtain ⟨k, N, hkn, rfl, rfl, hp0, hp1, hN, HMK, hg⟩ := hrel
    obtain ⟨wo, rfl⟩ : ∃ wo, wo = wr := ⟨_, rfl⟩
    have HG := hide hg
    have hzo := hg.size
    clear hg
    have hno40 := HOL2.out
    by_cases hlt : k < no
    case neg =>
      obtain rfl : no = k := by omega
      have hnn : ¬ ((no : Int) < (no : Int)) := by omega
      rw [List.take_of_length_le (Nat.le_of_eq HNO.out)] at HMK
      go_wp2
      go_ret
      exact ⟨b, rfl, N, o, HO.out, HMK.out, by omega, by have := HB1B.out; omega, (HBW2.out.trans (HB3.out.mono (by omega))).grown HG.out (by omega) (fun j e => by cases e; have := HB1B.out; omega)⟩
    have hlt' : (k : Int) < (no : Int) := by omega
    have hk0 : (0 : Int) ≤ (k : Int) := by omega
    have HLT := hide hlt
    obtain ⟨z, hz⟩ : ∃ z, o[k]? = some z := ⟨_, List.getElem?_eq_getElem (by have := HNO.out; omega)⟩
    obtain ⟨g1, e1, hg1, lg1, c1⟩ := ow15_at HO3.out hz
    subst e1
    have d1 : wo.cell? ⟨g1, k, none⟩ = some (.int .i64 z) := (World.cell?_of_block (a := ⟨g1, k, none⟩) (HG.out.block g1 lg1 (by have := HM2.out.lt; simp; omega))).trans c1
    have lg : g1 < wo.heap.size := Nat.lt_of_lt_of_le lg1 hzo
    have HS1 := hide (HST.out k z hz)
    obtain ⟨bi, ls, rfl, hls, hco, hl40⟩ := HXO.out z (List.mem_of_getElem? hz)
    rw [Int.toNat_natCast, hco] at HS1
    have HWB := hide (show Below B w wo from by
      have q : Below h1 w wo := (HBW2.out.trans (HB3.out.mono (by omega))).grown HG.out (by omega) (fun j e => by cases e; have := HB1B.out; omega)
      exact q.mono (by omega))
    obtain ⟨p0, hp⟩ := letl (FN (o.take k)).1
    obtain ⟨F0, hF⟩ := letl (FN (o.take k)).2
    rw [hp, hF] at HS1
    rw [hF] at HMK
    rw [hp] at hp0 hp1 ⊢
    have HB2' := hide ((HBK.out wo HWB.out bi ls hls b N F0 p0 HMK.out HBB.out (by omega) hp0 (by omega) hl40))
    obtain ⟨bb, ob, Al, cl, hAs, hbb, dd, -⟩ := (HBL.out wo HWB.out).get hls
    subst hAs
    have HDD := hide (show bb < B ∧ wo.cell? ⟨bb, ob + bi, none⟩ = some (.slice Al ls.length cl) from ⟨hbb, dd⟩)
    have hbi : bi < nls := by have := HNL.out; have := (List.getElem?_eq_some_iff.1 hls).1; omega
    have hbi0 : (0 : Int) ≤ (bi : Int) := by omega
    have hbi1 : (bi : Int) < (nls : Int) := by omega
    obtain ⟨len, hlen⟩ := letl ls.length
    rw [hlen] at HB2' HDD hl40 HS1
    have hw1 : IntKind.i64.wrap (2 * (len : Int)) = 2 * (len : Int) := IntWalk.i64_in _ ⟨by omega, by omega⟩
    have hw2 : IntKind.i64.wrap (p0 + 2 * (len : Int)) = p0 + 2 * (len : Int) := IntWalk.i64_in _ ⟨by omega, by omega⟩
    have q0 := HC.out wo HG.out
    have l0 := Nat.lt_of_lt_of_le HX3.out.lt hzo
    clear hz c1 lg1 hls hco hp hF dd hbb hlen
    go_upto_region 7 with (go_at_call 22; (with_reducible refine HB2'.out.mono ?_); rintro e w5 ⟨rfl, hm5, hg5⟩; have HM5 := hide hm5; have HG5 := hide (gr15_trans HG.out hg5); have HG5' := hide hg5; have q5 := HC.out w5 HG5.out; have l5 := Nat.lt_of_lt_of_le l0 hg5.size; have e5 := cell_kept HDD.out.2 hg5 HMK.out.hr; have lb5 : bb < w5.heap.size := (by have := HDD.out.1; have := hg5.size; have := HWB.out.size; omega); clear hm5 hg5 q0 l0 d1 lg)
    go_wp2
    go_roundw
    case rel => exact ⟨k + 1, N + 16384 * len, by have := HLT.out; omega, by go_num, by rw [HS1.out], by rw [HS1.out]; show 0 ≤ p0 + 2 * (len : Int); omega, by rw [HS1.out]; show p0 + 2 * (len : Int) ≤ 80 * ((k + 1 : Nat) : Int); omega, by omega, hide (by rw [HS1.out]; exact HM5.out), HG5.out⟩
    case measure => have := HLT.out; simp [intOf]; omega
end Go.Proofs.YteoopilmdlhkhaaDoor
