/- Layer 15, the program: Line. No condition. -/
import Derived.Test.YteoopilmdlhkhaaDoorPaWM
import Derived.Test.YteoopilmdlhkhaaDoorPaWV
set_option linter.unusedSimpArgs false
set_option linter.unusedVariables false
namespace Go.Proofs.YteoopilmdlhkhaaDoor
open Go.RowKit

def plC15 (p : Int × Int) : List Value := [.int .i64 p.1, .int .i64 p.2]
def lineL15 (f : FunV) (o : List Int) : List (Int × Int) := o.flatMap fun b => (List.range (codeOf f b.toNat).length).map fun i : Nat => (b, (i : Int))
theorem lineL15_snoc (f : FunV) (o : List Int) (b : Int) : lineL15 f (o ++ [b]) = lineL15 f o ++ (List.range (codeOf f b.toNat).length).map fun i : Nat => (b, (i : Int)) := by simp [lineL15]
theorem lineL15_len {f : FunV} {o : List Int} (h : ∀ b ∈ o, (codeOf f b.toNat).length ≤ 40) : (lineL15 f o).length ≤ 40 * o.length := by
  induction o with
  | nil => simp [lineL15]
  | cons b o ih =>
    have h1 := ih (fun c hc => h c (List.mem_cons_of_mem _ hc))
    have h2 := h b List.mem_cons_self
    unfold lineL15 at h1 ⊢
    rw [List.flatMap_cons, List.length_append, List.length_map, List.length_range, List.length_cons]
    omega
theorem info_pl15 : (Tryd.prog.info? 53).map (fun i => (i.zero, i.size, i.bytes)) = some (some (.agg #[.int .i64 0, .int .i64 0]), 2, 16) := by kernel_rfl
set_option maxRecDepth 100000 in
set_option maxHeartbeats 4000000 in
theorem line_any15 (vk vb vs : Value) (f : FunV) (w : World) (B : Nat) (hB : B ≤ w.heap.size) (hi : FunI w (· < B) vk vb vs f) (hok : FlowOk f) (h1 : 1 ≤ f.blocks.length) :
    Calls Tryd.prog 8 #[.agg #[vk, vb, .int .i64 f.params, .int .i64 f.result, vs]] w fun e w' => ∃ v o, e = .returned v ∧ OrderOf f o ∧ OwC plC15 53 2 w' w.heap.size v (lineL15 f o) ∧ Below w.heap.size w w' := by
  have HOR := hide (fun (W : World) (hWW : Below w.heap.size w W) => forder_any vk vb vs f W B (by have := hWW.size; omega) (hi.keep (up hWW hB) (fun _ h => h)) hok h1)
  have HOL := hide (fun (o : List Int) (ho : OrderOf f o) => order_len hok h1 ho)
  have HOX := hide (fun (o : List Int) (ho : OrderOf f o) (z : Int) (hz : z ∈ o) => (show ∃ (bi : Nat) (ls : List InsV), z = (bi : Int) ∧ f.blocks[bi]? = some ls ∧ codeOf f bi = ls ∧ ls.length ≤ 40 from by
    obtain ⟨h2, h3⟩ : 0 ≤ z ∧ z < (f.blocks.length : Int) := (order_reach hok h1 ho).rng z hz
    obtain ⟨bi, rfl⟩ : ∃ bi : Nat, z = (bi : Int) := ⟨z.toNat, by omega⟩
    obtain ⟨ls, hl⟩ : ∃ ls, f.blocks[bi]? = some ls := ⟨_, List.getElem?_eq_getElem (by omega)⟩
    exact ⟨bi, ls, rfl, hl, by unfold codeOf; rw [hl]; rfl, hok.2.1 ls (List.mem_of_getElem? hl)⟩))
  have HBL := hide (fun (W : World) (hWW : Below B w W) => hi.2.2.1.keep (w' := W) (fun b o hb => hWW.cell (p := ⟨b, o, none⟩) hb) (fun _ h => h))
  have HSN := hide (fun (o : List Int) (k : Nat) (z : Int) (hz : o[k]? = some z) => (show lineL15 f (o.take (k + 1)) = lineL15 f (o.take k) ++ (List.range (codeOf f z.toNat).length).map (fun i : Nat => (z, (i : Int))) from by rw [List.take_add_one, hz, Option.toList_some, lineL15_snoc]))
  have HLL := hide (fun (o : List Int) (ho : OrderOf f o) (k : Nat) => (show (lineL15 f (o.take k)).length ≤ 1600 from by
    have t := lineL15_len (f := f) (o := o.take k) (fun b hb => by
      obtain ⟨bi, ls, rfl, h2, h3, h4⟩ := HOX.out o ho b (List.mem_of_mem_take hb)
      rw [Int.toNat_natCast, h3]
      exact h4)
    have := HOL.out o ho
    rw [List.length_take] at t
    omega))
  have HL0 := hide (show lineL15 f [] = [] from rfl)
  obtain ⟨i0, hi0, iz0, iz1, iz2⟩ := info_parts info_pl15
  have HI := hide hi0
  obtain ⟨Ak, ck, rfl, hck, hmk⟩ := hi.1.open'
  obtain ⟨Ab, cb, rfl, hcb, hmb⟩ := hi.2.1.open'
  obtain ⟨As, cs, rfl, hcs, hms⟩ := hi.2.2.1.open'
  obtain ⟨OF, hOF⟩ := letl (OrderOf f)
  obtain ⟨LF, hLF⟩ := letl (lineL15 f)
  rw [hOF] at HOR HOL HOX HLL ⊢
  rw [hLF] at HSN HLL HL0 ⊢
  obtain ⟨nls, hnls⟩ := letl f.blocks.length
  have HNL := hide hnls
  rw [hnls] at HOR HBL hcs
  rw [hnls]
  clear hi hok h1 hOF hLF hnls hi0
  generalize f.kinds.length = lk, f.base.length = lb, f.params = fp, f.result = fr at *
  go_enter Tryd.func8, Tryd.ntmps8
  go_upto_region 1 with (fail)
  obtain ⟨w1, hw1⟩ := letr (w.alloc (.cells #[.slice Ak lk ck, .slice Ab lb cb, .int .i64 fp, .int .i64 fr, .slice As nls cs] 34))
  obtain ⟨h1, hh1⟩ := letl w.heap.size
  have HX1 := lBox hw1 hh1
  have HB1 := lBel hw1
  rw [← hw1]
  clear hw1
  have x2 := And.intro ((HX1.out.below (Below.refl _ _)).cell 0 (v := .slice Ak lk ck) rfl).1 (And.intro ((HX1.out.below (Below.refl _ _)).cell 1 (v := .slice Ab lb cb) rfl).1 (And.intro ((HX1.out.below (Below.refl _ _)).cell 2 (v := .int .i64 fp) rfl).1 (And.intro ((HX1.out.below (Below.refl _ _)).cell 3 (v := .int .i64 fr) rfl).1 (((HX1.out.below (Below.refl _ _)).cell 4 (v := .slice As nls cs) rfl).1))))
  have l2 := HX1.out.lt
  go_upto_region 3 with (go_at_call 16; (with_reducible refine (HOR.out w1 HB1.out).mono ?_); rintro e w3 ⟨v3, o, rfl, hO, ho3, hb3⟩; obtain ⟨A3, c3, rfl, hc3, hm3, -⟩ := id ho3.sl; obtain ⟨no, hno⟩ := letl o.length; rw [hno] at ho3 hc3 ⊢; have HNO := hide hno; have HO := hide hO; have HO3 := hide ho3; have HB3 := hide hb3; clear hO ho3 hb3 x2 l2 hno)
  have HXO := hide (HOX.out o HO.out)
  have HOL2 := hide (show no ≤ 40 from by have := HOL.out o HO.out; have := HNO.out; omega)
  have HST := hide (HSN.out o)
  have HLLo := hide (HLL.out o HO.out)
  have HX3 := hide (HX1.out.below HB3.out)
  have HW3 := hide (show Below h1 w w3 from by have q := HB1.out.trans (HB3.out.mono HB1.out.size); rw [hh1] at q; exact q)
  have HC := hide (fun (V : World) (hV : Below w3.heap.size w3 V) => And.intro ((HX3.out.below hV).cell 0 (v := .slice Ak lk ck) rfl).1 (And.intro ((HX3.out.below hV).cell 1 (v := .slice Ab lb cb) rfl).1 (And.intro ((HX3.out.below hV).cell 2 (v := .int .i64 fp) rfl).1 (And.intro ((HX3.out.below hV).cell 3 (v := .int .i64 fr) rfl).1 (((HX3.out.below hV).cell 4 (v := .slice As nls cs) rfl).1)))))
  have hz3 := HW3.out.size
  go_loopw [3, 10] (fun lv z wr => ∃ k : Nat, k ≤ no ∧ z = .int .i64 (k : Int) ∧ Hid (OwC plC15 53 2 wr w3.heap.size lv (LF (o.take k))) ∧ Below w3.heap.size w3 wr) (fun _ z _ => no - (intOf z).toNat)
  case atStart => exact ⟨0, Nat.zero_le _, rfl, hide (by rw [List.take_zero, HL0.out]; exact OwC.nil _ _), Below.refl _ _⟩
  case round =>
    obtain ⟨k, hkn, rfl, HMK, hb⟩ := hrel
    obtain ⟨wo, rfl⟩ : ∃ wo, wo = wr := ⟨_, rfl⟩
    have HBO := hide hb
    have hzo := hb.size
    clear hb
    have hno40 := HOL2.out
    by_cases hlt : k < no
    case neg =>
      obtain rfl : no = k := by omega
      have hnn : ¬ ((no : Int) < (no : Int)) := by omega
      rw [List.take_of_length_le (Nat.le_of_eq HNO.out)] at HMK
      go_wp2
      go_ret
      exact ⟨_, rfl, o, HO.out, HMK.out.lower (by omega), by first | exact HW3.out.trans (HBO.out.mono (by omega)) | (rw [hh1]; exact HW3.out.trans (HBO.out.mono (by omega)))⟩
    have hlt' : (k : Int) < (no : Int) := by omega
    have hk0 : (0 : Int) ≤ (k : Int) := by omega
    have HLT := hide hlt
    obtain ⟨z, hz⟩ : ∃ z, o[k]? = some z := ⟨_, List.getElem?_eq_getElem (by have := HNO.out; omega)⟩
    obtain ⟨g1, e1, hg1, lg1, c1⟩ := ow15_at HO3.out hz
    subst e1
    have d1 : wo.cell? ⟨g1, k, none⟩ = some (.int .i64 z) := (HBO.out.cell (p := ⟨g1, k, none⟩) lg1).trans c1
    have lg : g1 < wo.heap.size := Nat.lt_of_lt_of_le lg1 hzo
    have HS1 := hide (HST.out k z hz)
    have HSL := hide (HLLo.out k)
    have HSL1 := hide (HLLo.out (k + 1))
    obtain ⟨bi, ls, rfl, hls, hco, hl40⟩ := HXO.out z (List.mem_of_getElem? hz)
    rw [Int.toNat_natCast, hco] at HS1
    have HWB := hide (show Below B w wo from (HW3.out.mono (by omega)).trans (HBO.out.mono (by omega)))
    obtain ⟨L0, hL0⟩ := letl (LF (o.take k))
    rw [hL0] at HS1 HSL
    rw [hL0] at HMK
    obtain ⟨bb, ob, Al, cl, hAs, hbb, dd, -⟩ := (HBL.out wo HWB.out).get hls
    subst hAs
    have hbi : bi < nls := by have := HNL.out; have := (List.getElem?_eq_some_iff.1 hls).1; omega
    have hbi0 : (0 : Int) ≤ (bi : Int) := by omega
    have hbi1 : (bi : Int) < (nls : Int) := by omega
    obtain ⟨len, hlen⟩ := letl ls.length
    rw [hlen] at hl40 HS1 dd
    have q0 := HC.out wo HBO.out
    have l0 := Nat.lt_of_lt_of_le HX3.out.lt hzo
    have lbb : bb < wo.heap.size := by have := HWB.out.size; omega
    clear hz c1 lg1 hls hco hL0 hbb hlen
    go_upto_region 6 with (fail)
    go_loopw [3, 21] (fun lv z wr => ∃ j : Nat, j ≤ len ∧ z = .int .i64 (j : Int) ∧ Hid (OwC plC15 53 2 wr w3.heap.size lv (L0 ++ (List.range j).map (fun i : Nat => ((bi : Int), (i : Int))))) ∧ Below w3.heap.size w3 wr) (fun _ z _ => len - (intOf z).toNat)
    case atStart => exact ⟨0, Nat.zero_le _, rfl, hide (by simpa using HMK.out), HBO.out⟩
    case round =>
      obtain ⟨j, hj, rfl, HMJ, hb⟩ := hrel
      obtain ⟨wj, rfl⟩ : ∃ wj, wj = wr := ⟨_, rfl⟩
      have HBJ := hide hb
      have hzj := hb.size
      clear hb
      by_cases hjl : j < len
      case neg =>
        obtain rfl : len = j := by omega
        have hnn : ¬ ((len : Int) < (len : Int)) := by omega
        go_wp2
        go_roundw
        case rel => exact ⟨k + 1, by have := HLT.out; omega, by go_num, hide (by rw [HS1.out]; exact HMJ.out), HBJ.out⟩
        case measure => have := HLT.out; simp [intOf]; omega
      have hjl' : (j : Int) < (len : Int) := by omega
      have HJL := hide hjl
      have hLJ : (L0 ++ (List.range j).map (fun i : Nat => ((bi : Int), (i : Int)))).length ≤ 1700 := by
        rw [List.length_append, List.length_map, List.length_range]
        have := HSL.out
        omega
      have HSJ := hide (show L0 ++ (List.range (j + 1)).map (fun i : Nat => ((bi : Int), (i : Int))) = (L0 ++ (List.range j).map (fun i : Nat => ((bi : Int), (i : Int)))) ++ [((bi : Int), (j : Int))] from by rw [List.range_succ, List.map_append, List.append_assoc]; rfl)
      obtain ⟨LJ, hLJe⟩ := letl (L0 ++ (List.range j).map (fun i : Nat => ((bi : Int), (i : Int))))
      rw [hLJe] at HMJ HSJ hLJ
      clear hLJe
      obtain ⟨A5, c5, hv5, hc5, hm5⟩ := HMJ.out.sl
      subst hv5
      obtain ⟨nj, hnj⟩ := letl LJ.length
      rw [hnj] at HMJ hLJ hc5 ⊢
      have HNJ := hide hnj
      clear hnj
      obtain ⟨Hb, hHb⟩ := letl wj.heap.size
      obtain ⟨w8, hw8⟩ := letr (wj.alloc (.cells #[.int .i64 (bi : Int), .int .i64 (j : Int)] 53))
      have BXb := lBox hw8 hHb
      have HW8 := hide (And.intro hw8 hHb)
      have HA8 := hide (show OwC plC15 53 2 w8 w3.heap.size (.slice A5 nj c5) LJ from HMJ.out.below (lBel hw8).out)
      have HC8 := hide (HBJ.out.trans ((lBel hw8).out.mono HBJ.out.size))
      clear hw8 hHb
      go_wp2_with (at_builtin; rw [← HW8.out.1]; (try rw [HW8.out.2]); refine wpList_append_c (c := plC15) (sz := 2) w8 (by rfl) _ _ _ (by rfl) w3.heap.size i0 _ 16 Tryd.underlying37 HI.out iz0 iz1 iz2 rfl (by omega) (by omega) (.slice A5 nj c5) LJ nj HNJ.out (by rfl) HA8.out ((bi : Int), (j : Int)) rfl (fun u hu => by simp only [plC15, List.mem_cons, List.mem_nil_iff, or_false] at hu; rcases hu with rfl | rfl <;> rfl) Hb _ BXb.out rfl (by rfl) (by omega) HC8.out.size ?_; intro g5 k5 w9 ho5 hg5 hv5 hl5; have HO5 := hide ho5; have HB9 := hide (HC8.out.grown hg5 HC8.out.size (fun b hb' => (HA8.out.lt b hb').1)); clear ho5 hg5 hv5 hl5)
      go_roundw
      case rel => exact ⟨j + 1, by have := HJL.out; omega, by go_num, hide (by rw [HSJ.out]; exact HO5.out), HB9.out⟩
      case measure => have := HJL.out; simp [intOf]; omega
end Go.Proofs.YteoopilmdlhkhaaDoor
