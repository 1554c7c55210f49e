/- Texts of several names, of which only what the statement needs is kept. -/
import Derived.Test.YteoopilmdlhkhaaDoorPaEA
/- Layer 12, the program: a set with its bases. No condition. -/
set_option linter.unusedSimpArgs false
set_option linter.unusedVariables false
namespace Go.Proofs.YteoopilmdlhkhaaDoor
open Go.RowKit

set_option maxHeartbeats 4000000 in
set_option maxRecDepth 100000 in
theorem close_any (vk vb vs : Value) (f : FunV) (v : Value) (s : List Nat) (w : World) (B : Nat) (hB : B ≤ w.heap.size) (hi : FunI w (· < B) vk vb vs f) (hk : f.kinds.length ≤ 1000) (hv : SetV w v s) (hl : s.length ≤ 1000) (hw : W64 s) :
    Calls Tryd.prog 38 #[.agg #[vk, vb, .int .i64 f.params, .int .i64 f.result, vs], v] w fun e w' => ∃ r, e = .returned r ∧ WN w w' r (closeL f s) ∧ Below w.heap.size w w' := by
  have HHS := hide (fun (W : World) (hW : Below w.heap.size w W) (m : Nat) (hm : m ≤ 1000000) (b : Bool) (hb : hasB s (m : Int) = b) => hasV0 (hv.below hW) hl hw m hm b hb)
  have HKI := hide (fun (W : World) (hW : Below w.heap.size w W) => hi.1.keep (up hW hB) (fun _ h => h))
  have HBI := hide (fun (W : World) (hW : Below w.heap.size w W) => hi.2.1.keep (up hW hB) (fun _ h => h))
  have HBR := hide (hi.2.1.all)
  have HBB := hide hB
  have HST := hide (fun (k : Nat) (y : Int) (hy : f.kinds[k]? = some y) => (show clsN f s (k + 1) = clsN f s k ++ (if hasB s (k : Int) = true then (k : Int) :: (if y = 2 ∧ k < f.base.length then [f.base.getD k 0] else []) else []) by
    show _ ++ _ = _
    rw [show f.kinds.getD k 0 = y by simp [List.getD, hy]]))
  have HLN := hide (fun k => clsN_len f s k)
  have HRR := hide (fun k (h : k ≤ 1000) => clsN_R HBR.out s h)
  obtain ⟨i0, hi0, iz0, iz1, iz2⟩ := info_parts info_i64
  have HI0 := hide hi0
  obtain ⟨Ak, ck, rfl, hck, hmk⟩ := hi.1.open'
  obtain ⟨Ab, cb, rfl, hcb, hmb⟩ := hi.2.1.open'
  obtain ⟨As, cs, rfl, hcs, hms⟩ := hi.2.2.1.open'
  obtain ⟨lk, hlk⟩ : ∃ lk, f.kinds.length = lk := ⟨_, rfl⟩
  have HLK := hide hlk
  have HCL := hide (show closeL f s = ofL (clsN f s lk) by rw [← hlk]; rfl)
  rw [hlk] at HKI hck hk
  rw [hlk]
  obtain ⟨lb, hlb⟩ : ∃ lb, f.base.length = lb := ⟨_, rfl⟩
  have HLB := hide hlb
  rw [hlb] at HBI HST hcb
  rw [hlb]
  obtain ⟨A0, n0, c0', e0⟩ : ∃ A n c, v = .slice A n c := by
    obtain ⟨A, c, e, -⟩ := hv
    exact ⟨A, _, c, e⟩
  subst e0
  clear hi hlk hlb hi0 hv hl hw hB
  generalize f.blocks.length = ls, f.params = fp, f.result = fr at *
  go_enter Tryd.func38, Tryd.ntmps38
  go_upto_region 1 with (fail)
  obtain ⟨w1, hw1⟩ : ∃ w1, w1 = w.alloc (.cells #[.slice Ak lk ck, .slice Ab lb cb, .int .i64 fp, .int .i64 fr, .slice As ls cs] 34) := ⟨_, rfl⟩
  obtain ⟨h5, hh5⟩ : ∃ h5, w.heap.size = h5 := ⟨_, rfl⟩
  have HX0 := hide (show Box w1 (h5) #[.slice Ak lk ck, .slice Ab lb cb, .int .i64 fp, .int .i64 fr, .slice As ls cs] 34 by rw [hw1, ← hh5]; have t := Box.new w #[.slice Ak lk ck, .slice Ab lb cb, .int .i64 fp, .int .i64 fr, .slice As ls cs] 34; (try simp only [World.size_alloc] at t); exact t)
  have HB1 := hide (show Below w.heap.size w w1 by rw [hw1]; exact ((Below.refl _ _).alloc (Nat.le_refl _) _))
  have w1s := HB1.out.size
  have w1z := hide (show w1.heap.size = h5 + 1 by rw [hw1, ← hh5]; simp only [World.size_alloc])
  have HK0 := hide (fun (W : World) (hW : Below w1.heap.size w1 W) => (And.intro ((HX0.out.below hW).cell 0 (v := .slice Ak lk ck) rfl).1 (And.intro ((HX0.out.below hW).cell 1 (v := .slice Ab lb cb) rfl).1 (And.intro ((HX0.out.below hW).cell 2 (v := .int .i64 fp) rfl).1 (And.intro ((HX0.out.below hW).cell 3 (v := .int .i64 fr) rfl).1 ((HX0.out.below hW).cell 4 (v := .slice As ls cs) rfl).1)))))
  have lHX0 := HX0.out.lt
  have h5g : w.heap.size ≤ h5 := by omega
  rw [← hw1, hh5]
  clear hw1 hh5
  obtain ⟨c0, c1, c2, c3, c4⟩ := HK0.out w1 (Below.refl _ _)
  go_wp2
  clear c0 c1 c2 c3 c4
  go_loopw [5, 11] (fun v i wr => ∃ (k : Nat), k ≤ lk ∧ i = .int .i64 k ∧ Hid (Ow wr w1.heap.size 3 .i64 v (clsN f s k)) ∧ Below w1.heap.size w1 wr) (fun _ i _ => lk - (intOf i).toNat)
  case atStart => exact ⟨0, Nat.zero_le _, rfl, hide (Ow.nil _ _ _ _), Below.refl _ _⟩
  case round =>
    obtain ⟨k, hkl, rfl, HOW, hb⟩ := hrel
    obtain ⟨wo, rfl⟩ : ∃ wo, wo = wr := ⟨_, rfl⟩
    have HC := hide hb
    have HW := hide (HB1.out.trans (hb.mono HB1.out.size))
    have lwo := hb.size
    clear hb
    obtain ⟨zs, hzs⟩ : ∃ zs, clsN f s k = zs := ⟨_, rfl⟩
    have hnz := HLN.out k
    rw [hzs] at HOW hnz
    have HZS := hide hzs
    obtain ⟨Av, cv, hv, hnv, hcv, -⟩ := HOW.out.sl
    obtain ⟨nv, hnv2⟩ : ∃ n, zs.length = n := ⟨_, rfl⟩
    rw [hnv2] at hv hnv hnz
    subst hv
    have HNV := hide hnv2
    clear hnv2 hzs
    by_cases hlt : k < lk
    case neg =>
      obtain rfl : lk = k := by omega
      have hnl : ¬ ((lk : Int) < (lk : Int)) := by omega
      have HOF := hide (fun (W : World) (h : Ow W w1.heap.size 3 .i64 (.slice Av nv cv) zs) => (show Calls Tryd.prog 17 #[.slice Av nv cv] W fun e w' => ∃ r, e = .returned r ∧ WN W w' r (closeL f s) ∧ Below W.heap.size W w' by
        obtain ⟨A', c', e', -, -, hs⟩ := h.sl
        injection e' with q1 q2 q3
        subst q1
        subst q3
        have t := of_anyN Av nv cv zs W hs HNV.out (by omega) (fun z hz => HRR.out lk (by omega) z (by rw [HZS.out]; exact hz))
        rw [HCL.out, HZS.out]
        exact t.mono fun _ _ h => h.wn))
      go_wp2_with (go_at_call 17; refine (HOF.out wo HOW.out).mono ?_; rintro e w9 ⟨r, rfl, hw9, hb9⟩; have HW9 := hide (hw9.lower HW.out.size); have HB9 := hide (HW.out.trans (hb9.mono HW.out.size)); clear hw9 hb9)
      go_ret
      exact ⟨r, rfl, HW9.out, HB9.out⟩
    have HLT := hide hlt
    obtain ⟨y, hy⟩ : ∃ y, f.kinds[k]? = some y := ⟨_, List.getElem?_eq_getElem (by have := HLK.out; omega)⟩
    have HSK := hide (HST.out k y hy)
    obtain ⟨bk, ok, hA, hbk, d0, -⟩ := (HKI.out wo HW.out).get hy
    subst hA
    have hbs : bk < wo.heap.size := by have := HBB.out; have := HW.out.size; omega
    have hk0 : (0 : Int) ≤ (k : Int) := by omega
    have hk1 : (k : Int) < (lk : Int) := by omega
    clear hy
    obtain ⟨bh, hbh⟩ : ∃ b, hasB s (k : Int) = b := ⟨_, rfl⟩
    have HHK := hide (HHS.out wo HW.out k (by omega) bh hbh)
    cases bh
    case false =>
      have HS2 := hide (show clsN f s (k + 1) = zs by rw [HSK.out, if_neg (fun h => by rw [hbh] at h; cases h), List.append_nil, HZS.out])
      clear hbh
      go_wp2_with (go_at_call 60; refine HHK.out.mono ?_; rintro e w2 ⟨rfl, hb2⟩; have HC2 := hide (HC.out.trans (hb2.mono HC.out.size)); have HO2 := hide (HOW.out.belowL hb2); clear hb2)
      go_roundw
      case rel => exact ⟨k + 1, by have := HLT.out; omega, by go_num, by rw [HS2.out]; exact HO2, HC2.out⟩
      case measure => have := HLT.out; simp [intOf]; omega
    rw [if_pos hbh] at HSK
    clear hbh
    by_cases hder : y = 2 ∧ k < lb
    case neg =>
      have HS2 := hide (show clsN f s (k + 1) = zs ++ [(k : Int)] by rw [HSK.out, if_neg hder, HZS.out])
      have hcase : (y == 2) = false ∨ ((y == 2) = true ∧ ¬ (k : Int) < (lb : Int)) := by
        by_cases h2 : y = 2
        · exact .inr ⟨by simpa using h2, fun h => hder ⟨h2, by omega⟩⟩
        · exact .inl (by simpa using h2)
      clear hder
      rcases hcase with q | ⟨q, q2⟩
      all_goals
        go_upto_region 7 with (first
          | (at_builtin; refine wpList_append_one w2 (by rfl) _ _ _ (by rfl) w1.heap.size 3 .i64 i0 _ 8 Tryd.underlying26 HI0.out iz0 iz1 iz2 rfl (by omega) (.slice Av nv cv) zs (by rfl) HO2.out (k : Int) (by rfl) (by have := HNV.out; omega) (by omega) ?_; intro v11 w11 ho11 hb11; have HO11 := hide ho11; have HD11 := hide (HC2.out.trans hb11); clear ho11 hb11)
          | (go_at_call 60; refine HHK.out.mono ?_; rintro e w2 ⟨rfl, hb2⟩; have HC2 := hide (HC.out.trans (hb2.mono HC.out.size)); have HO2 := hide (HOW.out.belowL hb2); have l2 := hb2.size; clear hb2))
        obtain ⟨c0, c1, c2, c3, c4⟩ := HK0.out w11 (HD11.out)
        go_wp2
        go_roundw
        case rel => exact ⟨k + 1, by have := HLT.out; omega, by go_num, by rw [HS2.out]; exact HO11, HD11.out⟩
        case measure => have := HLT.out; simp [intOf]; omega
    obtain ⟨yb, hyb⟩ : ∃ y, f.base[k]? = some y := ⟨_, List.getElem?_eq_getElem (by have := HLB.out; have := hder.2; omega)⟩
    have HS2 := hide (show clsN f s (k + 1) = (zs ++ [(k : Int)]) ++ [yb] by rw [HSK.out, if_pos hder, HZS.out, show f.base.getD k 0 = yb by simp [List.getD, hyb]]; simp)
    obtain ⟨h2, hklb⟩ := hder
    subst h2
    have hk2 : (k : Int) < (lb : Int) := by omega
    go_upto_region 7 with (first
      | (at_builtin; refine wpList_append_one w2 (by rfl) _ _ _ (by rfl) w1.heap.size 3 .i64 i0 _ 8 Tryd.underlying26 HI0.out iz0 iz1 iz2 rfl (by omega) (.slice Av nv cv) zs (by rfl) HO2.out (k : Int) (by rfl) (by have := HNV.out; omega) (by omega) ?_; intro v11 w11 ho11 hb11; have HO11 := hide ho11; have HD11 := hide (HC2.out.trans hb11); clear ho11 hb11)
      | (go_at_call 60; refine HHK.out.mono ?_; rintro e w2 ⟨rfl, hb2⟩; have HC2 := hide (HC.out.trans (hb2.mono HC.out.size)); have HO2 := hide (HOW.out.belowL hb2); have l2 := hb2.size; clear hb2))
    obtain ⟨w3, rfl⟩ : ∃ w3, w3 = w11 := ⟨_, rfl⟩
    obtain ⟨c0, c1, c2, c3, c4⟩ := HK0.out w3 HD11.out
    obtain ⟨bb, ob, hAb, hbb, d1, -⟩ := (HBI.out w3 (HB1.out.trans (HD11.out.mono HB1.out.size))).get hyb
    subst hAb
    have l3 := HD11.out.size
    have HD3 := hide HD11.out
    have HO3 := hide HO11.out
    obtain ⟨A5, c5, hv5, hn5, hc5, -⟩ := HO3.out.sl
    rw [List.length_append, HNV.out] at hv5
    simp only [List.length_cons, List.length_nil] at hv5
    subst hv5
    clear hyb HO11 HD11
    go_wp2_with (at_builtin; refine wpList_append_one w3 (by rfl) _ _ _ (by rfl) w1.heap.size 3 .i64 i0 _ 8 Tryd.underlying26 HI0.out iz0 iz1 iz2 rfl (by omega) (.slice A5 (nv + 1) c5) (zs ++ [(k : Int)]) (by rfl) HO3.out yb (by rfl) (by rw [List.length_append]; have := HNV.out; simp; omega) (by omega) ?_; intro v12 w12 ho12 hb12; have HO12 := hide ho12; have HD12 := hide (HD3.out.trans hb12); clear ho12 hb12)
    go_roundw
    case rel => exact ⟨k + 1, by have := HLT.out; omega, by go_num, by rw [HS2.out]; exact HO12, HD12.out⟩
    case measure => have := HLT.out; simp [intOf]; omega
end Go.Proofs.YteoopilmdlhkhaaDoor

/- Layer 12, the program: Across. Condition: the table of parts reads as listed. -/
set_option linter.unusedSimpArgs false
set_option linter.unusedVariables false
namespace Go.Proofs.YteoopilmdlhkhaaDoor
open Go.RowKit

theorem closeL_ok (f : FunV) (s : List Nat) : SetOk (closeL f s) := ofL_ok _
theorem one_lit12 (W : World) (z : Int) : Sl (W.alloc (.cells #[.int .i64 z] 3)) (W.alloc (.cells #[.int .i64 z] 3)).heap.size .i64 (some ⟨W.heap.size, 0, none⟩) [z] := Sl.lit' W 3 .i64 #[.int .i64 z] [z] rfl
end Go.Proofs.YteoopilmdlhkhaaDoor
