/- Layer 12, the document's answer: a set with its bases, a set's variables of a kind. No condition. -/
import Derived.Test.YtbofnlaacjgclaaDoorPbEE
import Derived.Test.YtbofnlaacjgclaaDoorPbKSX
set_option linter.unusedSimpArgs false
set_option linter.unusedVariables false
namespace Go.Proofs.YtbofnlaacjgclaaDoor
open Go.RowKit

theorem rhasV0 {w : World} {v : Value} {s : List Nat} (h : SetV w v s) (hl : s.length ≤ 1000) (hw : W64 s) (m : Nat) (hm : m ≤ 1000000) (b : Bool) (hb : hasB s (m : Int) = b) :
    Calls Tryd.prog 18 #[v, .int .i64 m] w fun e w' => e = .returned (.bool b) ∧ Below w.heap.size w w' := by
  subst hb
  exact (rhasV h hl hw (m : Int) (by unfold i64R; omega)).mono fun e w' ⟨h1, h2⟩ => ⟨h1, by rw [← h2]; exact Below.refl _ _⟩
theorem ofL_app (l : List Int) (z : Int) : joinL [ofL l, ofL [z]] = ofL (l ++ [z]) := by
  refine has_ext (neat_tidy _) (ofL_tidy _) (join_ok (ofL_ok _) (ofL_ok _)).2 (ofL_ok _).2 fun v => ?_
  rw [join_has, hasB_ofL, hasB_ofL, hasB_ofL]
  simp only [decide_eq_true_eq, List.mem_append]
  constructor
  · rintro (⟨h1, h2⟩ | ⟨h1, h2⟩)
    · exact ⟨.inl h1, h2⟩
    · exact ⟨.inr h1, h2⟩
  · rintro ⟨h1 | h1, h2⟩
    · exact .inl ⟨h1, h2⟩
    · exact .inr ⟨h1, h2⟩
set_option maxHeartbeats 4000000 in
set_option maxRecDepth 100000 in
theorem rclose_any (vk vb vs : Value) (f : FunV) (v : Value) (s : List Nat) (w : World) (B : Nat) (hB : B ≤ w.heap.size) (hi : FunI w (· < B) vk vb vs f) (hk : f.kinds.length ≤ 1000) (hv : SetV w v s) (hl : s.length ≤ 1000) (hw : W64 s) (hder : ∀ k : Nat, f.kinds[k]? = some 2 → k < f.base.length) :
    Calls Tryd.prog 53 #[.agg #[vk, vb, .int .i64 f.params, .int .i64 f.result, vs], v] w fun e w' => ∃ r, e = .returned r ∧ SetV w' r (closeL f s) ∧ Below w.heap.size w w' := by
  have HHS := hide (fun (W : World) (hW : Below w.heap.size w W) (m : Nat) (hm : m ≤ 1000000) (b : Bool) (hb : hasB s (m : Int) = b) => rhasV0 (hv.below hW) hl hw m hm b hb)
  have HKI := hide (fun (W : World) (hW : Below w.heap.size w W) => hi.1.keep (up hW hB) (fun _ h => h))
  have HBI := hide (fun (W : World) (hW : Below w.heap.size w W) => hi.2.1.keep (up hW hB) (fun _ h => h))
  have HBR := hide (hi.2.1.all)
  have HBB := hide hB
  have HDR := hide hder
  have HST := hide (fun (k : Nat) (y : Int) (hy : f.kinds[k]? = some y) => (show clsN f s (k + 1) = clsN f s k ++ (if hasB s (k : Int) = true then (k : Int) :: (if y = 2 ∧ k < f.base.length then [f.base.getD k 0] else []) else []) by
    show _ ++ _ = _
    rw [show f.kinds.getD k 0 = y by simp [List.getD, hy]]))
  have HWI := hide (fun (l : List Int) (W : World) (v : Value) (z : Int) (hz : i64R z) (h : SetV W v (ofL l)) => (show Calls Tryd.prog 65 #[v, .slice (some ⟨W.heap.size, 0, none⟩) 1 1] (W.alloc (.cells #[.int .i64 z] 3)) fun e w' => ∃ r, e = .returned r ∧ SetV w' r (ofL (l ++ [z])) ∧ Below W.heap.size W w' by
    have t := rwithV (h.below (alloc1 W (.cells #[.int .i64 z] 3))) (by have := (ofL_ok l).1; omega) (ofL_ok l).2 _ 1 1 [z] (one_lit12 W z) rfl (by omega) (by intro y hy; simp at hy; subst hy; exact hz)
    rw [ofL_app] at t
    exact t.mono fun e w' ⟨r, h1, h2, h3⟩ => ⟨r, h1, h2, (alloc1 W _).trans (h3.mono (by rw [World.size_alloc]; omega))⟩))
  obtain ⟨Ak, ck, rfl, hck, hmk⟩ := hi.1.open'
  obtain ⟨Ab, cb, rfl, hcb, hmb⟩ := hi.2.1.open'
  obtain ⟨As, cs, rfl, hcs, hms⟩ := hi.2.2.1.open'
  obtain ⟨lk, hlk⟩ : ∃ lk, f.kinds.length = lk := ⟨_, rfl⟩
  have HLK := hide hlk
  have HCL := hide (show closeL f s = ofL (clsN f s lk) by rw [← hlk]; rfl)
  rw [hlk] at HKI hck hk
  rw [hlk]
  obtain ⟨lb, hlb⟩ : ∃ lb, f.base.length = lb := ⟨_, rfl⟩
  have HLB := hide hlb
  rw [hlb] at HBI HST hcb HDR
  rw [hlb]
  obtain ⟨A0, n0, c0', e0⟩ : ∃ A n c, v = .slice A n c := by
    obtain ⟨A, c, e, -⟩ := hv
    exact ⟨A, _, c, e⟩
  subst e0
  clear hi hlk hlb hv hl hw hB hder
  generalize f.blocks.length = ls, f.params = fp, f.result = fr at *
  go_enter Tryd.func53, Tryd.ntmps53
  go_upto_region 1 with (fail)
  obtain ⟨w1, hw1⟩ : ∃ w1, w1 = w.alloc (.cells #[.slice Ak lk ck, .slice Ab lb cb, .int .i64 fp, .int .i64 fr, .slice As ls cs] 30) := ⟨_, rfl⟩
  obtain ⟨h5, hh5⟩ : ∃ h5, w.heap.size = h5 := ⟨_, rfl⟩
  have HX0 := hide (show Box w1 (h5) #[.slice Ak lk ck, .slice Ab lb cb, .int .i64 fp, .int .i64 fr, .slice As ls cs] 30 by rw [hw1, ← hh5]; have t := Box.new w #[.slice Ak lk ck, .slice Ab lb cb, .int .i64 fp, .int .i64 fr, .slice As ls cs] 30; (try simp only [World.size_alloc] at t); exact t)
  have HB1 := hide (show Below w.heap.size w w1 by rw [hw1]; exact ((Below.refl _ _).alloc (Nat.le_refl _) _))
  have w1s := HB1.out.size
  have w1z := hide (show w1.heap.size = h5 + 1 by rw [hw1, ← hh5]; simp only [World.size_alloc])
  have HK0 := hide (fun (W : World) (hW : Below w1.heap.size w1 W) => (And.intro ((HX0.out.below hW).cell 0 (v := .slice Ak lk ck) rfl).1 (And.intro ((HX0.out.below hW).cell 1 (v := .slice Ab lb cb) rfl).1 (And.intro ((HX0.out.below hW).cell 2 (v := .int .i64 fp) rfl).1 (And.intro ((HX0.out.below hW).cell 3 (v := .int .i64 fr) rfl).1 ((HX0.out.below hW).cell 4 (v := .slice As ls cs) rfl).1)))))
  have lHX0 := HX0.out.lt
  have h5g : w.heap.size ≤ h5 := by omega
  rw [← hw1, hh5]
  clear hw1 hh5
  go_wp2
  go_loopw [5, 6] (fun v i wr => ∃ (k : Nat), k ≤ lk ∧ i = .int .i64 k ∧ Hid (SetV wr v (ofL (clsN f s k))) ∧ Below w1.heap.size w1 wr) (fun _ i _ => lk - (intOf i).toNat)
  case atStart => exact ⟨0, Nat.zero_le _, rfl, hide (SetV.nil0 _), Below.refl _ _⟩
  case round =>
    obtain ⟨k, hkl, rfl, HSV, hb⟩ := hrel
    obtain ⟨wo, rfl⟩ : ∃ wo, wo = wr := ⟨_, rfl⟩
    have HC := hide hb
    have HW := hide (HB1.out.trans (hb.mono HB1.out.size))
    have lwo := hb.size
    clear hb
    obtain ⟨c0, c1, c2, c3, c4⟩ := HK0.out wo HC.out
    obtain ⟨Av, cv, hv, -⟩ := HSV.out
    obtain ⟨nv, hnv2⟩ : ∃ n, (ofL (clsN f s k)).length = n := ⟨_, rfl⟩
    rw [hnv2] at hv
    subst hv
    clear hnv2
    by_cases hlt : k < lk
    case neg =>
      obtain rfl : lk = k := by omega
      have hnl : ¬ ((lk : Int) < (lk : Int)) := by omega
      have HNE := hide (rneatV HSV.out (by have := (ofL_ok (clsN f s lk)).1; omega) (ofL_tidy _))
      go_wp2_with (go_at_call 66; refine HNE.out.mono ?_; rintro e w9 ⟨r, rfl, hw9, hb9⟩; have HW9 := hide hw9; have HB9 := hide (HW.out.trans (hb9.mono HW.out.size)); clear hw9 hb9)
      go_ret
      exact ⟨r, rfl, by rw [HCL.out]; exact HW9.out, HB9.out⟩
    have HLT := hide hlt
    obtain ⟨y, hy⟩ : ∃ y, f.kinds[k]? = some y := ⟨_, List.getElem?_eq_getElem (by have := HLK.out; omega)⟩
    have HSK := hide (HST.out k y hy)
    have HDK := hide (fun (h : y = 2) => HDR.out k (by rw [← h]; exact hy))
    obtain ⟨bk, ok, hA, hbk, d00, -⟩ := (HKI.out w (Below.refl _ _)).get hy
    subst hA
    have hbkw : bk < w.heap.size := by have := HBB.out; omega
    have hk0 : (0 : Int) ≤ (k : Int) := by omega
    have hk1 : (k : Int) < (lk : Int) := by omega
    clear hy
    obtain ⟨bh, hbh⟩ : ∃ b, hasB s (k : Int) = b := ⟨_, rfl⟩
    have HHK := hide (HHS.out wo HW.out k (by omega) bh hbh)
    cases bh
    case false =>
      have HS2 := hide (show clsN f s (k + 1) = clsN f s k by rw [HSK.out, if_neg (fun h => by rw [hbh] at h; cases h), List.append_nil])
      clear hbh
      go_wp2_with (go_at_call 18; refine HHK.out.mono ?_; rintro e w2 ⟨rfl, hb2⟩; have HC2 := hide (HC.out.trans (hb2.mono HC.out.size)); have HS2v := hide (HSV.out.below hb2); have l2 := hb2.size; clear hb2)
      go_roundw
      case rel => exact ⟨k + 1, by have := HLT.out; omega, by go_num, by rw [HS2.out]; exact HS2v, HC2.out⟩
      case measure => have := HLT.out; simp [intOf]; omega
    rw [if_pos hbh] at HSK
    clear hbh
    by_cases hd : y = 2
    case neg =>
      have HS2 := hide (show clsN f s (k + 1) = clsN f s k ++ [(k : Int)] by rw [HSK.out, if_neg (fun h => hd h.1)])
      have q : (y == 2) = false := by simpa using hd
      clear hd
      go_wp2_with (first
        | (go_at_call 65; refine (HWI.out (clsN f s k) w2 _ (k : Int) (by unfold i64R; omega) HS2v.out).mono ?_; rintro e w3 ⟨r3, rfl, hv3, hb3⟩; have HS3 := hide hv3; have hc3 := HC2.out.trans (hb3.mono HC2.out.size); have HC3 := hide hc3; obtain ⟨y0, y1, y2, y3, y4⟩ := HK0.out w3 hc3; have d3 := (World.cell?_of_block (a := ⟨bk, ok + k, none⟩) ((HB1.out.trans (hc3.mono HB1.out.size)).block bk hbkw)).trans d00; have l3 := hc3.size; clear hv3 hb3 hc3)
        | (go_at_call 18; refine HHK.out.mono ?_; rintro e w2 ⟨rfl, hb2⟩; have HC2 := hide (HC.out.trans (hb2.mono HC.out.size)); have HS2v := hide (HSV.out.below hb2); have l2 := hb2.size; clear hb2))
      go_roundw
      case rel => exact ⟨k + 1, by have := HLT.out; omega, by go_num, by rw [HS2.out]; exact HS3, HC3.out⟩
      case measure => have := HLT.out; simp [intOf]; omega
    have hklb := HDK.out hd
    obtain ⟨yb, hyb⟩ : ∃ y, f.base[k]? = some y := ⟨_, List.getElem?_eq_getElem (by have := HLB.out; omega)⟩
    have HS2 := hide (show clsN f s (k + 1) = (clsN f s k ++ [(k : Int)]) ++ [yb] by rw [HSK.out, if_pos ⟨hd, hklb⟩, show f.base.getD k 0 = yb by simp [List.getD, hyb]]; simp)
    have HYR := hide (HBR.out yb (List.mem_of_getElem? hyb))
    subst hd
    obtain ⟨bb, ob, hAb, hbb, d10, -⟩ := (HBI.out w (Below.refl _ _)).get hyb
    subst hAb
    have hbbw : bb < w.heap.size := by have := HBB.out; omega
    have hk2 : (k : Int) < (lb : Int) := by omega
    clear hyb
    go_upto_region 8 with (first
      | (go_at_call 65; refine (HWI.out (clsN f s k) w2 _ (k : Int) (by unfold i64R; omega) HS2v.out).mono ?_; rintro e w3 ⟨r3, rfl, hv3, hb3⟩; have HS3 := hide hv3; have hc3 := HC2.out.trans (hb3.mono HC2.out.size); have HC3 := hide hc3; obtain ⟨y0, y1, y2, y3, y4⟩ := HK0.out w3 hc3; have d3 := (World.cell?_of_block (a := ⟨bk, ok + k, none⟩) ((HB1.out.trans (hc3.mono HB1.out.size)).block bk hbkw)).trans d00; have l3 := hc3.size; clear hv3 hb3 hc3)
      | (go_at_call 18; refine HHK.out.mono ?_; rintro e w2 ⟨rfl, hb2⟩; have HC2 := hide (HC.out.trans (hb2.mono HC.out.size)); have HS2v := hide (HSV.out.below hb2); have l2 := hb2.size; clear hb2))
    have d4 := (World.cell?_of_block (a := ⟨bb, ob + k, none⟩) ((HB1.out.trans (HC3.out.mono HB1.out.size)).block bb hbbw)).trans d10
    go_wp2_with (go_at_call 65; refine (HWI.out (clsN f s k ++ [(k : Int)]) w3 _ yb HYR.out HS3.out).mono ?_; rintro e w4 ⟨r4, rfl, hv4, hb4⟩; have HS4 := hide hv4; have HC4 := hide (HC3.out.trans (hb4.mono HC3.out.size)); clear hv4 hb4)
    go_roundw
    case rel => exact ⟨k + 1, by have := HLT.out; omega, by go_num, by rw [HS2.out]; exact HS4, HC4.out⟩
    case measure => have := HLT.out; simp [intOf]; omega
end Go.Proofs.YtbofnlaacjgclaaDoor
