/- Layer 12, the program: a set with its bases, a set's variables of a kind. No condition. -/
import Derived.Test.YtehboglielnjbaaGreatDoorPlJO
set_option linter.unusedSimpArgs false
set_option linter.unusedVariables false
namespace Go.Proofs.YtehboglielnjbaaGreatDoor
open Go.RowKit

/-- The variables of a kind in a set, among the first ones. -/
def ofkN (f : FunV) (s : List Nat) (c : Int) : Nat → List Int
  | 0 => []
  | k + 1 => ofkN f s c k ++ (if f.kinds.getD k 0 = c ∧ hasB s (k : Int) = true then [(k : Int)] else [])
/-- A set's variables, and the bases of its derived ones, among the first ones. -/
def clsN (f : FunV) (s : List Nat) : Nat → List Int
  | 0 => []
  | k + 1 => clsN f s k ++ (if hasB s (k : Int) = true then (k : Int) :: (if f.kinds.getD k 0 = 2 ∧ k < f.base.length then [f.base.getD k 0] else []) else [])
def closeL (f : FunV) (s : List Nat) : List Nat := ofL (clsN f s f.kinds.length)
theorem ofkN_len (f : FunV) (s : List Nat) (c : Int) (k : Nat) : (ofkN f s c k).length ≤ k := by
  induction k with
  | zero => simp [ofkN]
  | succ k ih =>
    unfold ofkN
    rw [List.length_append]
    split <;> simp <;> omega
theorem clsN_len (f : FunV) (s : List Nat) (k : Nat) : (clsN f s k).length ≤ 2 * k := by
  induction k with
  | zero => simp [clsN]
  | succ k ih =>
    unfold clsN
    rw [List.length_append]
    repeat' split
    all_goals simp
    all_goals omega
theorem clsN_R {f : FunV} (h : ∀ z ∈ f.base, i64R z) (s : List Nat) {k : Nat} (hk : k ≤ 1000) : ∀ z ∈ clsN f s k, i64R z := by
  induction k with
  | zero => simp [clsN]
  | succ k ih =>
    intro z hz
    unfold clsN at hz
    rcases List.mem_append.1 hz with hz | hz
    · exact ih (by omega) z hz
    · split at hz
      · rcases List.mem_cons.1 hz with rfl | hz
        · unfold i64R; omega
        · split at hz
          · rename_i h2
            simp at hz
            subst hz
            exact h _ (by rw [List.getElem?_eq_getElem h2.2]; simp)
          · cases hz
      · cases hz
theorem hasV0 {w : World} {v : Value} {s : List Nat} (h : SetV w v s) (hl : s.length ≤ 1000) (hw : W64 s) (m : Nat) (hm : m ≤ 1000000) (b : Bool) (hb : hasB s (m : Int) = b) :
    Calls Tryz.prog 23 #[v, .int .i64 m] w fun e w' => e = .returned (.bool b) ∧ Below w.heap.size w w' := by
  subst hb
  exact (hasV h hl hw (m : Int) (by unfold i64R; omega)).mono fun e w' ⟨h1, q, h2⟩ => ⟨h1, by rw [h2]; exact below_drewN (Below.refl _ _) q⟩
theorem IntsV.all {w : World} {S : Nat → Prop} {v : Value} {xs : List Int} (h : IntsV w S v xs) : ∀ z ∈ xs, i64R z := fun z hz => by
  obtain ⟨A, c, e, -, -⟩ := h.open'
  subst e
  obtain ⟨k, hk⟩ := List.getElem?_of_mem hz
  obtain ⟨b, o, -, -, -, hr⟩ := h.get hk
  exact hr
set_option maxHeartbeats 2000000 in
set_option maxRecDepth 100000 in
theorem ofk_any (vk vb vs : Value) (f : FunV) (v : Value) (s : List Nat) (c : Int) (w : World) (B : Nat) (hB : B ≤ w.heap.size) (hi : FunI w (· < B) vk vb vs f) (hk : f.kinds.length ≤ 1000) (hv : SetV w v s) (hl : s.length ≤ 1000) (hw : W64 s) :
    Calls Tryz.prog 35 #[.agg #[vk, vb, .int .i64 f.params, .int .i64 f.result, vs], v, .int .i64 c] w fun e w' => ∃ r, e = .returned r ∧ Ow w' w.heap.size 3 .i64 r (ofkN f s c f.kinds.length) ∧ Below w.heap.size w w' := by
  have HHS := hide (fun (W : World) (hW : Below w.heap.size w W) (m : Nat) (hm : m ≤ 1000000) (b : Bool) (hb : hasB s (m : Int) = b) => hasV0 (hv.below hW) hl hw m hm b hb)
  have HKI := hide (fun (W : World) (hW : Below w.heap.size w W) => hi.1.keep (up hW hB) (fun _ h => h))
  have HBB := hide hB
  have HST := hide (fun (k : Nat) (y : Int) (hy : f.kinds[k]? = some y) => (show ofkN f s c (k + 1) = ofkN f s c k ++ (if y = c ∧ hasB s (k : Int) = true then [(k : Int)] else []) by
    show _ ++ _ = _
    rw [show f.kinds.getD k 0 = y by simp [List.getD, hy]]))
  have HLN := hide (fun k => ofkN_len f s c k)
  obtain ⟨i0, hi0, iz0, iz1, iz2⟩ := info_parts info_i64
  have HI0 := hide hi0
  obtain ⟨Ak, ck, rfl, hck, hmk⟩ := hi.1.open'
  obtain ⟨Ab, cb, rfl, hcb, hmb⟩ := hi.2.1.open'
  obtain ⟨As, cs, rfl, hcs, hms⟩ := hi.2.2.1.open'
  obtain ⟨lk, hlk⟩ : ∃ lk, f.kinds.length = lk := ⟨_, rfl⟩
  have HLK := hide hlk
  rw [hlk] at HKI hck hk ⊢
  obtain ⟨A0, n0, c0', e0⟩ : ∃ A n c, v = .slice A n c := by
    obtain ⟨A, c, e, -⟩ := hv
    exact ⟨A, _, c, e⟩
  subst e0
  clear hi hlk hi0 hv hl hw hB
  generalize f.base.length = lb, f.blocks.length = ls, f.params = fp, f.result = fr at *
  go_enter Tryz.func35, Tryz.ntmps35
  go_upto_region 1 with (fail)
  obtain ⟨w1, hw1⟩ : ∃ w1, w1 = w.alloc (.cells #[.slice Ak lk ck, .slice Ab lb cb, .int .i64 fp, .int .i64 fr, .slice As ls cs] 32) := ⟨_, rfl⟩
  obtain ⟨h5, hh5⟩ : ∃ h5, w.heap.size = h5 := ⟨_, rfl⟩
  have HX0 := hide (show Box w1 (h5) #[.slice Ak lk ck, .slice Ab lb cb, .int .i64 fp, .int .i64 fr, .slice As ls cs] 32 by rw [hw1, ← hh5]; have t := Box.new w #[.slice Ak lk ck, .slice Ab lb cb, .int .i64 fp, .int .i64 fr, .slice As ls cs] 32; (try simp only [World.size_alloc] at t); exact t)
  have HB1 := hide (show Below w.heap.size w w1 by rw [hw1]; exact ((Below.refl _ _).alloc (Nat.le_refl _) _))
  have w1s := HB1.out.size
  have w1z := hide (show w1.heap.size = h5 + 1 by rw [hw1, ← hh5]; simp only [World.size_alloc])
  have HK0 := hide (fun (W : World) (hW : Below w1.heap.size w1 W) => (And.intro ((HX0.out.below hW).cell 0 (v := .slice Ak lk ck) rfl).1 (And.intro ((HX0.out.below hW).cell 1 (v := .slice Ab lb cb) rfl).1 (And.intro ((HX0.out.below hW).cell 2 (v := .int .i64 fp) rfl).1 (And.intro ((HX0.out.below hW).cell 3 (v := .int .i64 fr) rfl).1 ((HX0.out.below hW).cell 4 (v := .slice As ls cs) rfl).1)))))
  have lHX0 := HX0.out.lt
  have h5g : w.heap.size ≤ h5 := by omega
  rw [← hw1, hh5]
  clear hw1 hh5
  obtain ⟨c0, c1, c2, c3, c4⟩ := HK0.out w1 (Below.refl _ _)
  go_wp2
  clear c0 c1 c2 c3 c4
  go_loopw [7, 13] (fun v i wr => ∃ (k : Nat), k ≤ lk ∧ i = .int .i64 k ∧ Hid (Ow wr w1.heap.size 3 .i64 v (ofkN f s c k)) ∧ Below w1.heap.size w1 wr) (fun _ i _ => lk - (intOf i).toNat)
  case atStart => exact ⟨0, Nat.zero_le _, rfl, hide (Ow.nil _ _ _ _), Below.refl _ _⟩
  case round =>
    obtain ⟨k, hkl, rfl, HOW, hb⟩ := hrel
    obtain ⟨wo, rfl⟩ : ∃ wo, wo = wr := ⟨_, rfl⟩
    have HC := hide hb
    have HW := hide (HB1.out.trans (hb.mono HB1.out.size))
    have lwo := hb.size
    clear hb
    obtain ⟨zs, hzs⟩ : ∃ zs, ofkN f s c k = zs := ⟨_, rfl⟩
    have hnz := HLN.out k
    rw [hzs] at HOW hnz
    have HZS := hide hzs
    obtain ⟨Av, cv, hv, hnv, hcv, -⟩ := HOW.out.sl
    obtain ⟨nv, hnv2⟩ : ∃ n, zs.length = n := ⟨_, rfl⟩
    rw [hnv2] at hv hnv hnz
    subst hv
    have HNV := hide hnv2
    clear hnv2 hzs
    by_cases hlt : k < lk
    case neg =>
      obtain rfl : lk = k := by omega
      have hnl : ¬ ((lk : Int) < (lk : Int)) := by omega
      go_wp2
      go_ret
      exact ⟨_, rfl, by rw [HZS.out]; exact (HOW.out.lower HB1.out.size), HW.out⟩
    have HLT := hide hlt
    obtain ⟨y, hy⟩ : ∃ y, f.kinds[k]? = some y := ⟨_, List.getElem?_eq_getElem (by have := HLK.out; omega)⟩
    have HSK := hide (HST.out k y hy)
    obtain ⟨bk, ok, hA, hbk, d0, -⟩ := (HKI.out wo HW.out).get hy
    subst hA
    have hbs : bk < wo.heap.size := by have := HBB.out; have := HW.out.size; omega
    have hk0 : (0 : Int) ≤ (k : Int) := by omega
    have hk1 : (k : Int) < (lk : Int) := by omega
    clear hy
    by_cases hyc : y = c
    case neg =>
      have q : (y == c) = false := by simpa using hyc
      have HS2 := hide (show ofkN f s c (k + 1) = zs by rw [HSK.out, if_neg (fun h => hyc h.1), List.append_nil, HZS.out])
      clear hyc
      go_wp2
      go_roundw
      case rel => exact ⟨k + 1, by have := HLT.out; omega, by go_num, by rw [HS2.out]; exact HOW, HC.out⟩
      case measure => have := HLT.out; simp [intOf]; omega
    have q : (y == c) = true := by simpa using hyc
    obtain ⟨bh, hbh⟩ : ∃ b, hasB s (k : Int) = b := ⟨_, rfl⟩
    have HHK := hide (HHS.out wo HW.out k (by omega) bh hbh)
    cases bh
    case false =>
      have HS2 := hide (show ofkN f s c (k + 1) = zs by rw [HSK.out, if_neg (fun h => by rw [hbh] at h; cases h.2), List.append_nil, HZS.out])
      clear hyc hbh
      go_wp2_with (go_at_call 23; refine HHK.out.mono ?_; rintro e w2 ⟨rfl, hb2⟩; have HC2 := hide (HC.out.trans (hb2.mono HC.out.size)); have HO2 := hide (HOW.out.belowL hb2); clear hb2)
      go_roundw
      case rel => exact ⟨k + 1, by have := HLT.out; omega, by go_num, by rw [HS2.out]; exact HO2, HC2.out⟩
      case measure => have := HLT.out; simp [intOf]; omega
    have HS2 := hide (show ofkN f s c (k + 1) = zs ++ [(k : Int)] by rw [HSK.out, if_pos ⟨hyc, hbh⟩, HZS.out])
    clear hyc hbh
    go_wp2_with (first
      | (at_builtin; refine wpList_append_one w2 (by rfl) _ _ _ (by rfl) w1.heap.size 3 .i64 i0 _ 8 Tryz.underlying29 HI0.out iz0 iz1 iz2 rfl (by omega) (.slice Av nv cv) zs (by rfl) HO2.out (k : Int) (by rfl) (by have := HNV.out; omega) (by omega) ?_; intro v11 w11 ho11 hb11; have HO11 := hide ho11; have HD11 := hide (HC2.out.trans hb11); clear ho11 hb11)
      | (go_at_call 23; refine HHK.out.mono ?_; rintro e w2 ⟨rfl, hb2⟩; have HC2 := hide (HC.out.trans (hb2.mono HC.out.size)); have HO2 := hide (HOW.out.belowL hb2); have l2 := hb2.size; clear hb2))
    go_roundw
    case rel => exact ⟨k + 1, by have := HLT.out; omega, by go_num, by rw [HS2.out]; exact HO11, HD11.out⟩
    case measure => have := HLT.out; simp [intOf]; omega
set_option maxHeartbeats 1000000 in
set_option maxRecDepth 100000 in
theorem refs_any (vk vb vs : Value) (f : FunV) (v : Value) (s : List Nat) (w : World) (B : Nat) (hB : B ≤ w.heap.size) (hi : FunI w (· < B) vk vb vs f) (hk : f.kinds.length ≤ 1000) (hv : SetV w v s) (hl : s.length ≤ 1000) (hw : W64 s) :
    Calls Tryz.prog 18 #[.agg #[vk, vb, .int .i64 f.params, .int .i64 f.result, vs], v] w fun e w' => ∃ r, e = .returned r ∧ Ow w' w.heap.size 3 .i64 r (ofkN f s 1 f.kinds.length) ∧ Below w.heap.size w w' := by
  have HOK := hide (fun (W : World) (hW : Below w.heap.size w W) => ofk_any vk vb vs f v s 1 W B (by have := hW.size; omega) (hi.keep (up hW hB) (fun _ h => h)) hk (hv.below hW) hl hw)
  obtain ⟨Ak, ck, rfl, hck, hmk⟩ := hi.1.open'
  obtain ⟨Ab, cb, rfl, hcb, hmb⟩ := hi.2.1.open'
  obtain ⟨As, cs, rfl, hcs, hms⟩ := hi.2.2.1.open'
  obtain ⟨A0, n0, c0', e0⟩ : ∃ A n c, v = .slice A n c := by
    obtain ⟨A, c, e, -⟩ := hv
    exact ⟨A, _, c, e⟩
  subst e0
  obtain ⟨zs, hzs⟩ : ∃ zs, ofkN f s 1 f.kinds.length = zs := ⟨_, rfl⟩
  rw [hzs] at HOK ⊢
  clear hi hv hl hw hB hzs
  generalize f.kinds.length = lk, f.base.length = lb, f.blocks.length = ls, f.params = fp, f.result = fr at *
  go_enter Tryz.func18, Tryz.ntmps18
  go_upto_region 1 with (fail)
  obtain ⟨w1, hw1⟩ : ∃ w1, w1 = w.alloc (.cells #[.slice Ak lk ck, .slice Ab lb cb, .int .i64 fp, .int .i64 fr, .slice As ls cs] 32) := ⟨_, rfl⟩
  obtain ⟨h5, hh5⟩ : ∃ h5, w.heap.size = h5 := ⟨_, rfl⟩
  have HX0 := hide (show Box w1 (h5) #[.slice Ak lk ck, .slice Ab lb cb, .int .i64 fp, .int .i64 fr, .slice As ls cs] 32 by rw [hw1, ← hh5]; have t := Box.new w #[.slice Ak lk ck, .slice Ab lb cb, .int .i64 fp, .int .i64 fr, .slice As ls cs] 32; (try simp only [World.size_alloc] at t); exact t)
  have HB1 := hide (show Below w.heap.size w w1 by rw [hw1]; exact ((Below.refl _ _).alloc (Nat.le_refl _) _))
  have w1s := HB1.out.size
  have w1z := hide (show w1.heap.size = h5 + 1 by rw [hw1, ← hh5]; simp only [World.size_alloc])
  have HK0 := hide (fun (W : World) (hW : Below w1.heap.size w1 W) => (And.intro ((HX0.out.below hW).cell 0 (v := .slice Ak lk ck) rfl).1 (And.intro ((HX0.out.below hW).cell 1 (v := .slice Ab lb cb) rfl).1 (And.intro ((HX0.out.below hW).cell 2 (v := .int .i64 fp) rfl).1 (And.intro ((HX0.out.below hW).cell 3 (v := .int .i64 fr) rfl).1 ((HX0.out.below hW).cell 4 (v := .slice As ls cs) rfl).1)))))
  have lHX0 := HX0.out.lt
  have h5g : w.heap.size ≤ h5 := by omega
  rw [← hw1, hh5]
  clear hw1 hh5
  obtain ⟨c0, c1, c2, c3, c4⟩ := HK0.out w1 (Below.refl _ _)
  go_wp2_with (go_at_call 35; (with_reducible refine (HOK.out w1 HB1.out).mono ?_); rintro e w2 ⟨r2, rfl, ho2, hb2⟩; have HO2 := hide (ho2.lower HB1.out.size); have HB2 := hide (HB1.out.trans (hb2.mono HB1.out.size)); clear ho2 hb2)
  go_ret
  exact ⟨r2, rfl, HO2.out, HB2.out⟩
set_option maxHeartbeats 1000000 in
set_option maxRecDepth 100000 in
theorem ders_any (vk vb vs : Value) (f : FunV) (v : Value) (s : List Nat) (w : World) (B : Nat) (hB : B ≤ w.heap.size) (hi : FunI w (· < B) vk vb vs f) (hk : f.kinds.length ≤ 1000) (hv : SetV w v s) (hl : s.length ≤ 1000) (hw : W64 s) :
    Calls Tryz.prog 13 #[.agg #[vk, vb, .int .i64 f.params, .int .i64 f.result, vs], v] w fun e w' => ∃ r, e = .returned r ∧ Ow w' w.heap.size 3 .i64 r (ofkN f s 2 f.kinds.length) ∧ Below w.heap.size w w' := by
  have HOK := hide (fun (W : World) (hW : Below w.heap.size w W) => ofk_any vk vb vs f v s 2 W B (by have := hW.size; omega) (hi.keep (up hW hB) (fun _ h => h)) hk (hv.below hW) hl hw)
  obtain ⟨Ak, ck, rfl, hck, hmk⟩ := hi.1.open'
  obtain ⟨Ab, cb, rfl, hcb, hmb⟩ := hi.2.1.open'
  obtain ⟨As, cs, rfl, hcs, hms⟩ := hi.2.2.1.open'
  obtain ⟨A0, n0, c0', e0⟩ : ∃ A n c, v = .slice A n c := by
    obtain ⟨A, c, e, -⟩ := hv
    exact ⟨A, _, c, e⟩
  subst e0
  obtain ⟨zs, hzs⟩ : ∃ zs, ofkN f s 2 f.kinds.length = zs := ⟨_, rfl⟩
  rw [hzs] at HOK ⊢
  clear hi hv hl hw hB hzs
  generalize f.kinds.length = lk, f.base.length = lb, f.blocks.length = ls, f.params = fp, f.result = fr at *
  go_enter Tryz.func13, Tryz.ntmps13
  go_upto_region 1 with (fail)
  obtain ⟨w1, hw1⟩ : ∃ w1, w1 = w.alloc (.cells #[.slice Ak lk ck, .slice Ab lb cb, .int .i64 fp, .int .i64 fr, .slice As ls cs] 32) := ⟨_, rfl⟩
  obtain ⟨h5, hh5⟩ : ∃ h5, w.heap.size = h5 := ⟨_, rfl⟩
  have HX0 := hide (show Box w1 (h5) #[.slice Ak lk ck, .slice Ab lb cb, .int .i64 fp, .int .i64 fr, .slice As ls cs] 32 by rw [hw1, ← hh5]; have t := Box.new w #[.slice Ak lk ck, .slice Ab lb cb, .int .i64 fp, .int .i64 fr, .slice As ls cs] 32; (try simp only [World.size_alloc] at t); exact t)
  have HB1 := hide (show Below w.heap.size w w1 by rw [hw1]; exact ((Below.refl _ _).alloc (Nat.le_refl _) _))
  have w1s := HB1.out.size
  have w1z := hide (show w1.heap.size = h5 + 1 by rw [hw1, ← hh5]; simp only [World.size_alloc])
  have HK0 := hide (fun (W : World) (hW : Below w1.heap.size w1 W) => (And.intro ((HX0.out.below hW).cell 0 (v := .slice Ak lk ck) rfl).1 (And.intro ((HX0.out.below hW).cell 1 (v := .slice Ab lb cb) rfl).1 (And.intro ((HX0.out.below hW).cell 2 (v := .int .i64 fp) rfl).1 (And.intro ((HX0.out.below hW).cell 3 (v := .int .i64 fr) rfl).1 ((HX0.out.below hW).cell 4 (v := .slice As ls cs) rfl).1)))))
  have lHX0 := HX0.out.lt
  have h5g : w.heap.size ≤ h5 := by omega
  rw [← hw1, hh5]
  clear hw1 hh5
  obtain ⟨c0, c1, c2, c3, c4⟩ := HK0.out w1 (Below.refl _ _)
  go_wp2_with (go_at_call 35; (with_reducible refine (HOK.out w1 HB1.out).mono ?_); rintro e w2 ⟨r2, rfl, ho2, hb2⟩; have HO2 := hide (ho2.lower HB1.out.size); have HB2 := hide (HB1.out.trans (hb2.mono HB1.out.size)); clear ho2 hb2)
  go_ret
  exact ⟨r2, rfl, HO2.out, HB2.out⟩
end Go.Proofs.YtehboglielnjbaaGreatDoor
