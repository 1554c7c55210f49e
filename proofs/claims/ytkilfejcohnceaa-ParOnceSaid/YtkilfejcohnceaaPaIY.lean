/- The statement ParPlays, walked: it answers true. No condition. -/
import Derived.Test.YtkilfejcohnceaaPaIT
set_option linter.unusedSimpArgs false
set_option linter.unusedVariables false
namespace Go.Proofs.Ytkilfejcohnceaa
open Go.RowKit

theorem info_int16 : (Try.prog.info? 3).map (fun i => (i.zero, i.size, i.bytes)) = some (some (.int .i64 0), 1, 8) := by kernel_rfl
def plZ (ls : List LcV) (x : LcV) : Int := if idxL ls x < ls.length then ((idxL ls x : Nat) : Int) else -1
theorem idx_out {ls : List LcV} {x : LcV} (h : ∀ i, i < ls.length → lcAt ls i ≠ x) : ¬ idxL ls x < ls.length := fun hi => h _ hi (idx_at17 hi)
theorem idx_first {ls : List LcV} {k : Nat} (hk : k < ls.length) (h : ∀ i, i < k → lcAt ls i ≠ lcAt ls k) : idxL ls (lcAt ls k) = k := by
  have h1 := idx_le17 hk
  rcases Nat.lt_or_ge (idxL ls (lcAt ls k)) k with h2 | h2
  · exact absurd (idx_at17 (Nat.lt_trans h2 hk)) (h _ h2)
  · omega
def toldP (n k : Nat) (has : List Int) : List Int := (List.range n).map (fun i => if i < k then has.getD i 0 else 0)
theorem toldP_at {n k j : Nat} {has : List Int} (hj : j < n) : (toldP n k has)[j]? = some (if j < k then has.getD j 0 else 0) := by
  unfold toldP
  rw [List.getElem?_map, List.getElem?_range hj]
  rfl
theorem toldP_zero (n : Nat) (has : List Int) : toldP n 0 has = List.replicate n 0 := by
  refine List.ext_getElem? fun j => ?_
  unfold toldP
  rw [List.getElem?_map, List.getElem?_replicate]
  by_cases hj : j < n
  · rw [List.getElem?_range hj, if_pos hj]; simp
  · rw [if_neg hj, List.getElem?_eq_none (by simp; omega)]; rfl
theorem toldP_step {n k : Nat} {has : List Int} {y : Int} (hk : k < n) (hy : has[k]? = some y) : (toldP n k has).set k y = toldP n (k + 1) has := by
  refine List.ext_getElem? fun j => ?_
  rw [List.getElem?_set]
  by_cases hj : j < n
  · by_cases e : k = j
    · subst e
      rw [if_pos rfl, if_pos (by simp [toldP]; exact hj), toldP_at hj, if_pos (by omega), List.getD_eq_getElem?_getD, hy]
      rfl
    · rw [if_neg e, toldP_at hj, toldP_at hj]
      by_cases h2 : j < k
      · rw [if_pos h2, if_pos (by omega)]
      · rw [if_neg h2, if_neg (by omega)]
  · rw [List.getElem?_eq_none (l := toldP n (k + 1) has) (by simp [toldP]; omega)]
    split
    · rw [if_neg (by simp [toldP]; omega)]
    · rw [List.getElem?_eq_none (by simp [toldP]; omega)]
theorem toldP_end {n k : Nat} {has : List Int} (h : k = n ∨ has.length ≤ k) : toldP n k has = toldL n has := by
  unfold toldP toldL
  refine List.map_congr_left fun i hi => ?_
  have hi := List.mem_range.1 hi
  by_cases e : i < k
  · rw [if_pos e]
  · rw [if_neg e, List.getD_eq_getElem?_getD, List.getElem?_eq_none (by omega)]
    rfl
def toldK (ats : List LcV) (tl : List Int) (T : LcV → Int) : List Int := (List.range ats.length).map (fun i => if idxL ats (lcAt ats i) = i then T (lcAt ats i) else tl.getD i 0)
theorem toldK_at {ats : List LcV} {tl : List Int} {T : LcV → Int} {x : LcV} (h : idxL ats x < ats.length) : (toldK ats tl T)[idxL ats x]? = some (T x) := by
  unfold toldK
  rw [List.getElem?_map, List.getElem?_range h, Option.map_some, idx_at17 h, if_pos rfl]
theorem toldK_start {ats : List LcV} {tl : List Int} (hl : tl.length = ats.length) : toldK ats tl (st0 ats tl) = tl := by
  refine List.ext_getElem? fun j => ?_
  unfold toldK
  rw [List.getElem?_map]
  by_cases hj : j < ats.length
  · rw [List.getElem?_range hj, Option.map_some]
    have e : tl[j]? = some (tl.getD j 0) := by rw [List.getD_eq_getElem?_getD, List.getElem?_eq_getElem (by omega : j < tl.length)]; rfl
    rw [e]
    by_cases e2 : idxL ats (lcAt ats j) = j
    · rw [if_pos e2]
      unfold st0
      rw [e2, if_pos hj]
    · rw [if_neg e2]
  · rw [List.getElem?_eq_none (by simp; omega), List.getElem?_eq_none (by omega)]
    rfl
theorem toldK_set {ats : List LcV} {tl : List Int} {T : LcV → Int} {x : LcV} {v : Int} (h : idxL ats x < ats.length) : (toldK ats tl T).set (idxL ats x) v = toldK ats tl (updL T x v) := by
  refine List.ext_getElem? fun j => ?_
  rw [List.getElem?_set]
  by_cases hj : j < ats.length
  · by_cases e : idxL ats x = j
    · rw [if_pos e, if_pos (by simp [toldK]; omega), ← e, toldK_at h]
      unfold updL
      rw [if_pos rfl]
    · rw [if_neg e]
      unfold toldK
      rw [List.getElem?_map, List.getElem?_map, List.getElem?_range hj, Option.map_some, Option.map_some]
      by_cases e2 : idxL ats (lcAt ats j) = j
      · rw [if_pos e2, if_pos e2]
        unfold updL
        rw [if_neg (fun e3 => e (by rw [← e3]; exact e2))]
      · rw [if_neg e2, if_neg e2]
  · rw [List.getElem?_eq_none (l := toldK ats tl (updL T x v)) (by simp [toldK]; omega)]
    split
    · rw [if_neg (by simp [toldK]; omega)]
    · rw [List.getElem?_eq_none (by simp [toldK]; omega)]
theorem toldK_out {ats : List LcV} {tl : List Int} {T : LcV → Int} {x : LcV} {v : Int} (h : ¬ idxL ats x < ats.length) : toldK ats tl (updL T x v) = toldK ats tl T := by
  unfold toldK
  refine List.map_congr_left fun i hi => ?_
  have hi := List.mem_range.1 hi
  by_cases e2 : idxL ats (lcAt ats i) = i
  · rw [if_pos e2, if_pos e2]
    unfold updL
    rw [if_neg (fun e3 => h (by rw [← e3, e2]; exact hi))]
  · rw [if_neg e2, if_neg e2]
/-- What has no place, by the further lists. -/
def MoreK (ats more : List LcV) (wi : List Int) (T : LcV → Int) : Prop := wi.length = more.length ∧ ∀ x, ¬ idxL ats x < ats.length → T x = if idxL more x < more.length then wi.getD (idxL more x) 0 else 0
theorem MoreK.start {ats : List LcV} {tl : List Int} : MoreK ats [] [] (st0 ats tl) := ⟨rfl, fun x hx => by unfold st0; rw [if_neg hx]; rfl⟩
theorem MoreK.at' {ats more : List LcV} {wi : List Int} {T : LcV → Int} (h : MoreK ats more wi T) {x : LcV} (hx : ¬ idxL ats x < ats.length) (hm : idxL more x < more.length) : wi[idxL more x]? = some (T x) := by
  rw [h.2 x hx, if_pos hm, List.getD_eq_getElem?_getD, List.getElem?_eq_getElem (by rw [h.1]; exact hm)]
  rfl
theorem MoreK.no {ats more : List LcV} {wi : List Int} {T : LcV → Int} (h : MoreK ats more wi T) {x : LcV} (hx : ¬ idxL ats x < ats.length) (hm : ¬ idxL more x < more.length) : T x = 0 := by
  rw [h.2 x hx, if_neg hm]
theorem MoreK.inn {ats more : List LcV} {wi : List Int} {T : LcV → Int} (h : MoreK ats more wi T) {x : LcV} (hx : idxL ats x < ats.length) (v : Int) : MoreK ats more wi (updL T x v) := ⟨h.1, fun y hy => by
  unfold updL
  rw [if_neg (fun e => hy (by rw [e]; exact hx))]
  exact h.2 y hy⟩
theorem MoreK.set {ats more : List LcV} {wi : List Int} {T : LcV → Int} (h : MoreK ats more wi T) {x : LcV} (hm : idxL more x < more.length) (v : Int) : MoreK ats more (wi.set (idxL more x) v) (updL T x v) := ⟨by rw [List.length_set]; exact h.1, fun y hy => by
  unfold updL
  by_cases e : y = x
  · subst e
    rw [if_pos rfl, if_pos hm, List.getD_eq_getElem?_getD, List.getElem?_set, if_pos rfl, if_pos (by rw [h.1]; exact hm)]
    rfl
  · rw [if_neg e, h.2 y hy]
    by_cases h2 : idxL more y < more.length
    · rw [if_pos h2, if_pos h2, List.getD_eq_getElem?_getD, List.getD_eq_getElem?_getD, List.getElem?_set, if_neg (fun e2 => e (by rw [← idx_at17 h2, ← e2, idx_at17 hm]))]
    · rw [if_neg h2, if_neg h2]⟩
theorem idx_app17 {ls : List LcV} {x y : LcV} (hx : ¬ idxL ls x < ls.length) : idxL (ls ++ [x]) y = if idxL ls y < ls.length then idxL ls y else if y = x then ls.length else ls.length + 1 := by
  unfold idxL
  rw [List.findIdx_append]
  by_cases h : ls.findIdx (fun z => decide (z = y)) < ls.length
  · rw [if_pos h, if_pos h]
  · rw [if_neg h, if_neg h, List.findIdx_cons]
    by_cases e : y = x
    · subst e; simp
    · rw [if_neg e]
      simp [Ne.symm e]
      omega
theorem MoreK.app {ats more : List LcV} {wi : List Int} {T : LcV → Int} (h : MoreK ats more wi T) {x : LcV} (hx : ¬ idxL more x < more.length) (v : Int) : MoreK ats (more ++ [x]) (wi ++ [v]) (updL T x v) := ⟨by simp [h.1], fun y hy => by
  rw [idx_app17 hx]
  unfold updL
  by_cases e : y = x
  · subst e
    rw [if_pos rfl, if_neg hx, if_pos rfl, if_pos (by simp), List.getD_eq_getElem?_getD, List.getElem?_append_right (by rw [h.1]; exact Nat.le_refl _), h.1, Nat.sub_self]
    rfl
  · rw [if_neg e, h.2 y hy]
    by_cases h2 : idxL more y < more.length
    · rw [if_pos h2, if_pos h2, if_pos (by simp; omega), List.getD_eq_getElem?_getD, List.getD_eq_getElem?_getD, List.getElem?_append_left (by rw [h.1]; exact h2)]
    · rw [if_neg h2, if_neg h2, if_neg e, if_neg (by simp)]⟩
theorem toldK_play {ats : List LcV} {l : List MvV} {has : List Int} : toldK ats (toldL ats.length has) (seqE l (st0 ats (toldL ats.length has))) = playL l ats has := rfl
set_option maxHeartbeats 2000000 in
set_option maxRecDepth 100000 in
theorem iplace_any (v : Value) (ls : List LcV) (sp : LcV) (w : World) (hl : LcsV w (· < w.heap.size) v ls) (hm : ls.length ≤ 1000) :
    Calls Try.prog 28 #[v, lcA sp] w fun e w' => e = .returned (.int .i64 (plZ ls sp)) ∧ Below w.heap.size w w' := by
  obtain ⟨A, c, rfl, hc, hcm⟩ := hl.open'
  obtain ⟨n, hn⟩ := letl ls.length
  rw [hn] at hl hc hm ⊢
  have HL := hide hl
  have HN := hide hn
  obtain ⟨sk, sn⟩ := sp
  unfold lcA
  clear hl hn
  go_enter Try.func28, Try.ntmps28
  go_upto_region 1 with (fail)
  obtain ⟨w1, hw1⟩ := letr (w.alloc (.cells #[.int .i64 sk, .int .i64 sn] 24))
  obtain ⟨hs, hhs⟩ := letl w.heap.size
  have HXS := lBox hw1 hhs
  have HB1 := lBel hw1
  rw [← hw1, hhs]
  clear hw1 hhs
  go_upto_region 2 with (fail)
  go_loopw [5] (fun z wr => ∃ k : Nat, k ≤ n ∧ z = .int .i64 (k : Int) ∧ Below w1.heap.size w1 wr ∧ Hid (∀ i, i < k → lcAt ls i ≠ ⟨sk, sn⟩)) (fun z _ => n - (intOf z).toNat)
  case atStart => exact ⟨0, Nat.zero_le _, rfl, Below.refl _ _, hide (fun i hi => absurd hi (by omega))⟩
  case round =>
    obtain ⟨k, hk, rfl, hb, HNO⟩ := hrel
    obtain ⟨wo, rfl⟩ : ∃ wo, wo = wr := ⟨_, rfl⟩
    have HB := hide hb
    clear hb
    have HBW := hide (HB1.out.trans (HB.out.mono HB1.out.size))
    by_cases hlt : k < n
    case neg =>
      obtain rfl : n = k := by omega
      have hnn : ¬ ((n : Int) < (n : Int)) := by omega
      have HE := hide (show plZ ls ⟨sk, sn⟩ = -1 from by unfold plZ; rw [if_neg (idx_out (fun i hi => HNO.out i (by have := HN.out; omega)))])
      go_wp2
      go_ret
      exact ⟨by rw [HE.out]; rfl, HBW.out⟩
    obtain ⟨y, hy⟩ : ∃ y, ls[k]? = some y := ⟨_, List.getElem?_eq_getElem (by have := HN.out; omega)⟩
    obtain ⟨b, o, hA, -⟩ := HL.out.get hy
    subst hA
    obtain ⟨d1, d2, lb⟩ := HL.out.at' HBW.out hy
    have x0 := ((HXS.out.belowB HB.out HXS.out.lt).cell 0 (v := .int .i64 sk) rfl).1
    have x1 := ((HXS.out.belowB HB.out HXS.out.lt).cell 1 (v := .int .i64 sn) rfl).1
    have lx := (HXS.out.belowB HB.out HXS.out.lt).lt
    have HLT := hide hlt
    have e1 := lc_cases y ⟨sk, sn⟩
    have hj0 : (0 : Int) ≤ (k : Int) := by omega
    have hj1 : (k : Int) < (n : Int) := by omega
    have HNX := hide (fun (h : y ≠ ⟨sk, sn⟩) => (show ∀ i, i < k + 1 → lcAt ls i ≠ ⟨sk, sn⟩ from fun i hi => by
      by_cases e : i = k
      · subst e
        rw [lcAt_of hy]
        exact h
      · exact HNO.out i (by omega)))
    have HYS := hide (fun (h : y = ⟨sk, sn⟩) => (show plZ ls ⟨sk, sn⟩ = (k : Int) from by
      have hkl : k < ls.length := by have := HN.out; omega
      have e : idxL ls ⟨sk, sn⟩ = k := by
        have t := idx_first hkl (by rw [lcAt_of hy, h]; exact HNO.out)
        rwa [lcAt_of hy, h] at t
      unfold plZ
      rw [e, if_pos hkl]))
    obtain ⟨yk, yn⟩ := y
    simp only at d1 d2 e1
    clear hy
    rcases e1 with e1 | e1
    · have HE := hide (HYS.out e1)
      injection e1 with e1 e2
      subst e1
      subst e2
      go_wp2
      go_quiet (fail)
      go_wp2
      go_ret
      exact ⟨by rw [HE.out]; rfl, below_drewN HBW.out _⟩
    · have HE := hide (HNX.out (fun e => by injection e with e2 e3; rcases e1 with h | h <;> simp_all))
      rcases e1 with e1 | ⟨e0, e1⟩
      all_goals
        try subst e0
        go_wp2
        go_quiet (fail)
        go_wp2
        go_roundw
        case rel => exact ⟨k + 1, by have := HLT.out; omega, by go_num, below_drewN HB.out _, HE⟩
        case measure => have := HLT.out; simp [intOf]; omega
def zC (z : Int) : List Value := [.int .i64 z]
theorem info_loc17 : (Try.prog.info? 24).map (fun i => (i.zero, i.size, i.bytes)) = some (some (.agg #[.int .i64 0, .int .i64 0]), 2, 16) := by kernel_rfl
theorem lcs_own17 {w : World} {base : Nat} {v : Value} {l : List LcV} (h : OwC lcC 24 2 w base v l) (hr : ∀ x ∈ l, lcR x) : LcsV w (· < w.heap.size) v l :=
  h.vec (fun _ _ => rfl) rfl (fun b hb => (h.lt b hb).2) fun b o j x y hx hy hc => by
    rw [hx] at hy
    injection hy with hy
    subst hy
    have c0 := hc 0 (.int .i64 x.k) (by simp [lcC])
    have c1 := hc 1 (.int .i64 x.n) (by simp [lcC])
    exact ⟨⟨by simpa using c0, c1⟩, hr x (List.mem_of_getElem? hx)⟩
/-- The reference's Play under way. -/
structure PlR (w : World) (base gt k : Nat) (ats : List LcV) (tl : List Int) (vm vw : Value) (T : LcV → Int) (more : List LcV) (wi : List Int) (W : World) : Prop where
  out : Box W gt (intsA (toldK ats tl T)) 3
  om : OwC lcC 24 2 W base vm more
  ow : OwC zC 3 1 W base vw wi
  sem : MoreK ats more wi T
  mr : ∀ x ∈ more, lcR x
  bnd : more.length ≤ k
  bl : Below w.heap.size w W
theorem PlR.below {w : World} {base gt k : Nat} {ats : List LcV} {tl : List Int} {vm vw : Value} {T : LcV → Int} {more : List LcV} {wi : List Int} {W W' : World} (h : PlR w base gt k ats tl vm vw T more wi W) (hb : Below W.heap.size W W') : PlR w base gt k ats tl vm vw T more wi W' :=
  ⟨h.out.below hb, h.om.below hb, h.ow.below hb, h.sem, h.mr, h.bnd, h.bl.trans (hb.mono h.bl.size)⟩
theorem PlR.setO {w : World} {base gt k : Nat} {ats : List LcV} {tl : List Int} {vm vw : Value} {T : LcV → Int} {more : List LcV} {wi : List Int} {W : World} (h : PlR w base gt k ats tl vm vw T more wi W) (hg : w.heap.size ≤ gt ∧ gt < base) {x : LcV} (hx : idxL ats x < ats.length) (v : Int) : PlR w base gt (k + 1) ats tl vm vw (updL T x v) more wi (W.setCell ⟨gt, idxL ats x, none⟩ (.int .i64 v)) :=
  ⟨by rw [← toldK_set hx]; exact h.out.itSet _ _, h.om.kept fun g hg' => heap_setCell_other _ _ _ _ (show g ≠ gt from fun e => by have := (h.om.lt g hg').1; omega), h.ow.kept fun g hg' => heap_setCell_other _ _ _ _ (show g ≠ gt from fun e => by have := (h.ow.lt g hg').1; omega), h.sem.inn hx v, h.mr, by have := h.bnd; omega, h.bl.setCell (p := ⟨gt, idxL ats x, none⟩) hg.1 _⟩
theorem PlR.setW {w : World} {base gt k gw nw cw : Nat} {ats : List LcV} {tl : List Int} {vm : Value} {T : LcV → Int} {more : List LcV} {wi : List Int} {W : World} (h : PlR w base gt k ats tl vm (.slice (some ⟨gw, 0, none⟩) nw cw) T more wi W) (hg : w.heap.size ≤ gt ∧ gt < base) {x : LcV} (hx : ¬ idxL ats x < ats.length) (hm : idxL more x < more.length) (hn : wi.length = nw) (v : Int) : PlR w base gt (k + 1) ats tl vm (.slice (some ⟨gw, 0, none⟩) nw cw) (updL T x v) more (wi.set (idxL more x) v) (W.setCell ⟨gw, idxL more x, none⟩ (.int .i64 v)) := by
  have hgw := h.ow.lt gw rfl
  refine ⟨?_, h.om.kept fun g hg' => heap_setCell_other _ _ _ _ (show g ≠ gw from fun e => h.om.apart (h.ow.row gw rfl) (by decide) (by rw [hg', e])), ?_, h.sem.set hm v, h.mr, by have := h.bnd; omega, h.bl.setCell (p := ⟨gw, idxL more x, none⟩) (by show w.heap.size ≤ gw; omega) _⟩
  · rw [toldK_out hx]
    exact h.out.other (by omega)
  · have t := h.ow.putE hn (fun _ => rfl) (i := 0) (y' := v) (u := .int .i64 v) (h.sem.at' hx hm) (by omega) rfl
    rw [Nat.mul_one, Nat.add_zero] at t
    exact t
theorem PlR.ow9 {w : World} {base gt k : Nat} {ats : List LcV} {tl : List Int} {vm vw : Value} {T : LcV → Int} {more : List LcV} {wi : List Int} {W8 W9 : World} (h : PlR w base gt k ats tl vm vw T more wi W8) (hg5 : W8.grownBy W9 vm.ownBlock) : OwC zC 3 1 W9 base vw wi :=
  h.ow.kept fun g hg => hg5.block g (h.ow.lt g hg).2 (fun e => h.om.apart (h.ow.row g hg) (by decide) e.symm)
theorem PlR.app {w : World} {base gt k n5 g5 k5 : Nat} {ats : List LcV} {tl : List Int} {vm vw vw' : Value} {T : LcV → Int} {more : List LcV} {wi : List Int} {v : Int} {W8 W9 W10 W11 : World} (h : PlR w base gt k ats tl vm vw T more wi W8) (hg : w.heap.size ≤ gt ∧ gt < base) {x : LcV} (ho : ¬ idxL ats x < ats.length) (hm : ¬ idxL more x < more.length) (hx : lcR x) (ho5 : OwC lcC 24 2 W9 base (.slice (some ⟨g5, 0, none⟩) n5 k5) (more ++ [x])) (hg5 : W8.grownBy W9 vm.ownBlock) (h10 : Below W9.heap.size W9 W10) (ho6 : OwC zC 3 1 W11 base vw' (wi ++ [v])) (hg6 : W10.grownBy W11 vw.ownBlock) :
    PlR w base gt (k + 1) ats tl (.slice (some ⟨g5, 0, none⟩) n5 k5) vw' (updL T x v) (more ++ [x]) (wi ++ [v]) W11 := by
  have ow10 := (h.ow9 hg5).below h10
  have b9 : Below w.heap.size w W9 := h.bl.grown hg5 h.bl.size (fun b hb => by have := (h.om.lt b hb).1; omega)
  have b10 := b9.trans (h10.mono b9.size)
  have o9 : Box W9 gt (intsA (toldK ats tl T)) 3 := (hg5.block gt h.out.lt (fun e => by have := (h.om.lt gt e.symm).1; omega)).trans h.out
  have o10 := o9.below h10
  refine ⟨?_, (ho5.below h10).kept fun g hg' => hg6.block g ((ho5.below h10).lt g hg').2 (fun e => (ho5.below h10).apart (ow10.row g e.symm) (by decide) hg'), ho6, h.sem.app hm v, fun y hy => ?_, by have := h.bnd; rw [List.length_append, List.length_singleton]; omega, b10.grown hg6 b10.size (fun b hb => by have := (ow10.lt b hb).1; omega)⟩
  · rw [toldK_out ho]
    exact (hg6.block gt o10.lt (fun e => by have := (ow10.lt gt e.symm).1; omega)).trans o10
  · rcases List.mem_append.1 hy with hy | hy
    · exact h.mr y hy
    · rw [List.mem_singleton] at hy
      subst hy
      exact hx
set_option maxHeartbeats 8000000 in
set_option maxRecDepth 100000 in
theorem irplay_any (v va vh : Value) (l : List MvV) (ats : List LcV) (has : List Int) (w : World) (hl : MvsV w (· < w.heap.size) v l) (ha : LcsV w (· < w.heap.size) va ats) (hh : IntsV w (· < w.heap.size) vh has) (hml : l.length ≤ 1000) (hma : ats.length ≤ 1000) (hmh : has.length ≤ 1000) :
    Calls Try.prog 16 #[v, va, vh] w fun e w' => ∃ g, e = .returned (.slice (some ⟨g, 0, none⟩) ats.length ats.length) ∧ Box w' g (intsA (playL l ats has)) 3 ∧ w.heap.size ≤ g ∧ Below w.heap.size w w' := by
  have HL := hide hl
  have HH := hide hh
  have HLR := hide hl.range
  have HAL := hide (fun (W : World) (hW : Below w.heap.size w W) (x : LcV) => iplace_any va ats x W (ha.up hW) hma)
  unfold lcA at HAL
  obtain ⟨A, c, rfl, hc, hcm⟩ := hl.open'
  obtain ⟨Aa, ca, rfl, hca, hcam⟩ := ha.open'
  obtain ⟨Ah, ch, rfl, hch, hchm⟩ := hh.open'
  obtain ⟨nl, hnl⟩ := letl l.length
  obtain ⟨n, hn⟩ := letl ats.length
  obtain ⟨nh, hnh⟩ := letl has.length
  rw [hnl] at hc hml HL ⊢
  rw [hn] at hca hma HAL ⊢
  rw [hnh] at hch hmh HH ⊢
  have HNL := hide hnl
  have HN := hide hn
  have HNH := hide hnh
  obtain ⟨i0, hi0, iz0, iz1, iz2⟩ := info_parts info_loc17
  have HI := hide hi0
  obtain ⟨j0, hj0, jz0, jz1, jz2⟩ := info_parts info_int16
  have HJ := hide hj0
  have hmk := fun (W : World) => mkz_run 33 3 Try.underlying33 info_int16 (by omega) n hma W
  have hmc : madeCells #[Value.int .i64 0] n = intsA (List.replicate n 0) := by
    have t := madeCells_int16 n
    rw [Nat.mul_one] at t
    exact t
  simp only [Nat.mul_one, hmc, show Value.cells (.int .i64 0) = #[.int .i64 0] from rfl] at hmk
  clear hl ha hh hnl hn hnh hi0 hj0 hmc
  go_enter Try.func16, Try.ntmps16
  go_upto_region 2 with (fail)
  obtain ⟨w2, hw2⟩ := letr (w.alloc (.cells (intsA (List.replicate n 0)) 3))
  obtain ⟨gt, hgt⟩ := letl w.heap.size
  have HX2 := lBox hw2 hgt
  have HB2 := lBel hw2
  have HGT := hide (show w.heap.size ≤ gt ∧ gt < w2.heap.size from ⟨by omega, by have := HX2.out.lt; exact this⟩)
  rw [← hw2, hgt]
  clear hw2 hgt hmk
  rw [← toldP_zero n has] at HX2
  go_upto_region 3 with (fail)
  go_loopw [8] (fun z wr => ∃ k : Nat, k ≤ n ∧ z = .int .i64 (k : Int) ∧ Hid (Box wr gt (intsA (toldP n k has)) 3) ∧ Below w.heap.size w wr ∧ w2.heap.size ≤ wr.heap.size) (fun z _ => n - (intOf z).toNat)
  case atStart => exact ⟨0, Nat.zero_le _, rfl, HX2, HB2.out, Nat.le_refl _⟩
  case round =>
    obtain ⟨k, hk, rfl, HX, hb, hsz⟩ := hrel
    obtain ⟨wo, rfl⟩ : ∃ wo, wo = wr := ⟨_, rfl⟩
    have HB := hide hb
    have HSZ := hide hsz
    clear hb hsz
    by_cases hend : k < n ∧ k < nh
    case neg =>
      have HE := hide (show toldP n k has = toldL n has from toldP_end (by have := HNH.out; omega))
      rw [HE.out] at HX
      clear HE
      have hcs : (k < n ∧ ¬ k < nh) ∨ ¬ k < n := by omega
      obtain ⟨w3, rfl⟩ : ∃ w3, w3 = wo := ⟨_, rfl⟩
      rcases hcs with ⟨h1, h2⟩ | h1
      focus
        have h2' : ¬ ((k : Int) < (nh : Int)) := by omega
        have h1' : (k : Int) < (n : Int) := by omega
        go_upto_region 9 with (fail)
      rotate_left
      focus
        have h1' : ¬ ((k : Int) < (n : Int)) := by omega
        go_upto_region 9 with (fail)
      all_goals
        obtain ⟨tl, htl⟩ := letl (toldL n has)
        have HTL := hide htl
        rw [htl] at HX
        have HST := hide (show PlR w w2.heap.size gt 0 ats tl (.slice none 0 0) (.slice none 0 0) (seqE (l.take 0) (st0 ats tl)) [] [] w3 from ⟨by show Box w3 gt (intsA (toldK ats tl (st0 ats tl))) 3; rw [toldK_start (by rw [← htl, HN.out]; simp [toldL])]; exact HX.out, OwC.nil _ _, OwC.nil _ _, MoreK.start, fun x hx => (by cases hx), Nat.le_refl _, HB.out⟩)
        clear htl HX
        go_loopw [9, 10, 11] (fun vm vw z wr => ∃ (k : Nat) (more : List LcV) (wi : List Int), k ≤ nl ∧ z = .int .i64 (k : Int) ∧ Hid (PlR w w2.heap.size gt k ats tl vm vw (seqE (l.take k) (st0 ats tl)) more wi wr) ∧ Hid (w2.heap.size ≤ wr.heap.size)) (fun _ _ z _ => nl - (intOf z).toNat)
        case atStart => exact ⟨0, [], [], Nat.zero_le _, rfl, HST, HSZ⟩
        case round =>
          obtain ⟨k, more, wi, hk, rfl, HP, HSW⟩ := hrel
          obtain ⟨wo, rfl⟩ : ∃ wo, wo = wr := ⟨_, rfl⟩
          clear HST HSZ
          obtain ⟨Am, cm, hvm, hcm1, hcm2⟩ := HP.out.om.sl
          obtain ⟨Aw, cw, hvw, hcw1, hcw2⟩ := HP.out.ow.sl
          rw [HP.out.sem.1] at hvw hcw1
          subst hvm
          subst hvw
          by_cases hlt : k < nl
          case neg =>
            obtain rfl : nl = k := by omega
            have hnn : ¬ ((nl : Int) < (nl : Int)) := by omega
            have HE := hide (show toldK ats tl (seqE (l.take nl) (st0 ats tl)) = playL l ats has from by
              rw [List.take_of_length_le (Nat.le_of_eq HNL.out), ← HTL.out]
              have t := toldK_play (ats := ats) (l := l) (has := has)
              rw [HN.out] at t
              exact t)
            go_wp2
            go_ret
            exact ⟨gt, rfl, by rw [← HE.out]; exact HP.out.out, HGT.out.1, HP.out.bl⟩
          obtain ⟨y, hy⟩ : ∃ y, l[k]? = some y := ⟨_, List.getElem?_eq_getElem (by have := HNL.out; omega)⟩
          obtain ⟨b, o, hA, -⟩ := HL.out.get hy
          subst hA
          have HLC := hide (fun (W : World) (hW : Below wo.heap.size wo W) => HL.out.at' (HP.out.bl.trans (hW.mono HP.out.bl.size)) hy)
          have HSQ := hide (seqE_snoc hy (st0 ats tl))
          have HYR := hide (HLR.out y (List.mem_of_getElem? hy))
          obtain ⟨T, hT⟩ := letl (seqE (l.take k) (st0 ats tl))
          rw [hT] at HP HSQ
          have HMB := hide (show more.length ≤ 1000 from by have := HP.out.bnd; omega)
          have HPA := hide (fun (W : World) (hW : Below wo.heap.size wo W) (x : LcV) => HAL.out W (HP.out.bl.trans (hW.mono HP.out.bl.size)) x)
          have HPM := hide (fun (W : World) (hW : Below wo.heap.size wo W) (x : LcV) => iplace_any (.slice Am more.length cm) more x W (lcs_own17 (HP.out.om.below hW) HP.out.mr) HMB.out)
          unfold lcA at HPM
          obtain ⟨nm, hnm⟩ := letl more.length
          rw [hnm] at HP HPM HMB hcm1 hcw1 ⊢
          have HNM := hide hnm
          obtain ⟨⟨tk, tn⟩, ⟨fk, fn⟩⟩ := y
          simp only at HLC HSQ HYR
          have hk0 : (0 : Int) ≤ (k : Int) := by omega
          have hk1 : (k : Int) < (nl : Int) := by omega
          have HKL := hide hlt
          have HCW := hide (And.intro hcw1 hcw2)
          have HCM := hide (And.intro hcm1 hcm2)
          have hnm9 : nm ≤ 1000 := HMB.out
          obtain ⟨vT, hvT⟩ := letl (T ⟨fk, fn⟩)
          rw [hvT] at HSQ
          have HVT := hide hvT
          clear hy hT hnm hvT hcw1 hcw2 hcm1 hcm2
          obtain ⟨d1, d2, d3, d4, lb⟩ := HLC.out wo (Below.refl _ _)
          have Bwo := hide (Below.refl wo.heap.size wo)
          by_cases hf : idxL ats ⟨fk, fn⟩ < n
          · obtain ⟨i, hi⟩ := letl (idxL ats ⟨fk, fn⟩)
            have HPF := hide (show plZ ats ⟨fk, fn⟩ = (i : Int) from by unfold plZ; rw [HN.out, if_pos hf, hi])
            go_upto_region 13 with (go_at_call 28; (with_reducible refine (HPA.out wo Bwo.out ⟨fk, fn⟩).mono ?_); rintro e wv ⟨rfl, hb⟩; rw [HPF.out]; have Bwv := hide (Bwo.out.trans (hb.mono Bwo.out.size)); clear hb d1 d2 d3 d4 lb; obtain ⟨d1, d2, d3, d4, lb⟩ := HLC.out wv Bwv.out)
            obtain ⟨x1, -⟩ := (HP.out.below Bwv.out).out.it (toldK_at (x := ⟨fk, fn⟩) (by rw [HN.out]; exact hf))
            rw [HVT.out, hi] at x1
            have lg := (HP.out.below Bwv.out).out.lt
            rw [hi] at hf
            have i0' : (0 : Int) ≤ (i : Int) := by omega
            have i1' : (i : Int) < (n : Int) := by omega
            go_upto_region 17 with (fail)
            clear hi x1 lg i0' i1' hf HPF
            by_cases ht : idxL ats ⟨tk, tn⟩ < n
            · obtain ⟨i2, hi2⟩ := letl (idxL ats ⟨tk, tn⟩)
              have HPT := hide (show plZ ats ⟨tk, tn⟩ = (i2 : Int) from by unfold plZ; rw [HN.out, if_pos ht, hi2])
              go_upto_region 18 with (go_at_call 28; (with_reducible refine (HPA.out wv Bwv.out ⟨tk, tn⟩).mono ?_); rintro e wt ⟨rfl, hb⟩; rw [HPT.out]; have Bwt := hide (Bwv.out.trans (hb.mono Bwv.out.size)); clear hb d1 d2 d3 d4 lb; obtain ⟨d1, d2, d3, d4, lb⟩ := HLC.out wt Bwt.out)
              have HPX := hide (HP.out.below Bwt.out)
              obtain ⟨x1, f1⟩ := HPX.out.out.it (toldK_at (x := ⟨tk, tn⟩) (by rw [HN.out]; exact ht))
              have lg := HPX.out.out.lt
              have HNX := hide (HPX.out.setO HGT.out (x := ⟨tk, tn⟩) (by rw [HN.out]; exact ht) vT)
              rw [hi2] at x1 f1 HNX ht
              have i0' : (0 : Int) ≤ (i2 : Int) := by omega
              have i1' : (i2 : Int) < (n : Int) := by omega
              clear hi2 d1 d2 d3 d4 lb
              go_wp2
              go_roundw
              case rel => exact ⟨k + 1, more, wi, by have := HKL.out; omega, by go_num, hide (by rw [HSQ.out]; exact HNX.out), hide (by rw [World.size_setCell]; exact Nat.le_trans HSW.out Bwt.out.size)⟩
              case measure => have := HKL.out; simp [intOf]; omega
            · have HPT := hide (show plZ ats ⟨tk, tn⟩ = -1 from by unfold plZ; rw [HN.out, if_neg ht])
              go_upto_region 18 with (go_at_call 28; (with_reducible refine (HPA.out wv Bwv.out ⟨tk, tn⟩).mono ?_); rintro e wt ⟨rfl, hb⟩; rw [HPT.out]; have Bwt := hide (Bwv.out.trans (hb.mono Bwv.out.size)); clear hb d1 d2 d3 d4 lb; obtain ⟨d1, d2, d3, d4, lb⟩ := HLC.out wt Bwt.out)
              by_cases hm2 : idxL more ⟨tk, tn⟩ < nm
              · obtain ⟨j2, hj2⟩ := letl (idxL more ⟨tk, tn⟩)
                have HPU := hide (show plZ more ⟨tk, tn⟩ = (j2 : Int) from by unfold plZ; rw [HNM.out, if_pos hm2, hj2])
                go_upto_region 21 with (go_at_call 28; (with_reducible refine (HPM.out wt Bwt.out ⟨tk, tn⟩).mono ?_); rintro e wu ⟨rfl, hb⟩; rw [HPU.out]; have Bwu := hide (Bwt.out.trans (hb.mono Bwt.out.size)); clear hb d1 d2 d3 d4 lb; obtain ⟨d1, d2, d3, d4, lb⟩ := HLC.out wu Bwu.out)
                obtain ⟨gw, cw', hvw, hgw1, hgw2, -, -, -⟩ := HP.out.ow.blk (by rw [HP.out.sem.1, HNM.out]; omega)
                rw [HP.out.sem.1, HNM.out] at hvw
                injection hvw with e1 _ e3
                subst e1
                subst e3
                have hat := HP.out.sem.at' (x := ⟨tk, tn⟩) (by rw [HN.out]; exact ht) (by rw [HNM.out]; exact hm2)
                have HNX := hide (fun (W : World) (hW : Below wo.heap.size wo W) => (HP.out.below hW).setW HGT.out (x := ⟨tk, tn⟩) (by rw [HN.out]; exact ht) (by rw [HNM.out]; exact hm2) (by rw [HP.out.sem.1, HNM.out]) vT)
                rw [hj2] at hat HNX hm2
                have HWC := hide (fun (W : World) (hW : Below wo.heap.size wo W) => (show (W.cell? ⟨gw, j2, none⟩ = some (.int .i64 (T ⟨tk, tn⟩)) ∧ W.frozen? ⟨gw, j2, none⟩ = false) ∧ gw < W.heap.size from by
                  have t := (HP.out.ow.below hW).at' (by rw [HP.out.sem.1, HNM.out]) (fun _ => rfl) (i := 0) hat (by omega)
                  rw [Nat.mul_one, Nat.add_zero] at t
                  exact ⟨t, Nat.lt_of_lt_of_le hgw2 hW.size⟩))
                have i0' : (0 : Int) ≤ (j2 : Int) := by omega
                have i1' : (j2 : Int) < (nm : Int) := by omega
                clear hj2 hat
                go_wp2_with (go_at_call 28; (with_reducible refine (HPM.out wu Bwu.out ⟨tk, tn⟩).mono ?_); rintro e wz ⟨rfl, hb⟩; rw [HPU.out]; have Bwz := hide (Bwu.out.trans (hb.mono Bwu.out.size)); clear hb d1 d2 d3 d4 lb; obtain ⟨d1, d2, d3, d4, lb⟩ := HLC.out wz Bwz.out; obtain ⟨⟨x1, f1⟩, lg⟩ := HWC.out wz Bwz.out)
                go_roundw
                case rel => exact ⟨k + 1, more, wi.set j2 vT, by have := HKL.out; omega, by go_num, hide (by rw [HSQ.out]; exact HNX.out wz Bwz.out), hide (by rw [World.size_setCell]; exact Nat.le_trans HSW.out Bwz.out.size)⟩
                case measure => have := HKL.out; simp [intOf]; omega
              · have HPU := hide (show plZ more ⟨tk, tn⟩ = -1 from by unfold plZ; rw [HNM.out, if_neg hm2])
                go_upto_region 22 with (go_at_call 28; (with_reducible refine (HPM.out wt Bwt.out ⟨tk, tn⟩).mono ?_); rintro e wu ⟨rfl, hb⟩; rw [HPU.out]; have Bwu := hide (Bwt.out.trans (hb.mono Bwt.out.size)); clear hb d1 d2 d3 d4 lb; obtain ⟨d1, d2, d3, d4, lb⟩ := HLC.out wu Bwu.out)
                have HPX := hide (HP.out.below Bwu.out)
                have HAPP := hide (fun (g5 k5 : Nat) (W8 W9 W10 W11 : World) (vw' : Value) (hb8 : Below wo.heap.size wo W8) (ho5 : OwC lcC 24 2 W9 w2.heap.size (.slice (some ⟨g5, 0, none⟩) (nm + 1) k5) (more ++ [(⟨tk, tn⟩ : LcV)])) (hg5 : W8.grownBy W9 (Value.slice Am nm cm).ownBlock) (h10 : Below W9.heap.size W9 W10) (ho6 : OwC zC 3 1 W11 w2.heap.size vw' (wi ++ [vT])) (hg6 : W10.grownBy W11 (Value.slice Aw nm cw).ownBlock) => (HP.out.below hb8).app HGT.out (x := ⟨tk, tn⟩) (by rw [HN.out]; exact ht) (by rw [HNM.out]; exact hm2) HYR.out.1 ho5 hg5 h10 ho6 hg6)
                have HOW9 := hide (fun (W8 W9 : World) (hb8 : Below wo.heap.size wo W8) (hg5 : W8.grownBy W9 (Value.slice Am nm cm).ownBlock) => (HP.out.below hb8).ow9 hg5)
                have HOM8 := hide (fun (W8 : World) (hb8 : Below wo.heap.size wo W8) => (HP.out.below hb8).om)
                have HWI := hide (show wi.length = nm from by rw [HP.out.sem.1, HNM.out])
                obtain ⟨Hb, hHb⟩ := letl wu.heap.size
                obtain ⟨w8, hw8⟩ := letr (wu.alloc (.cells #[.int .i64 tk, .int .i64 tn] 24))
                have BXb := lBox hw8 hHb
                have Bw8 := hide (Bwu.out.trans ((lBel hw8).out.mono Bwu.out.size))
                have HW8 := hide (And.intro hw8 hHb)
                clear hw8 hHb
                go_wp2_with (first
                  | (at_builtin; obtain ⟨Hc, hHc⟩ := letl w9.heap.size; obtain ⟨w10, hw10⟩ := letr (w9.alloc (.cells #[.int .i64 vT] 3)); have BXc := lBox hw10 hHc; have B10 := lBel hw10; rw [← hw10, hHc]; clear hw10 hHc; refine wpList_append_c (c := zC) (sz := 1) w10 (by rfl) _ _ _ (by rfl) w2.heap.size j0 _ 8 Try.underlying33 HJ.out jz0 jz1 jz2 rfl (by omega) (by omega) (.slice Aw nm cw) wi nm HWI.out (by rfl) ((HOW9.out w8 w9 Bw8.out HG5.out).below B10.out) vT rfl (fun u hu => by simp only [zC, List.mem_singleton] at hu; subst hu; rfl) Hc _ BXc.out rfl (by rfl) (by omega) (by have := HSW.out; have := Bw8.out.size; have := HG5.out.size; have := B10.out.size; omega) ?_; intro g6 k6 w11 ho6 hg6 hv6 hl6; have HO6 := hide ho6; have HG6 := hide hg6; clear ho6 hg6 hv6 hl6)
                  | (at_builtin; rw [← HW8.out.1, HW8.out.2]; refine wpList_append_c (c := lcC) (sz := 2) w8 (by rfl) _ _ _ (by rfl) w2.heap.size i0 _ 16 Try.underlying32 HI.out iz0 iz1 iz2 rfl (by omega) (by omega) (.slice Am nm cm) more nm HNM.out (by rfl) (HOM8.out w8 Bw8.out) ⟨tk, tn⟩ rfl (fun u hu => by simp only [lcC, List.mem_cons, List.mem_nil_iff, or_false] at hu; rcases hu with rfl | rfl <;> rfl) Hb _ BXb.out rfl (by rfl) (by omega) (by have := HSW.out; have := Bw8.out.size; omega) ?_; intro g5 k5 w9 ho5 hg5 hv5 hl5; have HO5 := hide ho5; have HG5 := hide hg5; clear ho5 hg5 hv5 hl5))
                go_roundw
                case rel => exact ⟨k + 1, more ++ [⟨tk, tn⟩], wi ++ [vT], by have := HKL.out; omega, by go_num, hide (by rw [HSQ.out]; exact HAPP.out g5 k5 w8 w9 w10 w11 _ Bw8.out HO5.out HG5.out B10.out HO6.out HG6.out), hide (by have := HSW.out; have := Bw8.out.size; have := HG5.out.size; have := B10.out.size; have := HG6.out.size; omega)⟩
                case measure => have := HKL.out; simp [intOf]; omega
          · have HPF := hide (show plZ ats ⟨fk, fn⟩ = -1 from by unfold plZ; rw [HN.out, if_neg hf])
            go_upto_region 13 with (go_at_call 28; (with_reducible refine (HPA.out wo Bwo.out ⟨fk, fn⟩).mono ?_); rintro e w7 ⟨rfl, hb⟩; rw [HPF.out]; have Bw7 := hide (Bwo.out.trans (hb.mono Bwo.out.size)); clear hb d1 d2 d3 d4 lb; obtain ⟨d1, d2, d3, d4, lb⟩ := HLC.out w7 Bw7.out)
            by_cases hm : idxL more ⟨fk, fn⟩ < nm
            · obtain ⟨j, hj⟩ := letl (idxL more ⟨fk, fn⟩)
              have HPG := hide (show plZ more ⟨fk, fn⟩ = (j : Int) from by unfold plZ; rw [HNM.out, if_pos hm, hj])
              go_upto_region 16 with (go_at_call 28; (with_reducible refine (HPM.out w7 Bw7.out ⟨fk, fn⟩).mono ?_); rintro e w8 ⟨rfl, hb⟩; rw [HPG.out]; have Bw8 := hide (Bw7.out.trans (hb.mono Bw7.out.size)); clear hb d1 d2 d3 d4 lb; obtain ⟨d1, d2, d3, d4, lb⟩ := HLC.out w8 Bw8.out)
              have hat := HP.out.sem.at' (x := ⟨fk, fn⟩) (by rw [HN.out]; exact hf) (by rw [HNM.out]; exact hm)
              rw [hj, HVT.out] at hat
              rw [hj] at hm
              have HWC := hide (fun (W : World) (hW : Below wo.heap.size wo W) => (show ∃ gw, Aw = some ⟨gw, 0, none⟩ ∧ W.cell? ⟨gw, j, none⟩ = some (.int .i64 vT) ∧ gw < W.heap.size from by
                obtain ⟨gw, cw', hvw, hgw1, hgw2, -, -, -⟩ := HP.out.ow.blk (by rw [HP.out.sem.1, HNM.out]; omega)
                rw [HP.out.sem.1, HNM.out] at hvw
                injection hvw with e1 _ e3
                subst e1
                subst e3
                have t := (HP.out.ow.below hW).at' (by rw [HP.out.sem.1, HNM.out]) (fun _ => rfl) (i := 0) hat (by omega)
                rw [Nat.mul_one, Nat.add_zero] at t
                exact ⟨gw, rfl, t.1, Nat.lt_of_lt_of_le hgw2 hW.size⟩))
              obtain ⟨gw, hAw, -⟩ := HWC.out wo (Below.refl _ _)
              subst hAw
              have i0' : (0 : Int) ≤ (j : Int) := by omega
              have i1' : (j : Int) < (nm : Int) := by omega
              clear hj hat
              go_upto_region 17 with (go_at_call 28; (with_reducible refine (HPM.out w8 Bw8.out ⟨fk, fn⟩).mono ?_); rintro e wv ⟨rfl, hb⟩; rw [HPG.out]; have Bwv := hide (Bw8.out.trans (hb.mono Bw8.out.size)); clear hb d1 d2 d3 d4 lb; obtain ⟨d1, d2, d3, d4, lb⟩ := HLC.out wv Bwv.out; obtain ⟨gw', hgw', x1, lg⟩ := HWC.out wv Bwv.out; injection hgw' with hgw'; injection hgw' with hgw' _ _; subst hgw')
              clear x1 lg i0' i1' hm HPG HPF HWC
              by_cases ht : idxL ats ⟨tk, tn⟩ < n
              · obtain ⟨i2, hi2⟩ := letl (idxL ats ⟨tk, tn⟩)
                have HPT := hide (show plZ ats ⟨tk, tn⟩ = (i2 : Int) from by unfold plZ; rw [HN.out, if_pos ht, hi2])
                go_upto_region 18 with (go_at_call 28; (with_reducible refine (HPA.out wv Bwv.out ⟨tk, tn⟩).mono ?_); rintro e wt ⟨rfl, hb⟩; rw [HPT.out]; have Bwt := hide (Bwv.out.trans (hb.mono Bwv.out.size)); clear hb d1 d2 d3 d4 lb; obtain ⟨d1, d2, d3, d4, lb⟩ := HLC.out wt Bwt.out)
                have HPX := hide (HP.out.below Bwt.out)
                obtain ⟨x1, f1⟩ := HPX.out.out.it (toldK_at (x := ⟨tk, tn⟩) (by rw [HN.out]; exact ht))
                have lg := HPX.out.out.lt
                have HNX := hide (HPX.out.setO HGT.out (x := ⟨tk, tn⟩) (by rw [HN.out]; exact ht) vT)
                rw [hi2] at x1 f1 HNX ht
                have i0' : (0 : Int) ≤ (i2 : Int) := by omega
                have i1' : (i2 : Int) < (n : Int) := by omega
                clear hi2 d1 d2 d3 d4 lb
                go_wp2
                go_roundw
                case rel => exact ⟨k + 1, more, wi, by have := HKL.out; omega, by go_num, hide (by rw [HSQ.out]; exact HNX.out), hide (by rw [World.size_setCell]; exact Nat.le_trans HSW.out Bwt.out.size)⟩
                case measure => have := HKL.out; simp [intOf]; omega
              · have HPT := hide (show plZ ats ⟨tk, tn⟩ = -1 from by unfold plZ; rw [HN.out, if_neg ht])
                go_upto_region 18 with (go_at_call 28; (with_reducible refine (HPA.out wv Bwv.out ⟨tk, tn⟩).mono ?_); rintro e wt ⟨rfl, hb⟩; rw [HPT.out]; have Bwt := hide (Bwv.out.trans (hb.mono Bwv.out.size)); clear hb d1 d2 d3 d4 lb; obtain ⟨d1, d2, d3, d4, lb⟩ := HLC.out wt Bwt.out)
                by_cases hm2 : idxL more ⟨tk, tn⟩ < nm
                · obtain ⟨j2, hj2⟩ := letl (idxL more ⟨tk, tn⟩)
                  have HPU := hide (show plZ more ⟨tk, tn⟩ = (j2 : Int) from by unfold plZ; rw [HNM.out, if_pos hm2, hj2])
                  go_upto_region 21 with (go_at_call 28; (with_reducible refine (HPM.out wt Bwt.out ⟨tk, tn⟩).mono ?_); rintro e wu ⟨rfl, hb⟩; rw [HPU.out]; have Bwu := hide (Bwt.out.trans (hb.mono Bwt.out.size)); clear hb d1 d2 d3 d4 lb; obtain ⟨d1, d2, d3, d4, lb⟩ := HLC.out wu Bwu.out)
                  have hgw2 := (HP.out.ow.lt gw rfl).2
                  have hat := HP.out.sem.at' (x := ⟨tk, tn⟩) (by rw [HN.out]; exact ht) (by rw [HNM.out]; exact hm2)
                  have HNX := hide (fun (W : World) (hW : Below wo.heap.size wo W) => (HP.out.below hW).setW HGT.out (x := ⟨tk, tn⟩) (by rw [HN.out]; exact ht) (by rw [HNM.out]; exact hm2) (by rw [HP.out.sem.1, HNM.out]) vT)
                  rw [hj2] at hat HNX hm2
                  have HWC := hide (fun (W : World) (hW : Below wo.heap.size wo W) => (show (W.cell? ⟨gw, j2, none⟩ = some (.int .i64 (T ⟨tk, tn⟩)) ∧ W.frozen? ⟨gw, j2, none⟩ = false) ∧ gw < W.heap.size from by
                    have t := (HP.out.ow.below hW).at' (by rw [HP.out.sem.1, HNM.out]) (fun _ => rfl) (i := 0) hat (by omega)
                    rw [Nat.mul_one, Nat.add_zero] at t
                    exact ⟨t, Nat.lt_of_lt_of_le hgw2 hW.size⟩))
                  have i0' : (0 : Int) ≤ (j2 : Int) := by omega
                  have i1' : (j2 : Int) < (nm : Int) := by omega
                  clear hj2 hat
                  go_wp2_with (go_at_call 28; (with_reducible refine (HPM.out wu Bwu.out ⟨tk, tn⟩).mono ?_); rintro e wz ⟨rfl, hb⟩; rw [HPU.out]; have Bwz := hide (Bwu.out.trans (hb.mono Bwu.out.size)); clear hb d1 d2 d3 d4 lb; obtain ⟨d1, d2, d3, d4, lb⟩ := HLC.out wz Bwz.out; obtain ⟨⟨x1, f1⟩, lg⟩ := HWC.out wz Bwz.out)
                  go_roundw
                  case rel => exact ⟨k + 1, more, wi.set j2 vT, by have := HKL.out; omega, by go_num, hide (by rw [HSQ.out]; exact HNX.out wz Bwz.out), hide (by rw [World.size_setCell]; exact Nat.le_trans HSW.out Bwz.out.size)⟩
                  case measure => have := HKL.out; simp [intOf]; omega
                · have HPU := hide (show plZ more ⟨tk, tn⟩ = -1 from by unfold plZ; rw [HNM.out, if_neg hm2])
                  go_upto_region 22 with (go_at_call 28; (with_reducible refine (HPM.out wt Bwt.out ⟨tk, tn⟩).mono ?_); rintro e wu ⟨rfl, hb⟩; rw [HPU.out]; have Bwu := hide (Bwt.out.trans (hb.mono Bwt.out.size)); clear hb d1 d2 d3 d4 lb; obtain ⟨d1, d2, d3, d4, lb⟩ := HLC.out wu Bwu.out)
                  have HPX := hide (HP.out.below Bwu.out)
                  have HAPP := hide (fun (g5 k5 : Nat) (W8 W9 W10 W11 : World) (vw' : Value) (hb8 : Below wo.heap.size wo W8) (ho5 : OwC lcC 24 2 W9 w2.heap.size (.slice (some ⟨g5, 0, none⟩) (nm + 1) k5) (more ++ [(⟨tk, tn⟩ : LcV)])) (hg5 : W8.grownBy W9 (Value.slice Am nm cm).ownBlock) (h10 : Below W9.heap.size W9 W10) (ho6 : OwC zC 3 1 W11 w2.heap.size vw' (wi ++ [vT])) (hg6 : W10.grownBy W11 (Value.slice (some ⟨gw, 0, none⟩) nm cw).ownBlock) => (HP.out.below hb8).app HGT.out (x := ⟨tk, tn⟩) (by rw [HN.out]; exact ht) (by rw [HNM.out]; exact hm2) HYR.out.1 ho5 hg5 h10 ho6 hg6)
                  have HOW9 := hide (fun (W8 W9 : World) (hb8 : Below wo.heap.size wo W8) (hg5 : W8.grownBy W9 (Value.slice Am nm cm).ownBlock) => (HP.out.below hb8).ow9 hg5)
                  have HOM8 := hide (fun (W8 : World) (hb8 : Below wo.heap.size wo W8) => (HP.out.below hb8).om)
                  have HWI := hide (show wi.length = nm from by rw [HP.out.sem.1, HNM.out])
                  obtain ⟨Hb, hHb⟩ := letl wu.heap.size
                  obtain ⟨w8, hw8⟩ := letr (wu.alloc (.cells #[.int .i64 tk, .int .i64 tn] 24))
                  have BXb := lBox hw8 hHb
                  have Bw8 := hide (Bwu.out.trans ((lBel hw8).out.mono Bwu.out.size))
                  have HW8 := hide (And.intro hw8 hHb)
                  clear hw8 hHb
                  go_wp2_with (first
                    | (at_builtin; obtain ⟨Hc, hHc⟩ := letl w9.heap.size; obtain ⟨w10, hw10⟩ := letr (w9.alloc (.cells #[.int .i64 vT] 3)); have BXc := lBox hw10 hHc; have B10 := lBel hw10; rw [← hw10, hHc]; clear hw10 hHc; refine wpList_append_c (c := zC) (sz := 1) w10 (by rfl) _ _ _ (by rfl) w2.heap.size j0 _ 8 Try.underlying33 HJ.out jz0 jz1 jz2 rfl (by omega) (by omega) (.slice (some ⟨gw, 0, none⟩) nm cw) wi nm HWI.out (by rfl) ((HOW9.out w8 w9 Bw8.out HG5.out).below B10.out) vT rfl (fun u hu => by simp only [zC, List.mem_singleton] at hu; subst hu; rfl) Hc _ BXc.out rfl (by rfl) (by omega) (by have := HSW.out; have := Bw8.out.size; have := HG5.out.size; have := B10.out.size; omega) ?_; intro g6 k6 w11 ho6 hg6 hv6 hl6; have HO6 := hide ho6; have HG6 := hide hg6; clear ho6 hg6 hv6 hl6)
                    | (at_builtin; rw [← HW8.out.1, HW8.out.2]; refine wpList_append_c (c := lcC) (sz := 2) w8 (by rfl) _ _ _ (by rfl) w2.heap.size i0 _ 16 Try.underlying32 HI.out iz0 iz1 iz2 rfl (by omega) (by omega) (.slice Am nm cm) more nm HNM.out (by rfl) (HOM8.out w8 Bw8.out) ⟨tk, tn⟩ rfl (fun u hu => by simp only [lcC, List.mem_cons, List.mem_nil_iff, or_false] at hu; rcases hu with rfl | rfl <;> rfl) Hb _ BXb.out rfl (by rfl) (by omega) (by have := HSW.out; have := Bw8.out.size; omega) ?_; intro g5 k5 w9 ho5 hg5 hv5 hl5; have HO5 := hide ho5; have HG5 := hide hg5; clear ho5 hg5 hv5 hl5))
                  go_roundw
                  case rel => exact ⟨k + 1, more ++ [⟨tk, tn⟩], wi ++ [vT], by have := HKL.out; omega, by go_num, hide (by rw [HSQ.out]; exact HAPP.out g5 k5 w8 w9 w10 w11 _ Bw8.out HO5.out HG5.out B10.out HO6.out HG6.out), hide (by have := HSW.out; have := Bw8.out.size; have := HG5.out.size; have := B10.out.size; have := HG6.out.size; omega)⟩
                  case measure => have := HKL.out; simp [intOf]; omega
            · have HPG := hide (show plZ more ⟨fk, fn⟩ = -1 from by unfold plZ; rw [HNM.out, if_neg hm])
              have hv0 : vT = 0 := by rw [← HVT.out]; exact HP.out.sem.no (by rw [HN.out]; exact hf) (by rw [HNM.out]; exact hm)
              subst hv0
              go_upto_region 17 with (go_at_call 28; (with_reducible refine (HPM.out w7 Bw7.out ⟨fk, fn⟩).mono ?_); rintro e wv ⟨rfl, hb⟩; rw [HPG.out]; have Bwv := hide (Bw7.out.trans (hb.mono Bw7.out.size)); clear hb d1 d2 d3 d4 lb; obtain ⟨d1, d2, d3, d4, lb⟩ := HLC.out wv Bwv.out)
              clear HPG HPF
              by_cases ht : idxL ats ⟨tk, tn⟩ < n
              · obtain ⟨i2, hi2⟩ := letl (idxL ats ⟨tk, tn⟩)
                have HPT := hide (show plZ ats ⟨tk, tn⟩ = (i2 : Int) from by unfold plZ; rw [HN.out, if_pos ht, hi2])
                go_upto_region 18 with (go_at_call 28; (with_reducible refine (HPA.out wv Bwv.out ⟨tk, tn⟩).mono ?_); rintro e wt ⟨rfl, hb⟩; rw [HPT.out]; have Bwt := hide (Bwv.out.trans (hb.mono Bwv.out.size)); clear hb d1 d2 d3 d4 lb; obtain ⟨d1, d2, d3, d4, lb⟩ := HLC.out wt Bwt.out)
                have HPX := hide (HP.out.below Bwt.out)
                obtain ⟨x1, f1⟩ := HPX.out.out.it (toldK_at (x := ⟨tk, tn⟩) (by rw [HN.out]; exact ht))
                have lg := HPX.out.out.lt
                have HNX := hide (HPX.out.setO HGT.out (x := ⟨tk, tn⟩) (by rw [HN.out]; exact ht) 0)
                rw [hi2] at x1 f1 HNX ht
                have i0' : (0 : Int) ≤ (i2 : Int) := by omega
                have i1' : (i2 : Int) < (n : Int) := by omega
                clear hi2 d1 d2 d3 d4 lb
                go_wp2
                go_roundw
                case rel => exact ⟨k + 1, more, wi, by have := HKL.out; omega, by go_num, hide (by rw [HSQ.out]; exact HNX.out), hide (by rw [World.size_setCell]; exact Nat.le_trans HSW.out Bwt.out.size)⟩
                case measure => have := HKL.out; simp [intOf]; omega
              · have HPT := hide (show plZ ats ⟨tk, tn⟩ = -1 from by unfold plZ; rw [HN.out, if_neg ht])
                go_upto_region 18 with (go_at_call 28; (with_reducible refine (HPA.out wv Bwv.out ⟨tk, tn⟩).mono ?_); rintro e wt ⟨rfl, hb⟩; rw [HPT.out]; have Bwt := hide (Bwv.out.trans (hb.mono Bwv.out.size)); clear hb d1 d2 d3 d4 lb; obtain ⟨d1, d2, d3, d4, lb⟩ := HLC.out wt Bwt.out)
                by_cases hm2 : idxL more ⟨tk, tn⟩ < nm
                · obtain ⟨j2, hj2⟩ := letl (idxL more ⟨tk, tn⟩)
                  have HPU := hide (show plZ more ⟨tk, tn⟩ = (j2 : Int) from by unfold plZ; rw [HNM.out, if_pos hm2, hj2])
                  go_upto_region 21 with (go_at_call 28; (with_reducible refine (HPM.out wt Bwt.out ⟨tk, tn⟩).mono ?_); rintro e wu ⟨rfl, hb⟩; rw [HPU.out]; have Bwu := hide (Bwt.out.trans (hb.mono Bwt.out.size)); clear hb d1 d2 d3 d4 lb; obtain ⟨d1, d2, d3, d4, lb⟩ := HLC.out wu Bwu.out)
                  obtain ⟨gw, cw', hvw, hgw1, hgw2, -, -, -⟩ := HP.out.ow.blk (by rw [HP.out.sem.1, HNM.out]; omega)
                  rw [HP.out.sem.1, HNM.out] at hvw
                  injection hvw with e1 _ e3
                  subst e1
                  subst e3
                  have hat := HP.out.sem.at' (x := ⟨tk, tn⟩) (by rw [HN.out]; exact ht) (by rw [HNM.out]; exact hm2)
                  have HNX := hide (fun (W : World) (hW : Below wo.heap.size wo W) => (HP.out.below hW).setW HGT.out (x := ⟨tk, tn⟩) (by rw [HN.out]; exact ht) (by rw [HNM.out]; exact hm2) (by rw [HP.out.sem.1, HNM.out]) 0)
                  rw [hj2] at hat HNX hm2
                  have HWC := hide (fun (W : World) (hW : Below wo.heap.size wo W) => (show (W.cell? ⟨gw, j2, none⟩ = some (.int .i64 (T ⟨tk, tn⟩)) ∧ W.frozen? ⟨gw, j2, none⟩ = false) ∧ gw < W.heap.size from by
                    have t := (HP.out.ow.below hW).at' (by rw [HP.out.sem.1, HNM.out]) (fun _ => rfl) (i := 0) hat (by omega)
                    rw [Nat.mul_one, Nat.add_zero] at t
                    exact ⟨t, Nat.lt_of_lt_of_le hgw2 hW.size⟩))
                  have i0' : (0 : Int) ≤ (j2 : Int) := by omega
                  have i1' : (j2 : Int) < (nm : Int) := by omega
                  clear hj2 hat
                  go_wp2_with (go_at_call 28; (with_reducible refine (HPM.out wu Bwu.out ⟨tk, tn⟩).mono ?_); rintro e wz ⟨rfl, hb⟩; rw [HPU.out]; have Bwz := hide (Bwu.out.trans (hb.mono Bwu.out.size)); clear hb d1 d2 d3 d4 lb; obtain ⟨d1, d2, d3, d4, lb⟩ := HLC.out wz Bwz.out; obtain ⟨⟨x1, f1⟩, lg⟩ := HWC.out wz Bwz.out)
                  go_roundw
                  case rel => exact ⟨k + 1, more, wi.set j2 0, by have := HKL.out; omega, by go_num, hide (by rw [HSQ.out]; exact HNX.out wz Bwz.out), hide (by rw [World.size_setCell]; exact Nat.le_trans HSW.out Bwz.out.size)⟩
                  case measure => have := HKL.out; simp [intOf]; omega
                · have HPU := hide (show plZ more ⟨tk, tn⟩ = -1 from by unfold plZ; rw [HNM.out, if_neg hm2])
                  go_upto_region 22 with (go_at_call 28; (with_reducible refine (HPM.out wt Bwt.out ⟨tk, tn⟩).mono ?_); rintro e wu ⟨rfl, hb⟩; rw [HPU.out]; have Bwu := hide (Bwt.out.trans (hb.mono Bwt.out.size)); clear hb d1 d2 d3 d4 lb; obtain ⟨d1, d2, d3, d4, lb⟩ := HLC.out wu Bwu.out)
                  have HPX := hide (HP.out.below Bwu.out)
                  have HAPP := hide (fun (g5 k5 : Nat) (W8 W9 W10 W11 : World) (vw' : Value) (hb8 : Below wo.heap.size wo W8) (ho5 : OwC lcC 24 2 W9 w2.heap.size (.slice (some ⟨g5, 0, none⟩) (nm + 1) k5) (more ++ [(⟨tk, tn⟩ : LcV)])) (hg5 : W8.grownBy W9 (Value.slice Am nm cm).ownBlock) (h10 : Below W9.heap.size W9 W10) (ho6 : OwC zC 3 1 W11 w2.heap.size vw' (wi ++ [0])) (hg6 : W10.grownBy W11 (Value.slice Aw nm cw).ownBlock) => (HP.out.below hb8).app HGT.out (x := ⟨tk, tn⟩) (by rw [HN.out]; exact ht) (by rw [HNM.out]; exact hm2) HYR.out.1 ho5 hg5 h10 ho6 hg6)
                  have HOW9 := hide (fun (W8 W9 : World) (hb8 : Below wo.heap.size wo W8) (hg5 : W8.grownBy W9 (Value.slice Am nm cm).ownBlock) => (HP.out.below hb8).ow9 hg5)
                  have HOM8 := hide (fun (W8 : World) (hb8 : Below wo.heap.size wo W8) => (HP.out.below hb8).om)
                  have HWI := hide (show wi.length = nm from by rw [HP.out.sem.1, HNM.out])
                  obtain ⟨Hb, hHb⟩ := letl wu.heap.size
                  obtain ⟨w8, hw8⟩ := letr (wu.alloc (.cells #[.int .i64 tk, .int .i64 tn] 24))
                  have BXb := lBox hw8 hHb
                  have Bw8 := hide (Bwu.out.trans ((lBel hw8).out.mono Bwu.out.size))
                  have HW8 := hide (And.intro hw8 hHb)
                  clear hw8 hHb
                  go_wp2_with (first
                    | (at_builtin; obtain ⟨Hc, hHc⟩ := letl w9.heap.size; obtain ⟨w10, hw10⟩ := letr (w9.alloc (.cells #[.int .i64 0] 3)); have BXc := lBox hw10 hHc; have B10 := lBel hw10; rw [← hw10, hHc]; clear hw10 hHc; refine wpList_append_c (c := zC) (sz := 1) w10 (by rfl) _ _ _ (by rfl) w2.heap.size j0 _ 8 Try.underlying33 HJ.out jz0 jz1 jz2 rfl (by omega) (by omega) (.slice Aw nm cw) wi nm HWI.out (by rfl) ((HOW9.out w8 w9 Bw8.out HG5.out).below B10.out) 0 rfl (fun u hu => by simp only [zC, List.mem_singleton] at hu; subst hu; rfl) Hc _ BXc.out rfl (by rfl) (by omega) (by have := HSW.out; have := Bw8.out.size; have := HG5.out.size; have := B10.out.size; omega) ?_; intro g6 k6 w11 ho6 hg6 hv6 hl6; have HO6 := hide ho6; have HG6 := hide hg6; clear ho6 hg6 hv6 hl6)
                    | (at_builtin; rw [← HW8.out.1, HW8.out.2]; refine wpList_append_c (c := lcC) (sz := 2) w8 (by rfl) _ _ _ (by rfl) w2.heap.size i0 _ 16 Try.underlying32 HI.out iz0 iz1 iz2 rfl (by omega) (by omega) (.slice Am nm cm) more nm HNM.out (by rfl) (HOM8.out w8 Bw8.out) ⟨tk, tn⟩ rfl (fun u hu => by simp only [lcC, List.mem_cons, List.mem_nil_iff, or_false] at hu; rcases hu with rfl | rfl <;> rfl) Hb _ BXb.out rfl (by rfl) (by omega) (by have := HSW.out; have := Bw8.out.size; omega) ?_; intro g5 k5 w9 ho5 hg5 hv5 hl5; have HO5 := hide ho5; have HG5 := hide hg5; clear ho5 hg5 hv5 hl5))
                  go_roundw
                  case rel => exact ⟨k + 1, more ++ [⟨tk, tn⟩], wi ++ [0], by have := HKL.out; omega, by go_num, hide (by rw [HSQ.out]; exact HAPP.out g5 k5 w8 w9 w10 w11 _ Bw8.out HO5.out HG5.out B10.out HO6.out HG6.out), hide (by have := HSW.out; have := Bw8.out.size; have := HG5.out.size; have := B10.out.size; have := HG6.out.size; omega)⟩
                  case measure => have := HKL.out; simp [intOf]; omega
    obtain ⟨h1, h2⟩ := hend
    obtain ⟨y, hy⟩ : ∃ y, has[k]? = some y := ⟨_, List.getElem?_eq_getElem (by have := HNH.out; omega)⟩
    obtain ⟨b, o, hA, hbs, hcell, -⟩ := HH.out.get hy
    subst hA
    (try rw [Nat.mul_one] at hcell)
    have d1 := (HB.out.cell (p := ⟨b, o + k, none⟩) hbs).trans hcell
    have lb : b < wo.heap.size := Nat.lt_of_lt_of_le hbs HB.out.size
    obtain ⟨x1, f1⟩ := HX.out.it (toldP_at (has := has) (k := k) h1)
    have lg := HX.out.lt
    have h1' : (k : Int) < (n : Int) := by omega
    have h2' : (k : Int) < (nh : Int) := by omega
    have hk0 : (0 : Int) ≤ (k : Int) := by omega
    have HXN := hide (show Box (wo.setCell ⟨gt, k, none⟩ (.int .i64 y)) gt (intsA (toldP n (k + 1) has)) 3 from by
      rw [← toldP_step h1 hy]
      exact HX.out.itSet _ _)
    have H1 := hide h1
    clear hy hcell
    go_wp2
    go_roundw
    case rel => exact ⟨k + 1, by have := H1.out; omega, by go_num, HXN, HB.out.setCell (p := ⟨gt, k, none⟩) HGT.out.1 _, by rw [World.size_setCell]; exact HSZ.out⟩
    case measure => have := H1.out; simp [intOf]; omega
theorem playL_R {l : List MvV} {ats : List LcV} {has : List Int} (h : ∀ z ∈ has, i64R z) : ∀ z ∈ playL l ats has, i64R z := fun z hz => by
  unfold playL at hz
  obtain ⟨i, -, rfl⟩ := List.mem_map.1 hz
  split
  · exact seqE_R (st0_R (told_R h)) _
  · exact told_R h i
theorem playL_len (l : List MvV) (ats : List LcV) (has : List Int) : (playL l ats has).length = ats.length := by simp [playL]
set_option maxHeartbeats 4000000 in
set_option maxRecDepth 100000 in
theorem plays17_law (v va vh : Value) (l : List MvV) (ats : List LcV) (has : List Int) (w : World) (hl : MvsV w (· < w.heap.size) v l) (ha : LcsV w (· < w.heap.size) va ats) (hh : IntsV w (· < w.heap.size) vh has) :
    Calls Try.prog 4 #[v, va, vh] w fun e w' => e = .returned (.bool true) ∧ Below w.heap.size w w' := by
  have HAL := hide (fun (W : World) => alive17_any W)
  have HPP := hide (fun (W : World) (hW : Below w.heap.size w W) (h1 : l.length ≤ 1000) (h2 : ats.length ≤ 1000) (h3 : has.length ≤ 1000) => iplay_any v va vh l ats has W (hl.up hW) (ha.up hW) (hh.keep (fun b o hb => hW.cell (p := ⟨b, o, none⟩) hb) (fun b hb => Nat.lt_of_lt_of_le hb hW.size)) h1 h2 h3)
  have HPR := hide (fun (W : World) (hW : Below w.heap.size w W) (h1 : l.length ≤ 1000) (h2 : ats.length ≤ 1000) (h3 : has.length ≤ 1000) => irplay_any v va vh l ats has W (hl.up hW) (ha.up hW) (hh.keep (fun b o hb => hW.cell (p := ⟨b, o, none⟩) hb) (fun b hb => Nat.lt_of_lt_of_le hb hW.size)) h1 h2 h3)
  have HRG := hide (playL_R (l := l) (ats := ats) hh.range)
  have HLN := hide (playL_len l ats has)
  obtain ⟨A, c, rfl, hc, hcm⟩ := hl.open'
  obtain ⟨Aa, ca, rfl, hca, hcam⟩ := ha.open'
  obtain ⟨Ah, ch, rfl, hch, hchm⟩ := hh.open'
  obtain ⟨nl, hnl⟩ := letl l.length
  obtain ⟨n, hn⟩ := letl ats.length
  obtain ⟨nh, hnh⟩ := letl has.length
  simp only [hnl, hn, hnh] at HPP HPR HLN hc hca hch ⊢
  clear hl ha hh hnl hn hnh
  by_cases h1 : nl ≤ 60
  rotate_left
  · have hgt : (60 : Int) < (nl : Int) := by omega
    have hgt2 : 60 < nl := by omega
    go_enter Try.func4, Try.ntmps4
    go_wp2_with (go_at_call 8; refine (HAL.out w).mono ?_; rintro e w1 ⟨rfl, hb1⟩)
    go_ret
    exact ⟨rfl, hb1⟩
  by_cases h2 : n ≤ 60
  rotate_left
  · have hgt : (60 : Int) < (n : Int) := by omega
    have hgt2 : 60 < n := by omega
    have hno : ¬ ((60 : Int) < (nl : Int)) := by omega
    have hno2 : ¬ (60 < nl) := by omega
    go_enter Try.func4, Try.ntmps4
    go_wp2_with (go_at_call 8; refine (HAL.out w).mono ?_; rintro e w1 ⟨rfl, hb1⟩)
    go_ret
    exact ⟨rfl, hb1⟩
  by_cases h3 : nh ≤ 100
  rotate_left
  · have hgt : (100 : Int) < (nh : Int) := by omega
    have hgt2 : 100 < nh := by omega
    have hno : ¬ ((60 : Int) < (nl : Int)) := by omega
    have hno2 : ¬ (60 < nl) := by omega
    have hno3 : ¬ ((60 : Int) < (n : Int)) := by omega
    have hno4 : ¬ (60 < n) := by omega
    go_enter Try.func4, Try.ntmps4
    go_wp2_with (go_at_call 8; refine (HAL.out w).mono ?_; rintro e w1 ⟨rfl, hb1⟩)
    go_ret
    exact ⟨rfl, hb1⟩
  obtain ⟨pl, hpl⟩ := letl (playL l ats has)
  simp only [hpl] at HPP HPR HLN HRG
  clear hpl
  have HIN := hide (fun (W : World) (g1 g2 : Nat) (b1 : Box W g1 (intsA pl) 3) (b2 : Box W g2 (intsA pl) 3) => (show Calls Try.prog 14 #[.slice (some ⟨g1, 0, none⟩) n n, .slice (some ⟨g2, 0, none⟩) n n] W fun e w' => e = .returned (.bool true) ∧ Below W.heap.size W w' from by
    obtain ⟨A1, c1, e1, -, -, s1, -⟩ := (ints_of_box (n := n) (zs := pl) b1 HRG.out HLN.out (by omega)).sl
    obtain ⟨A2, c2, e2, -, -, s2, -⟩ := (ints_of_box (n := n) (zs := pl) b2 HRG.out HLN.out (by omega)).sl
    injection e1 with e1 _ _
    injection e2 with e2 _ _
    subst e1
    subst e2
    refine (ints_any _ _ n n n n pl pl W _ _ s1 s2 HLN.out HLN.out (by omega) (by omega)).mono ?_
    rintro e w' ⟨he, q, rfl⟩
    exact ⟨by rw [he, decide_eq_true rfl], below_drewN (Below.refl _ _) q⟩))
  have HP1 := hide (fun (W : World) (hW : Below w.heap.size w W) => HPP.out W hW (by omega) (by omega) (by omega))
  have HP2 := hide (fun (W : World) (hW : Below w.heap.size w W) => HPR.out W hW (by omega) (by omega) (by omega))
  have hno : ¬ ((60 : Int) < (nl : Int)) := by omega
  have hno2 : ¬ (60 < nl) := by omega
  have hno3 : ¬ ((60 : Int) < (n : Int)) := by omega
  have hno4 : ¬ (60 < n) := by omega
  have hno5 : ¬ ((100 : Int) < (nh : Int)) := by omega
  have hno6 : ¬ (100 < nh) := by omega
  go_enter Try.func4, Try.ntmps4
  go_wp2_with (first
    | (go_at_call 14; (with_reducible refine (HIN.out w3 g2 g3 HX3.out HY3.out).mono ?_); rintro e w4 ⟨rfl, hb4⟩; have B4 := hide (B3.out.trans (hb4.mono B3.out.size)); clear hb4)
    | (go_at_call 16; (with_reducible refine (HP2.out w2 B2.out).mono ?_); rintro e w3 ⟨g3, rfl, hx3, -, hb3⟩; have HX3 := hide (HX2.out.below hb3); have HY3 := hide hx3; have B3 := hide (B2.out.trans (hb3.mono B2.out.size)); clear hb3 hx3)
    | (go_at_call 15; (with_reducible refine (HP1.out w1 B1.out).mono ?_); rintro e w2 ⟨g2, rfl, hx2, -, hb2⟩; have HX2 := hide hx2; have B2 := hide (B1.out.trans (hb2.mono B1.out.size)); clear hb2 hx2)
    | (go_at_call 8; refine (HAL.out w).mono ?_; rintro e w1 ⟨rfl, hb1⟩; have B1 := hide hb1; clear hb1))
  go_ret
  exact ⟨by simp, B4.out⟩
end Go.Proofs.Ytkilfejcohnceaa
