/- Layer 16: what Clash tells, by neighbours in order; its comparison. No condition. -/
import Derived.Test.YtojobajeffipdaaPcQL
import Derived.Test.YtojobajeffipdaaPcQN
set_option linter.unusedSimpArgs false
set_option linter.unusedVariables false
namespace Go.Proofs.Ytojobajeffipdaa
open Go.RowKit

abbrev HomeV : Type := SpV × LcV
instance : Inhabited HomeV := ⟨(⟨0, 0, 0, false⟩, ⟨0, 0⟩)⟩
def cfH (a b : HomeV) : Int := orL [cmpI a.2.k b.2.k, cmpI a.2.n b.2.n, riseN a.1 b.1]
def homeB (p : HomeV) : Bool := !decide (p.2.k = 0) && meetB p.1 p.1
def homesL (ss : List SpV) (ls : List LcV) : List HomeV := (ss.zip ls).filter homeB
def clashR (a b : HomeV) : Bool := decide (a.2 = b.2) && meetB a.1 b.1
def pairB (ss : List SpV) (ls : List LcV) (i k : Nat) : Bool := decide (lcAt ls i = lcAt ls k) && (!decide ((lcAt ls i).k = 0) && meetB (spAt ss i) (spAt ss k))
def clashB (ss : List SpV) (ls : List LcV) : Bool := (List.range (min ss.length ls.length)).any (fun i => (List.range i).any (fun k => pairB ss ls i k))
theorem cfH_neg (a b : HomeV) : cfH a b < 0 ↔ (a.2.k < b.2.k ∨ (a.2.k = b.2.k ∧ (a.2.n < b.2.n ∨ (a.2.n = b.2.n ∧ (a.1.f < b.1.f ∨ (a.1.f = b.1.f ∧ a.1.v < b.1.v)))))) := by
  have key : ∀ (x y : Int) (r : Int), (orL [cmpI x y, r] < 0 ↔ x < y ∨ (x = y ∧ r < 0)) ∧ (orL [cmpI x y, r] = 0 ↔ x = y ∧ r = 0) := fun x y r => by
    unfold orL cmpI
    simp only [List.find?]
    rcases Int.lt_trichotomy x y with h | h | h
    · have h2 : ¬ y < x := by omega
      have h3 : ¬ x = y := by omega
      simp [h, h3]
    · subst h
      by_cases hr : r = 0 <;> simp [hr]
    · have h2 : ¬ x < y := by omega
      have h3 : ¬ x = y := by omega
      simp [h, h2, h3]
  have key3 : ∀ (x y : Int) (z r : Int), orL [cmpI x y, z, r] = orL [cmpI x y, orL [z, r]] := fun x y z r => by
    unfold orL cmpI
    simp only [List.find?]
    rcases Int.lt_trichotomy x y with h | h | h
    · simp [h]
    · subst h
      by_cases hz : z = 0
      · by_cases hr : r = 0 <;> simp [hz, hr]
      · simp [hz]
    · have h2 : ¬ x < y := by omega
      simp [h, h2]
  have k1 : ∀ (x y : Int), cmpI x y < 0 ↔ x < y := fun x y => by unfold cmpI; split <;> (try split) <;> omega
  unfold cfH riseN
  rw [key3, (key _ _ _).1, (key _ _ _).1, (key _ _ _).1, k1]
theorem clash_comm (a b : HomeV) : clashR a b = clashR b a := by
  unfold clashR
  rw [meet_comm16]
  congr 1
  exact decide_eq_decide.2 ⟨Eq.symm, Eq.symm⟩
def NoCl (l : List HomeV) : Prop := l.Pairwise (fun a b => clashR a b = false)
theorem noCl_perm {a b : List HomeV} (h : a.Perm b) : NoCl a ↔ NoCl b := h.pairwise_iff (fun {x y} hxy => by rw [clash_comm]; exact hxy)
theorem meet_self {a b : SpV} (h : meetB a b = true) : meetB a a = true ∧ meetB b b = true := by
  unfold meetB at *
  simp at *
  omega
theorem noCl_homes (ss : List SpV) (ls : List LcV) : NoCl (homesL ss ls) ↔ clashB ss ls = false := by
  unfold NoCl homesL
  rw [List.pairwise_filter, List.pairwise_iff_getElem]
  have hz : ∀ i (h : i < (ss.zip ls).length), (ss.zip ls)[i] = (spAt ss i, lcAt ls i) := fun i h => by
    rw [List.length_zip] at h
    rw [List.getElem_zip]
    congr 1
    · exact (spAt_of (List.getElem?_eq_getElem (by omega))).symm
    · exact (lcAt_of (List.getElem?_eq_getElem (by omega))).symm
  constructor
  · intro h
    unfold clashB
    rw [List.any_eq_false]
    intro i hi
    have hi := List.mem_range.1 hi
    rw [Bool.not_eq_true, List.any_eq_false]
    intro k hk
    have hk := List.mem_range.1 hk
    have hl : i < (ss.zip ls).length := by rw [List.length_zip]; exact hi
    have t := h k i (by omega) hl hk
    rw [hz, hz] at t
    unfold pairB
    intro hp
    simp only [Bool.and_eq_true, Bool.not_eq_true', decide_eq_true_iff, decide_eq_false_iff_not] at hp
    obtain ⟨e, hne, hm⟩ := hp
    have hs := meet_self hm
    have t2 := t (by unfold homeB; rw [hs.2, ← e]; simp [hne]) (by unfold homeB; rw [hs.1]; simp [hne])
    unfold clashR at t2
    rw [meet_comm16, hm] at t2
    simp [e] at t2
  · intro h i j hi hj hij hpi hpj
    rw [hz] at hpi hpj
    rw [hz, hz]
    rw [List.length_zip] at hi hj
    cases e : clashR (spAt ss i, lcAt ls i) (spAt ss j, lcAt ls j) with
    | false => rfl
    | true =>
      unfold clashR at e
      rw [Bool.and_eq_true] at e
      have e1 := of_decide_eq_true e.1
      simp only at e1
      have : clashB ss ls = true := by
        unfold clashB
        rw [List.any_eq_true]
        refine ⟨j, List.mem_range.2 hj, ?_⟩
        rw [List.any_eq_true]
        refine ⟨i, List.mem_range.2 hij, ?_⟩
        unfold pairB
        have hne : ¬ (lcAt ls j).k = 0 := by
          unfold homeB at hpj
          simp at hpj
          exact hpj.1
        rw [meet_comm16]
        rw [show meetB (spAt ss i) (spAt ss j) = true from e.2, e1]
        simp [hne]
      rw [h] at this
      cases this
/-- In order, and each with a point: two clash only if two side by side do. -/
theorem noCl_next {d : List HomeV} (hs : ∀ (i j : Nat) (a b : HomeV), i < j → d[i]? = some a → d[j]? = some b → ¬ cfH b a < 0) (hp : ∀ a ∈ d, meetB a.1 a.1 = true) : NoCl d ↔ ∀ (i : Nat) (a b : HomeV), d[i]? = some a → d[i + 1]? = some b → clashR a b = false := by
  unfold NoCl
  rw [List.pairwise_iff_getElem]
  constructor
  · intro h i a b ha hb
    obtain ⟨h1, e1⟩ := List.getElem?_eq_some_iff.1 ha
    obtain ⟨h2, e2⟩ := List.getElem?_eq_some_iff.1 hb
    have := h i (i + 1) h1 h2 (by omega)
    rw [e1, e2] at this
    exact this
  · intro h i j hi hj hij
    obtain ⟨a, ha⟩ : ∃ a, d[i]? = some a := ⟨_, List.getElem?_eq_getElem hi⟩
    obtain ⟨b, hb⟩ : ∃ b, d[j]? = some b := ⟨_, List.getElem?_eq_getElem hj⟩
    obtain ⟨c, hc⟩ : ∃ c, d[i + 1]? = some c := ⟨_, List.getElem?_eq_getElem (by omega)⟩
    have ea := (List.getElem?_eq_some_iff.1 ha).2
    have eb := (List.getElem?_eq_some_iff.1 hb).2
    rw [ea, eb]
    by_cases e : j = i + 1
    · subst e; exact h i a b ha hb
    cases hcl : clashR a b with
    | false => rfl
    | true =>
      have t := h i a c ha hc
      have s1 := hs i (i + 1) a c (by omega) ha hc
      have s2 := hs (i + 1) j c b (by omega) hc hb
      have pc := hp c (List.mem_of_getElem? hc)
      rw [cfH_neg] at s1 s2
      unfold clashR at hcl t
      rw [Bool.and_eq_true] at hcl
      have e1 := of_decide_eq_true hcl.1
      have hm := hcl.2
      obtain ⟨⟨av, af, at', ac⟩, ⟨ak, an⟩⟩ := a
      obtain ⟨⟨bv, bf, bt, bc⟩, ⟨bk, bn⟩⟩ := b
      obtain ⟨⟨cv, cf, ct, cc⟩, ⟨ck, cn⟩⟩ := c
      simp only [LcV.mk.injEq] at e1
      unfold meetB at hm pc t
      simp only [decide_eq_true_iff] at hm pc s1 s2
      obtain ⟨rfl, rfl⟩ := e1
      have hck : ck = ak := by omega
      subst hck
      have hcn : cn = an := by omega
      subst hcn
      simp at t
      omega
/-- What the program's look at neighbours tells. -/
theorem clash_sorted {ss : List SpV} {ls : List LcV} {d : List HomeV} (hp : d.Perm (homesL ss ls)) (hs : ∀ (i j : Nat) (a b : HomeV), i < j → d[i]? = some a → d[j]? = some b → ¬ cfH b a < 0) : (∀ (i : Nat) (a b : HomeV), d[i]? = some a → d[i + 1]? = some b → clashR a b = false) ↔ clashB ss ls = false := by
  rw [← noCl_homes, ← noCl_perm hp, noCl_next hs]
  intro a ha
  have := (List.mem_filter.1 (hp.mem_iff.1 ha)).2
  unfold homeB at this
  simp at this
  exact this.2
theorem grow16_below (w : World) (q : Nat) (os : Array Obj) : Below w.heap.size w (Go.Sort.grow (w.drewN q) os) := grow_below w q os
theorem World.drewN_drew {w : World} {q : Nat} : w.drew.drewN q = w.drewN (1 + q) := by
  show ({ w with drawn := w.drawn + 1 + q } : World) = { w with drawn := w.drawn + (1 + q) }
  rw [Nat.add_assoc]
def homeC (p : HomeV) : List Value := [.int .i64 p.1.v, .int .i64 p.1.f, .int .i64 p.1.t, .bool p.1.c, .int .i64 p.2.k, .int .i64 p.2.n]
set_option maxHeartbeats 2000000 in
set_option maxRecDepth 100000 in
theorem qclash1_any (a b : HomeV) (w : World) : Calls Try.prog 24 #[.agg (homeC a).toArray, .agg (homeC b).toArray] w fun e w' => e = .returned (.int .i64 (cfH a b)) ∧ ∃ q os', w' = Go.Sort.grow (w.drewN q) os' := by
  obtain ⟨⟨av, af, at', ac⟩, ⟨ak, an⟩⟩ := a
  obtain ⟨⟨bv, bf, bt, bc⟩, ⟨bk, bn⟩⟩ := b
  unfold homeC cfH
  show Calls Try.prog 24 #[.agg #[.int .i64 av, .int .i64 af, .int .i64 at', .bool ac, .int .i64 ak, .int .i64 an], .agg #[.int .i64 bv, .int .i64 bf, .int .i64 bt, .bool bc, .int .i64 bk, .int .i64 bn]] w _
  have HC1 := hide (fun (W : World) => qcmp_any ak bk W)
  have HC2 := hide (fun (W : World) => qcmp_any an bn W)
  have HC3 := hide (fun (W : World) => qrising_any ⟨av, af, at', ac⟩ ⟨bv, bf, bt, bc⟩ W)
  unfold spA at HC3
  obtain ⟨x1, e1⟩ := letl (cmpI ak bk)
  obtain ⟨x2, e2⟩ := letl (cmpI an bn)
  obtain ⟨x3, e3⟩ := letl (riseN ⟨av, af, at', ac⟩ ⟨bv, bf, bt, bc⟩)
  rw [e1] at HC1
  rw [e2] at HC2
  rw [e3] at HC3
  show Calls _ _ _ _ fun e w' => e = .returned (.int .i64 (orL [cmpI ak bk, cmpI an bn, riseN ⟨av, af, at', ac⟩ ⟨bv, bf, bt, bc⟩])) ∧ ∃ q os', w' = Go.Sort.grow (w.drewN q) os'
  rw [e1, e2, e3]
  clear e1 e2 e3
  have HO := hide (fun (W : World) (B : Nat) (A : Option Addr) (hs : Sl W B .i64 A [x1, x2, x3]) => qor_any A 3 3 B [x1, x2, x3] W rfl (by omega) hs)
  generalize orL [x1, x2, x3] = r at *
  go_enter Try.func24, Try.ntmps24
  go_upto_region 1 with (fail)
  obtain ⟨w1, hw1⟩ := letr ((w.alloc (.cells #[.int .i64 av, .int .i64 af, .int .i64 at', .bool ac, .int .i64 ak, .int .i64 an] 53)).alloc (.cells #[.int .i64 bv, .int .i64 bf, .int .i64 bt, .bool bc, .int .i64 bk, .int .i64 bn] 53))
  obtain ⟨h0, hh0⟩ := letl w.heap.size
  have HX0 := lY2 hw1 hh0
  have HX1 := lX2 hw1 hh0
  have HW := hide (show ∃ os', w1 = Go.Sort.grow w os' from ⟨_, by rw [hw1, Go.Sort.alloc_eq_grow, Go.Sort.alloc_eq_grow, Go.Sort.grow_grow]⟩)
  rw [← hw1, hh0]
  clear hw1 hh0
  have HKS := hide (fun (W : World) (hW : Below w1.heap.size w1 W) => (And.intro ((HX0.out.below hW).cell 0 (v := .int .i64 av) rfl).1 (And.intro ((HX0.out.below hW).cell 1 (v := .int .i64 af) rfl).1 (And.intro ((HX0.out.below hW).cell 2 (v := .int .i64 at') rfl).1 (And.intro ((HX0.out.below hW).cell 3 (v := .bool ac) rfl).1 (And.intro ((HX0.out.below hW).cell 4 (v := .int .i64 ak) rfl).1 (And.intro ((HX0.out.below hW).cell 5 (v := .int .i64 an) rfl).1 (And.intro ((HX1.out.below hW).cell 0 (v := .int .i64 bv) rfl).1 (And.intro ((HX1.out.below hW).cell 1 (v := .int .i64 bf) rfl).1 (And.intro ((HX1.out.below hW).cell 2 (v := .int .i64 bt) rfl).1 (And.intro ((HX1.out.below hW).cell 3 (v := .bool bc) rfl).1 (And.intro ((HX1.out.below hW).cell 4 (v := .int .i64 bk) rfl).1 ((HX1.out.below hW).cell 5 (v := .int .i64 bn) rfl).1))))))))))))
  have BE0 := hide (show Below w1.heap.size w1 w1.drew from below_drewN (Below.refl _ _) 1)
  refine wp_region_til (fun w' => w'.cell? ⟨h0, 0, none⟩ = some (.int .i64 av) ∧ w'.cell? ⟨h0, 1, none⟩ = some (.int .i64 af) ∧ w'.cell? ⟨h0, 2, none⟩ = some (.int .i64 at') ∧ w'.cell? ⟨h0, 3, none⟩ = some (.bool ac) ∧ w'.cell? ⟨h0, 4, none⟩ = some (.int .i64 ak) ∧ w'.cell? ⟨h0, 5, none⟩ = some (.int .i64 an) ∧ w'.cell? ⟨h0 + 1, 0, none⟩ = some (.int .i64 bv) ∧ w'.cell? ⟨h0 + 1, 1, none⟩ = some (.int .i64 bf) ∧ w'.cell? ⟨h0 + 1, 2, none⟩ = some (.int .i64 bt) ∧ w'.cell? ⟨h0 + 1, 3, none⟩ = some (.bool bc) ∧ w'.cell? ⟨h0 + 1, 4, none⟩ = some (.int .i64 bk) ∧ w'.cell? ⟨h0 + 1, 5, none⟩ = some (.int .i64 bn)) 20 (by kernel_rfl) (HKS.out _ BE0.out) ?_
  obtain ⟨w100, hw100⟩ : ∃ w100, w100 = w1.drew := ⟨_, rfl⟩
  have BE100 := hide (show Below w1.heap.size w1 w100 by rw [hw100]; exact BE0.out)
  rw [← hw100]
  have hSd := HKS.out w100 BE100.out
  have HW100 := hide hw100
  clear hw100
  refine tilM 0 (Or.inr hSd) ?_
  refine tilM 1 (Or.inr hSd) ?_
  refine tilM 3 (Or.inr hSd) ?_
  refine tilM 4 (Or.inr hSd) ?_
  refine tilM 7 (Or.inr hSd) ?_
  refine tilM 8 (Or.inr hSd) ?_
  refine tilM 10 (Or.inr hSd) ?_
  refine tilM 11 (Or.inr hSd) ?_
  refine tilM 14 (Or.inr hSd) ?_
  refine tilM 16 (Or.inr hSd) ?_
  refine tilD 2 [20, 19, 6] hSd ?_
  refine tilD 5 [20, 19, 6] hSd ?_
  refine tilD 9 [20, 19, 13] hSd ?_
  refine tilD 12 [20, 19, 13] hSd ?_
  refine tilD 15 [20, 18] hSd ?_
  refine tilD 17 [20, 18] hSd ?_
  refine wpTil_ready (rs := [6]) (by kernel_rfl) (by simp) ?_
  refine AllTil.cons rfl (fun K hK => ?_) ?_
  · skip
    rw [if_pos (by rfl)]
    go_simp
    go_at_call 26
    (with_reducible refine (HC1.out _).mono ?_)
    rintro e w0 ⟨rfl, rfl⟩
    refine hK.out _ _ (HKS.out w100 BE100.out) ?_
    clear hK K
    try clear hSd
    have hSd := HKS.out w100 BE100.out
    try simp only [tilS, Act.put]
    refine wpTil_ready (rs := [13]) (by kernel_rfl) (by simp) ?_
    refine AllTil.cons rfl (fun K hK => ?_) ?_
    · skip
      rw [if_pos (by rfl)]
      go_simp
      go_at_call 26
      (with_reducible refine (HC2.out _).mono ?_)
      rintro e w0 ⟨rfl, rfl⟩
      refine hK.out _ _ (HKS.out w100 BE100.out) ?_
      clear hK K
      try clear hSd
      have hSd := HKS.out w100 BE100.out
      try simp only [tilS, Act.put]
      refine wpTil_ready (rs := [18]) (by kernel_rfl) (by simp) ?_
      refine AllTil.cons rfl (fun K hK => ?_) ?_
      · skip
        rw [if_pos (by rfl)]
        go_simp
        go_at_call 21
        (with_reducible refine (HC3.out w100).mono ?_)
        rintro e w101 ⟨rfl, hgr101⟩
        have HGR101 := hide hgr101
        have BE101 := hide (BE100.out.trans ((show Below w100.heap.size w100 w101 by obtain ⟨q, os, h⟩ := hgr101; rw [h]; exact grow16_below _ _ _).mono BE100.out.size))
        clear hgr101
        refine hK.out _ _ (HKS.out w101 BE101.out) ?_
        clear hK K
        try clear hSd
        have hSd := HKS.out w101 BE101.out
        try simp only [tilS, Act.put]
        refine wpTil_ready (rs := [19]) (by kernel_rfl) (by simp) ?_
        refine AllTil.cons rfl (fun K hK => ?_) ?_
        · skip
          rw [if_pos (by rfl)]
          go_simp
          obtain ⟨w102, hw102⟩ : ∃ wM, wM = w101.alloc (.cells #[.int .i64 x1, .int .i64 x2, .int .i64 x3] 3) := ⟨_, rfl⟩
          obtain ⟨g, hg⟩ : ∃ g, w101.heap.size = g := ⟨_, rfl⟩
          have BE102 := hide (show Below w1.heap.size w1 w102 by rw [hw102]; exact BE101.out.alloc BE101.out.size _)
          have HSL := hide (show Sl w102 (g + 1) .i64 (some ⟨g, 0, none⟩) [x1, x2, x3] by rw [hw102, ← hg]; exact Sl.lit w101 _ .i64 _ [x1, x2, x3] rfl)
          have HG := hide (show ∃ q os', w102 = Go.Sort.grow (w1.drewN q) os' from by obtain ⟨q, os, h⟩ := HGR101.out; exact ⟨1 + q, os ++ #[.cells #[.int .i64 x1, .int .i64 x2, .int .i64 x3] 3], by rw [hw102, Go.Sort.alloc_eq_grow, h, Go.Sort.grow_grow, HW100.out, World.drewN_drew]⟩)
          rw [← hw102, hg]
          clear hw102 hg
          refine hK.out _ _ (HKS.out w102 BE102.out) ?_
          clear hK K
          try clear hSd
          have hSd := HKS.out w102 BE102.out
          try simp only [tilS, Act.put]
          refine wpTil_ready (rs := [20]) (by kernel_rfl) (by simp) ?_
          refine AllTil.last rfl (by rfl) (fun K hK => ?_)
          rw [if_pos (by rfl)]
          go_simp
          go_at_call 25
          (with_reducible refine (HO.out w102 _ _ HSL.out).mono ?_)
          rintro e w0 ⟨rfl, rfl⟩
          refine hK.out _ _ ?_
          clear hK K hSd
          try simp only [tilS, Act.put]
          refine tilM 21 (Or.inl (by rfl)) ?_
          refine wpTil_done (by kernel_rfl) ?_ _
          go_wp2_with fail
          go_ret
          obtain ⟨q, os, h1⟩ := HG.out
          obtain ⟨os', h2⟩ := HW.out
          exact ⟨rfl, q, os' ++ os, by rw [h1, h2, ← Go.Sort.grow_grow]; rfl⟩
        exact AllTil.nil
      exact AllTil.nil
    exact AllTil.nil
  exact AllTil.nil
end Go.Proofs.Ytojobajeffipdaa
