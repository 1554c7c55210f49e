/- Layer 15: rising; slices.SortFunc at []api.Span, laid (by lay-plain.mjs; the numbers by name); slices.SortedFunc. No condition. -/
import Derived.Test.YteoopilmdlhkhaaDoorPaWO
import Derived.Test.YteoopilmdlhkhaaDoorPaQC
import Derived.Shelf.SlSortCmp.WholeK
import Derived.Shelf.SlSortCmp.NoneTotal
set_option linter.unusedSimpArgs false
set_option linter.unusedVariables false
namespace Go.Proofs.YteoopilmdlhkhaaDoor
open Go.Shelf Go.Sort Go.RowKit Go.Lib

set_option maxHeartbeats 1000000 in
set_option maxRecDepth 100000 in
theorem rising15 (a b : SpV) (w : World) : Calls Tryd.prog 10 #[spA a, spA b] w fun e w' => e = .returned (.int .i64 (riseN a b)) ∧ ∃ q os', w' = Go.Sort.grow (w.drewN q) os' := by
  obtain ⟨av, af, at', ac⟩ := a
  obtain ⟨bv, bf, bt, bc⟩ := b
  unfold spA riseN
  have HC1 := hide (fun (W : World) => qcmp_any af bf W)
  have HC2 := hide (fun (W : World) => qcmp_any av bv W)
  generalize cmpI af bf = x1, cmpI av bv = x2 at *
  have HO := hide (fun (W : World) (B : Nat) (A : Option Addr) (hs : Sl W B .i64 A [x1, x2]) => qor_any A 2 2 B [x1, x2] W rfl (by omega) hs)
  generalize orL [x1, x2] = r at *
  go_enter Tryd.func10, Tryd.ntmps10
  go_upto_region 1 with (fail)
  obtain ⟨w1, hw1⟩ : ∃ w1, w1 = (w.alloc (.cells #[.int .i64 av, .int .i64 af, .int .i64 at', .bool ac] 23)).alloc (.cells #[.int .i64 bv, .int .i64 bf, .int .i64 bt, .bool bc] 23) := ⟨_, rfl⟩
  obtain ⟨h0, hh0⟩ : ∃ h0, w.heap.size = h0 := ⟨_, rfl⟩
  have HX0 := hide (show Box w1 h0 #[.int .i64 av, .int .i64 af, .int .i64 at', .bool ac] 23 by rw [hw1, ← hh0]; exact (Box.new w _ _).alloc _)
  have HX1 := hide (show Box w1 (h0 + 1) #[.int .i64 bv, .int .i64 bf, .int .i64 bt, .bool bc] 23 by rw [hw1, ← hh0]; have t := Box.new (w.alloc (.cells #[.int .i64 av, .int .i64 af, .int .i64 at', .bool ac] 23)) #[.int .i64 bv, .int .i64 bf, .int .i64 bt, .bool bc] 23; (try simp only [World.size_alloc] at t); exact t)
  have HW := hide (show ∃ os', w1 = Go.Sort.grow w os' from ⟨_, by rw [hw1, Go.Sort.alloc_eq_grow, Go.Sort.alloc_eq_grow, Go.Sort.grow_grow]⟩)
  rw [← hw1, hh0]
  clear hw1 hh0
  have HKS := hide (fun (W : World) (hW : Below w1.heap.size w1 W) => (And.intro ((HX0.out.below hW).cell 1 (v := .int .i64 af) rfl).1 (And.intro ((HX1.out.below hW).cell 1 (v := .int .i64 bf) rfl).1 (And.intro ((HX0.out.below hW).cell 0 (v := .int .i64 av) rfl).1 ((HX1.out.below hW).cell 0 (v := .int .i64 bv) rfl).1))))
  have BE0 := hide (show Below w1.heap.size w1 w1.drew from below_drewN (Below.refl _ _) 1)
  refine wp_region_til (fun w' => w'.cell? ⟨h0, 1, none⟩ = some (.int .i64 af) ∧ w'.cell? ⟨h0 + 1, 1, none⟩ = some (.int .i64 bf) ∧ w'.cell? ⟨h0, 0, none⟩ = some (.int .i64 av) ∧ w'.cell? ⟨h0 + 1, 0, none⟩ = some (.int .i64 bv)) 11 (by kernel_rfl) (HKS.out _ BE0.out) ?_
  obtain ⟨w100, hw100⟩ : ∃ w100, w100 = w1.drew := ⟨_, rfl⟩
  have BE100 := hide (show Below w1.heap.size w1 w100 by rw [hw100]; exact BE0.out)
  rw [← hw100]
  have hSd := HKS.out w100 BE100.out
  have HW100 := hide hw100
  clear hw100
  refine tilM 0 (Or.inr hSd) ?_
  refine tilM 2 (Or.inr hSd) ?_
  refine tilM 5 (Or.inr hSd) ?_
  refine tilM 7 (Or.inr hSd) ?_
  refine tilD 1 [11, 10, 4] hSd ?_
  refine tilD 3 [11, 10, 4] hSd ?_
  refine tilD 6 [11, 9] hSd ?_
  refine tilD 8 [11, 9] hSd ?_
  refine wpTil_ready (rs := [4]) (by kernel_rfl) (by simp) ?_
  refine AllTil.cons rfl (fun K hK => ?_) ?_
  · skip
    rw [if_pos (by rfl)]
    go_simp
    go_at_call 12
    (with_reducible refine (HC1.out _).mono ?_)
    rintro e w0 ⟨rfl, rfl⟩
    refine hK.out _ _ (HKS.out w100 BE100.out) ?_
    clear hK K
    try clear hSd
    have hSd := HKS.out w100 BE100.out
    try simp only [tilS, Act.put]
    refine wpTil_ready (rs := [9]) (by kernel_rfl) (by simp) ?_
    refine AllTil.cons rfl (fun K hK => ?_) ?_
    · skip
      rw [if_pos (by rfl)]
      go_simp
      go_at_call 12
      (with_reducible refine (HC2.out _).mono ?_)
      rintro e w0 ⟨rfl, rfl⟩
      refine hK.out _ _ (HKS.out w100 BE100.out) ?_
      clear hK K
      try clear hSd
      have hSd := HKS.out w100 BE100.out
      try simp only [tilS, Act.put]
      refine wpTil_ready (rs := [10]) (by kernel_rfl) (by simp) ?_
      refine AllTil.cons rfl (fun K hK => ?_) ?_
      · skip
        rw [if_pos (by rfl)]
        go_simp
        obtain ⟨w101, hw101⟩ : ∃ wM, wM = w100.alloc (.cells #[.int .i64 x1, .int .i64 x2] 3) := ⟨_, rfl⟩
        obtain ⟨g, hg⟩ : ∃ g, w100.heap.size = g := ⟨_, rfl⟩
        have BE101 := hide (show Below w1.heap.size w1 w101 by rw [hw101]; exact BE100.out.alloc BE100.out.size _)
        have HSL := hide (show Sl w101 (g + 1) .i64 (some ⟨g, 0, none⟩) [x1, x2] by rw [hw101, ← hg]; exact Sl.lit w100 _ .i64 _ [x1, x2] rfl)
        have HG := hide (show ∃ q os', w101 = Go.Sort.grow (w1.drewN q) os' from ⟨1, _, by rw [hw101, HW100.out, Go.Sort.alloc_eq_grow]; rfl⟩)
        rw [← hw101, hg]
        clear hw101 hg
        refine hK.out _ _ (HKS.out w101 BE101.out) ?_
        clear hK K
        try clear hSd
        have hSd := HKS.out w101 BE101.out
        try simp only [tilS, Act.put]
        refine wpTil_ready (rs := [11]) (by kernel_rfl) (by simp) ?_
        refine AllTil.last rfl (by rfl) (fun K hK => ?_)
        rw [if_pos (by rfl)]
        go_simp
        go_at_call 11
        (with_reducible refine (HO.out w101 _ _ HSL.out).mono ?_)
        rintro e w0 ⟨rfl, rfl⟩
        refine hK.out _ _ ?_
        clear hK K hSd
        try simp only [tilS, Act.put]
        refine tilM 12 (Or.inl (by rfl)) ?_
        refine wpTil_done (by kernel_rfl) ?_ _
        go_wp2_with fail
        go_ret
        obtain ⟨q, os, h1⟩ := HG.out
        obtain ⟨os', h2⟩ := HW.out
        exact ⟨rfl, q, os' ++ os, by rw [h1, h2, ← Go.Sort.grow_grow]; rfl⟩
      exact AllTil.nil
    exact AllTil.nil
  exact AllTil.nil
instance inh15 : Inhabited SpV := ⟨⟨0, 0, 0, false⟩⟩
theorem rise_neg15 (a b : SpV) : riseN a b < 0 ↔ lt15 a b = true := by
  rw [lt15_iff]
  unfold riseN orL cmpI
  by_cases h1 : a.f < b.f
  · simp [h1]
  · by_cases h2 : b.f < a.f
    · have h3 : ¬ a.f = b.f := by omega
      simp [h1, h2, h3]
    · have h3 : a.f = b.f := by omega
      by_cases h4 : a.v < b.v
      · simp [h3, h4]
      · by_cases h5 : b.v < a.v
        · simp [h3, h4, h5]
        · simp [h3, h4, h5]
theorem rise_lt15 (a b : SpV) : ltOf riseN a b = decide (a.f < b.f ∨ (a.f = b.f ∧ a.v < b.v)) := by
  unfold ltOf
  refine decide_eq_decide.2 ?_
  rw [rise_neg15, lt15_iff]
theorem rise_swo15 : SWO (ltOf riseN) where
  irrefl x := by rw [rise_lt15]; simp
  trans x y z h1 h2 := by rw [rise_lt15] at *; simp at *; omega
  ntrans x y z h1 h2 := by rw [rise_lt15] at *; simp at *; omega
theorem spC_one15 (x : SpV) (v : Value) (hv : v ∈ spC x) : v.oneCell' = true := by
  simp only [spC, List.mem_cons, List.mem_nil_iff, or_false] at hv
  rcases hv with rfl | rfl | rfl | rfl <;> rfl
theorem enters15 (args : Array Value) (w : World) : (callFunc 10 args).run Tryd.prog w = .ok (.enter 10 args) w := enters_of Tryd.func10 (by kernel_rfl) rfl args w
theorem own_blk15 {w : World} {base : Nat} {v : Value} {l : List SpV} (h : OwC spC 23 4 w base v l) (hl : 0 < l.length) : ∃ g cap, v = .slice (some ⟨g, 0, none⟩) l.length cap ∧ base ≤ g ∧ g < w.heap.size ∧ l.length ≤ cap ∧ cap ≤ maxLen := by
  rcases h.2 with ⟨rfl, e⟩ | ⟨g, cap, cur, rfl, hg, hh, hnc, hcm, -⟩
  · omega
  · exact ⟨g, cap, rfl, hg, (Array.getElem?_eq_some_iff.1 hh).1, hnc, hcm⟩
theorem own_at16 {β : Type} {c : β → List Value} {T : TypeId} {sz : Nat} {w : World} {base : Nat} {l : List β} {g cap n : Nat} (h : OwC c T sz w base (.slice (some ⟨g, 0, none⟩) n cap) l) (hn : l.length = n) (hc : ∀ y, (c y).length = sz) {j i : Nat} {y : β} (hj : l[j]? = some y) (hi : i < sz) : w.cell? ⟨g, j * sz + i, none⟩ = (c y)[i]? ∧ w.frozen? ⟨g, j * sz + i, none⟩ = false := by
  subst hn
  have hjl := (List.getElem?_eq_some_iff.1 hj).1
  have hlt : j * sz + i < l.length * sz := by
    have : (j + 1) * sz ≤ l.length * sz := Nat.mul_le_mul_right _ (by omega)
    rw [Nat.succ_mul] at this
    omega
  exact ⟨by rw [World.ownsRow.cellAt h _ hlt, flat_at l j i y (fun y _ => hc y) hj hi], World.ownsRow.frozenAt h _⟩
def spanRen : Go.Shelf.Ren := ⟨fun | 6 => 20 | 15 => 30 | 14 => 29 | 28 => 50 | 29 => 51 | 20 => 42 | 21 => 43 | 22 => 44 | 23 => 45 | 24 => 46 | 25 => 47 | 26 => 48 | 27 => 49 | 46 => 63 | 47 => 64 | 48 => 65 | 49 => 66 | 50 => 67 | 57 => 79 | n => n, fun | 22 => 35 | 24 => 23 | 25 => 43 | 3 => 3 | 39 => 68 | 0 => 0 | 53 => 93 | 55 => 63 | 4 => 4 | 46 => 87 | 45 => 86 | 50 => 73 | 5 => 5 | 9 => 9 | 66 => 109 | 70 => 113 | 76 => 123 | 77 => 124 | n => n, fun | n => n⟩
theorem spanLays : Go.Proofs.SlLaysF0.n6 Tryd.prog spanRen := {
  mixed := by kernel_rfl
  f6 := ⟨Tryd.f20.name, by decide, Tryd.func20.trans (congrArg some (by kernel_rfl))⟩
  f14 := ⟨Tryd.f29.name, by decide, Tryd.func29.trans (congrArg some (by kernel_rfl))⟩
  f15 := Tryd.func30.trans (congrArg some (by kernel_rfl))
  f20 := ⟨Tryd.f42.name, by decide, Tryd.func42.trans (congrArg some (by kernel_rfl))⟩
  f21 := ⟨Tryd.f43.name, by decide, Tryd.func43.trans (congrArg some (by kernel_rfl))⟩
  f22 := ⟨Tryd.f44.name, by decide, Tryd.func44.trans (congrArg some (by kernel_rfl))⟩
  f23 := ⟨Tryd.f45.name, by decide, Tryd.func45.trans (congrArg some (by kernel_rfl))⟩
  f24 := ⟨Tryd.f46.name, by decide, Tryd.func46.trans (congrArg some (by kernel_rfl))⟩
  f25 := ⟨Tryd.f47.name, by decide, Tryd.func47.trans (congrArg some (by kernel_rfl))⟩
  f26 := ⟨Tryd.f48.name, by decide, Tryd.func48.trans (congrArg some (by kernel_rfl))⟩
  f27 := ⟨Tryd.f49.name, by decide, Tryd.func49.trans (congrArg some (by kernel_rfl))⟩
  f28 := Tryd.func50.trans (congrArg some (by kernel_rfl))
  f29 := Tryd.func51.trans (congrArg some (by kernel_rfl))
  f46 := ⟨Tryd.f63.name, by decide, Tryd.func63.trans (congrArg some (by kernel_rfl))⟩
  f47 := Tryd.func64.trans (congrArg some (by kernel_rfl))
  f48 := Tryd.func65.trans (congrArg some (by kernel_rfl))
  f49 := ⟨Tryd.f66.name, by decide, Tryd.func66.trans (congrArg some (by kernel_rfl))⟩
  f50 := ⟨Tryd.f67.name, by decide, Tryd.func67.trans (congrArg some (by kernel_rfl))⟩
  f57 := ⟨Tryd.f79.name, by decide, Tryd.func79.trans (congrArg some (by kernel_rfl))⟩
  t0 := Tryd.underlying0
  a0 := Tryd.isAgg0
  z0 := Tryd.sizeOf0
  v0 := Tryd.zeroValue0
  t3 := Tryd.underlying3
  a3 := Tryd.isAgg3
  z3 := Tryd.sizeOf3
  v3 := Tryd.zeroValue3
  t4 := Tryd.underlying4
  a4 := Tryd.isAgg4
  z4 := Tryd.sizeOf4
  v4 := Tryd.zeroValue4
  t5 := Tryd.underlying5
  a5 := Tryd.isAgg5
  z5 := Tryd.sizeOf5
  v5 := Tryd.zeroValue5
  t9 := Tryd.underlying9
  a9 := Tryd.isAgg9
  z9 := Tryd.sizeOf9
  v9 := Tryd.zeroValue9
  t22 := Tryd.underlying35
  a22 := Tryd.isAgg35
  z22 := Tryd.sizeOf35
  v22 := Tryd.zeroValue35
  t25 := Tryd.underlying43
  a25 := Tryd.isAgg43
  z25 := Tryd.sizeOf43
  v25 := Tryd.zeroValue43
  t39 := Tryd.underlying68
  a39 := Tryd.isAgg68
  z39 := Tryd.sizeOf68
  v39 := Tryd.zeroValue68
  t45 := Tryd.underlying86
  a45 := Tryd.isAgg86
  z45 := Tryd.sizeOf86
  v45 := Tryd.zeroValue86
  t46 := Tryd.underlying87
  a46 := Tryd.isAgg87
  z46 := Tryd.sizeOf87
  v46 := Tryd.zeroValue87
  t50 := Tryd.underlying73
  a50 := Tryd.isAgg73
  z50 := Tryd.sizeOf73
  v50 := Tryd.zeroValue73
  t53 := Tryd.underlying93
  a53 := Tryd.isAgg93
  z53 := Tryd.sizeOf93
  v53 := Tryd.zeroValue93
  t55 := Tryd.underlying63
  a55 := Tryd.isAgg63
  z55 := Tryd.sizeOf63
  v55 := Tryd.zeroValue63
  t66 := Tryd.underlying109
  a66 := Tryd.isAgg109
  z66 := Tryd.sizeOf109
  v66 := Tryd.zeroValue109
  t70 := Tryd.underlying113
  a70 := Tryd.isAgg113
  z70 := Tryd.sizeOf113
  v70 := Tryd.zeroValue113
  t76 := Tryd.underlying123
  a76 := Tryd.isAgg123
  z76 := Tryd.sizeOf123
  v76 := Tryd.zeroValue123
  t77 := Tryd.underlying124
  a77 := Tryd.isAgg124
  z77 := Tryd.sizeOf124
  v77 := Tryd.zeroValue124 }
theorem span_at15 (l : List SpV) (i : Nat) (h : i < l.length) : l[i]? = some (l.toArray[i]!) := by
  rw [getElem!_pos l.toArray i (by simpa using h)]
  simp [h]
theorem span_cell15 (p : SpV) (j : Nat) (h : j < 4) : (spC p)[j]? = some ((spC p)[j]!) := by
  rw [getElem!_pos (spC p) j (by simpa [spC] using h), List.getElem?_eq_getElem (by simpa [spC] using h)]
theorem holds_span15 {w : World} {base g cap n : Nat} {l : List SpV} (h : OwC spC 23 4 w base (.slice (some ⟨g, 0, none⟩) n cap) l) (hn : l.length = n) : HoldsK spC 4 w g 0 l.toArray := by
  intro t ht
  rw [size_flatK, List.size_toArray] at ht
  have hj : t / 4 < l.length := Nat.div_lt_of_lt_mul (by omega)
  have hi : t % 4 < 4 := Nat.mod_lt _ (by omega)
  have e := own_at16 h hn (fun y => rfl) (span_at15 l (t / 4) hj) hi
  show w.cell? ⟨g, 0 + t, none⟩ = some ((flatK spC 4 l.toArray)[t]!) ∧ w.frozen? ⟨g, 0 + t, none⟩ = false
  rw [get_flatK _ _ _ t (by rw [List.size_toArray]; exact ht), Nat.zero_add, ← span_cell15 _ _ hi]
  have et : t / 4 * 4 + t % 4 = t := by omega
  rw [et] at e
  exact e
/-- Four cells a span. -/
theorem spans_at15 {w : World} {g : Nat} {d : Array SpV} (h : HoldsK spC 4 w g 0 d) {i : Nat} {y : SpV} (hy : d.toList[i]? = some y) : w.cell? ⟨g, i * 4, none⟩ = some (.int .i64 y.v) ∧ w.cell? ⟨g, i * 4 + 1, none⟩ = some (.int .i64 y.f) ∧ w.cell? ⟨g, i * 4 + 2, none⟩ = some (.int .i64 y.t) ∧ w.cell? ⟨g, i * 4 + 3, none⟩ = some (.bool y.c) := by
  have hi : i < d.size := by have := (List.getElem?_eq_some_iff.1 hy).1; simpa using this
  have e : d[i]! = y := by
    rw [getElem!_pos d i hi]
    have := (List.getElem?_eq_some_iff.1 hy).2
    simpa using this
  have c : ∀ k, k < 4 → w.cell? ⟨g, i * 4 + k, none⟩ = some (spC y)[k]! := fun k hk => by
    have t := (h.cell hi hk).1
    rw [e, Nat.zero_add] at t
    exact t
  exact ⟨c 0 (by omega), c 1 (by omega), c 2 (by omega), c 3 (by omega)⟩
set_option maxRecDepth 100000 in
theorem sort15 (v : Value) (l : List SpV) (base : Nat) (w : World) (hv : OwC spC 23 4 w base v l) (hn : l.length ≤ 1000000000) (hR : ∀ s ∈ l, i64R s.v ∧ i64R s.f ∧ i64R s.t) (hnd : (l.map (·.v)).Nodup) :
    Calls Tryd.prog 20 #[v, .func (.func 10) #[] #[]] w fun e w' => e = .returned (.tuple #[]) ∧ ∃ d : List SpV, d.Perm l ∧ d.Pairwise (fun a b => lt15 a b = true) ∧ SpsV w' (fun b => base ≤ b ∧ b < w'.heap.size) v d ∧ Below base w w' := by
  rcases Nat.eq_zero_or_pos l.length with h0 | h0
  · obtain ⟨A, cap, hA, -, hcm⟩ := hv.sl
    have hl := List.length_eq_zero_iff.1 h0
    subst hl
    subst hA
    refine (AnyF.slices_SortFunc_none spanLays A cap _ w).mono fun e w' ⟨he, hw⟩ => ⟨he, [], .nil, List.Pairwise.nil, ⟨A, cap, rfl, Nat.zero_le _, (by simp only [maxLen] at hcm; omega), fun h => absurd h (by simp)⟩, by rw [hw]; exact Below.refl _ _⟩
  · obtain ⟨g, cap, rfl, hg, hgl, hcap, hmx⟩ := own_blk15 hv h0
    have hH := holds_span15 hv rfl
    have hcon := AnyQ.slices_SortFunc spanLays 4 Tryd.isAgg23 Tryd.sizeOf23 spC (fun _ => rfl) spC_one15 riseN rise_swo15 10 #[] g 0 cap l.toArray w enters15 (fun _ _ _ _ x y => rising15 x y _) hH hgl (by rw [List.size_toArray]; omega)
    refine Calls.mono hcon fun e w' ⟨he, d, n, os, hp, hs, hw⟩ => ⟨he, d.toList, ?_⟩
    have hz : d.size = l.length := by have := hp.1; simpa using this
    have hperm : d.toList.Perm l := by
      have h1 := hp.2.2
      rw [List.size_toArray] at h1
      have e1 : d.extract 0 l.length = d := by rw [← hz]; exact Array.extract_size
      have e2 : l.toArray.extract 0 l.length = l.toArray := by
        have := Array.extract_size (xs := l.toArray)
        rwa [List.size_toArray] at this
      rw [e1, e2] at h1
      exact h1
    have hnd2 : (d.toList.map (·.v)).Nodup := (hperm.map _).nodup_iff.2 hnd
    have hpw : d.toList.Pairwise (fun a b => lt15 a b = true) := by
      rw [List.pairwise_iff_getElem]
      intro i j hi hj hij
      have hi' : i < d.size := by simpa using hi
      have hj' : j < d.size := by simpa using hj
      have t := hs i j (Nat.zero_le _) hij (by rw [List.size_toArray]; omega)
      rw [rise_lt15] at t
      have t := of_decide_eq_false t
      have ea : d[i]! = d.toList[i] := by rw [getElem!_pos d i hi']; simp
      have eb : d[j]! = d.toList[j] := by rw [getElem!_pos d j hj']; simp
      rw [ea, eb] at t
      rw [lt15_iff]
      have hne : d.toList[i].v ≠ d.toList[j].v := fun e => by
        have q := (List.getElem_inj (i := i) (j := j) (h₀ := by rw [List.length_map]; exact hi) (h₁ := by rw [List.length_map]; exact hj) hnd2).1 (by rw [List.getElem_map, List.getElem_map]; exact e)
        omega
      omega
    have hB : Below base w w' := by
      rw [hw]
      refine (Below.refl base w).grown (row := some g) ⟨rfl, rfl, rfl, ?_, fun k hk hne => ?_⟩ ?_ ?_
      · exact size_sortWorldK_c spC 4 w g 0 n d os
      · unfold sortWorldK
        rw [heap_grow_old _ _ (by simpa [putRowK, putRow, mapBlock, Sort.ahead] using hk)]
        have : g ≠ k := fun e => hne (by rw [e])
        simp [putRowK, putRow, mapBlock, Sort.ahead, Array.getElem?_modify, this]
      · omega
      · intro k hk; injection hk with hk; omega
    have hHd : HoldsK spC 4 w' g 0 d := by rw [hw]; exact holdsK_sortWorldK_c spC 4 w g 0 l.toArray d n os hH hgl hp.1
    have hgw : g < w'.heap.size := Nat.lt_of_lt_of_le hgl hB.size
    have hlen : d.toList.length = l.length := by simp [hz]
    refine ⟨hperm, hpw, ⟨some ⟨g, 0, none⟩, cap, by rw [hlen], by rw [hlen]; exact hcap, by simpa [maxLen] using hmx, fun _ => ⟨g, 0, rfl, ⟨hg, hgw⟩, fun k y hy => ?_⟩⟩, hB⟩
    obtain ⟨c0, c1, c2, c3⟩ := spans_at15 hHd hy
    rw [Nat.zero_add]
    exact ⟨⟨c0, c1, c2, c3⟩, hR y (hperm.mem_iff.1 (List.mem_of_getElem? hy))⟩
set_option maxRecDepth 100000 in
theorem sortedFunc15 (Bm b nn : Nat) (F : SpF15) (hF : ∀ v s, F v = some s → s.v = v ∧ i64R v ∧ i64R s.f ∧ i64R s.t) (w : World) (hm : w.cell? ⟨Bm, 0, none⟩ = some (.map (some b))) (hBm : Bm < w.heap.size) (hM : MpS15 w b nn F) (hnn : nn ≤ 1000000000) :
    Calls Tryd.prog 13 #[.func (.func 21) #[] #[.pointer (some ⟨Bm, 0, none⟩)], .func (.func 10) #[] #[]] w fun e w' => ∃ v sp, e = .returned v ∧ SpL15 F sp ∧ SpsV w' (fun b => w.heap.size ≤ b ∧ b < w'.heap.size) v sp ∧ Below w.heap.size w w' := by
  have HA := hide (collect15 Bm b nn F (fun v s h => ⟨(hF v s h).1, (hF v s h).2.1⟩) w hm hBm hM hnn)
  have HS := hide (fun (W : World) (v : Value) (xs : List SpV) (h1 : AllV15 F xs) (h2 : OwC spC 23 4 W w.heap.size v xs) (hlen : xs.length ≤ 1000000000) => (sort15 v xs w.heap.size W h2 hlen (fun s hs => by
    have h := hF s.v s ((h1.1 s).1 hs)
    exact ⟨h.2.1, h.2.2⟩) h1.2).mono (R' := fun e w' => e = .returned (.tuple #[]) ∧ ∃ d, SpL15 F d ∧ SpsV w' (fun b => w.heap.size ≤ b ∧ b < w'.heap.size) v d ∧ Below w.heap.size W w') (fun e w' ⟨h3, d, h4, h5, h6, h7⟩ => ⟨h3, d, ⟨fun s => (h4.mem_iff).trans (h1.1 s), h5⟩, h6, h7⟩))
  clear hm hM
  go_enter Tryd.func13, Tryd.ntmps13
  go_wp2_with (first
    | (go_at_call 20; (with_reducible refine (HS.out w1 v1 xs hx1 ho1 hl1).mono ?_); rintro e w2 ⟨rfl, d, h2, h3, h4⟩)
    | (go_at_call 19; (with_reducible refine HA.out.mono ?_); rintro e w1 ⟨v1, xs, rfl, hx1, ho1, hb1, hl1⟩))
  go_ret
  exact ⟨v1, d, rfl, h2, h3, hb1.trans h4⟩
end Go.Proofs.YteoopilmdlhkhaaDoor
