/- Layer 16: slices.SortFunc at []home, laid (lay-plain.mjs; the numbers by name); homes of the call's own in order. No condition but 1000 homes. -/
import Derived.Test.YtojobajeffipdaaPcQY
import Derived.Test.YtojobajeffipdaaProg
import Derived.Shelf.SlSortCmp.WholeK
import Derived.Shelf.SlSortCmp.NoneTotal
set_option linter.unusedSimpArgs false
set_option linter.unusedVariables false
namespace Go.Proofs.Ytojobajeffipdaa
open Go.Shelf Go.Sort Go.RowKit Go.Lib
def homeRen : Go.Shelf.Ren := ⟨fun | 6 => 23 | 15 => 33 | 14 => 32 | 28 => 45 | 29 => 46 | 20 => 37 | 21 => 38 | 22 => 39 | 23 => 40 | 24 => 41 | 25 => 42 | 26 => 43 | 27 => 44 | 46 => 47 | 47 => 48 | 48 => 49 | 49 => 50 | 50 => 51 | 57 => 52 | n => n, fun | 22 => 49 | 24 => 53 | 25 => 56 | 3 => 3 | 39 => 62 | 0 => 0 | 53 => 73 | 55 => 75 | 4 => 4 | 46 => 66 | 45 => 65 | 50 => 70 | 5 => 5 | 9 => 9 | 66 => 76 | 70 => 80 | 76 => 82 | 77 => 83 | n => n, fun | n => n⟩
theorem homeLays : Go.Proofs.SlLaysF0.n6 Try.prog homeRen := {
  mixed := by kernel_rfl
  f6 := ⟨Try.f23.name, by decide, Try.func23.trans (congrArg some (by kernel_rfl))⟩
  f14 := ⟨Try.f32.name, by decide, Try.func32.trans (congrArg some (by kernel_rfl))⟩
  f15 := Try.func33.trans (congrArg some (by kernel_rfl))
  f20 := ⟨Try.f37.name, by decide, Try.func37.trans (congrArg some (by kernel_rfl))⟩
  f21 := ⟨Try.f38.name, by decide, Try.func38.trans (congrArg some (by kernel_rfl))⟩
  f22 := ⟨Try.f39.name, by decide, Try.func39.trans (congrArg some (by kernel_rfl))⟩
  f23 := ⟨Try.f40.name, by decide, Try.func40.trans (congrArg some (by kernel_rfl))⟩
  f24 := ⟨Try.f41.name, by decide, Try.func41.trans (congrArg some (by kernel_rfl))⟩
  f25 := ⟨Try.f42.name, by decide, Try.func42.trans (congrArg some (by kernel_rfl))⟩
  f26 := ⟨Try.f43.name, by decide, Try.func43.trans (congrArg some (by kernel_rfl))⟩
  f27 := ⟨Try.f44.name, by decide, Try.func44.trans (congrArg some (by kernel_rfl))⟩
  f28 := Try.func45.trans (congrArg some (by kernel_rfl))
  f29 := Try.func46.trans (congrArg some (by kernel_rfl))
  f46 := ⟨Try.f47.name, by decide, Try.func47.trans (congrArg some (by kernel_rfl))⟩
  f47 := Try.func48.trans (congrArg some (by kernel_rfl))
  f48 := Try.func49.trans (congrArg some (by kernel_rfl))
  f49 := ⟨Try.f50.name, by decide, Try.func50.trans (congrArg some (by kernel_rfl))⟩
  f50 := ⟨Try.f51.name, by decide, Try.func51.trans (congrArg some (by kernel_rfl))⟩
  f57 := ⟨Try.f52.name, by decide, Try.func52.trans (congrArg some (by kernel_rfl))⟩
  t0 := Try.underlying0
  a0 := Try.isAgg0
  z0 := Try.sizeOf0
  v0 := Try.zeroValue0
  t3 := Try.underlying3
  a3 := Try.isAgg3
  z3 := Try.sizeOf3
  v3 := Try.zeroValue3
  t4 := Try.underlying4
  a4 := Try.isAgg4
  z4 := Try.sizeOf4
  v4 := Try.zeroValue4
  t5 := Try.underlying5
  a5 := Try.isAgg5
  z5 := Try.sizeOf5
  v5 := Try.zeroValue5
  t9 := Try.underlying9
  a9 := Try.isAgg9
  z9 := Try.sizeOf9
  v9 := Try.zeroValue9
  t22 := Try.underlying49
  a22 := Try.isAgg49
  z22 := Try.sizeOf49
  v22 := Try.zeroValue49
  t25 := Try.underlying56
  a25 := Try.isAgg56
  z25 := Try.sizeOf56
  v25 := Try.zeroValue56
  t39 := Try.underlying62
  a39 := Try.isAgg62
  z39 := Try.sizeOf62
  v39 := Try.zeroValue62
  t45 := Try.underlying65
  a45 := Try.isAgg65
  z45 := Try.sizeOf65
  v45 := Try.zeroValue65
  t46 := Try.underlying66
  a46 := Try.isAgg66
  z46 := Try.sizeOf66
  v46 := Try.zeroValue66
  t50 := Try.underlying70
  a50 := Try.isAgg70
  z50 := Try.sizeOf70
  v50 := Try.zeroValue70
  t53 := Try.underlying73
  a53 := Try.isAgg73
  z53 := Try.sizeOf73
  v53 := Try.zeroValue73
  t55 := Try.underlying75
  a55 := Try.isAgg75
  z55 := Try.sizeOf75
  v55 := Try.zeroValue75
  t66 := Try.underlying76
  a66 := Try.isAgg76
  z66 := Try.sizeOf76
  v66 := Try.zeroValue76
  t70 := Try.underlying80
  a70 := Try.isAgg80
  z70 := Try.sizeOf80
  v70 := Try.zeroValue80
  t76 := Try.underlying82
  a76 := Try.isAgg82
  z76 := Try.sizeOf82
  v76 := Try.zeroValue82
  t77 := Try.underlying83
  a77 := Try.isAgg83
  z77 := Try.sizeOf83
  v77 := Try.zeroValue83 }
theorem own_blk16 {β : Type} {c : β → List Value} {T : TypeId} {sz : Nat} {w : World} {base : Nat} {v : Value} {l : List β} (h : OwC c T sz w base v l) (hl : 0 < l.length) : ∃ g cap, v = .slice (some ⟨g, 0, none⟩) l.length cap ∧ base ≤ g ∧ g < w.heap.size ∧ l.length ≤ cap ∧ cap ≤ maxLen := by
  rcases h.2 with ⟨rfl, e⟩ | ⟨g, cap, cur, rfl, hg, hh, hnc, hcm, -⟩
  · omega
  · exact ⟨g, cap, rfl, hg, (Array.getElem?_eq_some_iff.1 hh).1, hnc, hcm⟩
theorem own_at16 {β : Type} {c : β → List Value} {T : TypeId} {sz : Nat} {w : World} {base : Nat} {l : List β} {g cap n : Nat} (h : OwC c T sz w base (.slice (some ⟨g, 0, none⟩) n cap) l) (hn : l.length = n) (hc : ∀ y, (c y).length = sz) {j i : Nat} {y : β} (hj : l[j]? = some y) (hi : i < sz) : w.cell? ⟨g, j * sz + i, none⟩ = (c y)[i]? ∧ w.frozen? ⟨g, j * sz + i, none⟩ = false := by
  subst hn
  have hjl := (List.getElem?_eq_some_iff.1 hj).1
  have hlt : j * sz + i < l.length * sz := by
    have : (j + 1) * sz ≤ l.length * sz := Nat.mul_le_mul_right _ (by omega)
    rw [Nat.succ_mul] at this
    omega
  exact ⟨by rw [World.ownsRow.cellAt h _ hlt, flat_at l j i y (fun y _ => hc y) hj hi], World.ownsRow.frozenAt h _⟩
theorem home_at (l : List HomeV) (i : Nat) (h : i < l.length) : l[i]? = some (l.toArray[i]!) := by
  rw [getElem!_pos l.toArray i (by simpa using h)]
  simp [h]
theorem home_cell (p : HomeV) (j : Nat) (h : j < 6) : (homeC p)[j]? = some ((homeC p)[j]!) := by
  rw [getElem!_pos (homeC p) j (by simpa [homeC] using h), List.getElem?_eq_getElem (by simpa [homeC] using h)]
theorem holds_home {w : World} {base g cap n : Nat} {l : List HomeV} (h : OwC homeC 53 6 w base (.slice (some ⟨g, 0, none⟩) n cap) l) (hn : l.length = n) : HoldsK homeC 6 w g 0 l.toArray := by
  intro t ht
  rw [size_flatK, List.size_toArray] at ht
  have hj : t / 6 < l.length := Nat.div_lt_of_lt_mul (by omega)
  have hi : t % 6 < 6 := Nat.mod_lt _ (by omega)
  have e := own_at16 h hn (fun y => rfl) (home_at l (t / 6) hj) hi
  show w.cell? ⟨g, 0 + t, none⟩ = some ((flatK homeC 6 l.toArray)[t]!) ∧ w.frozen? ⟨g, 0 + t, none⟩ = false
  rw [get_flatK _ _ _ t (by rw [List.size_toArray]; exact ht), Nat.zero_add, ← home_cell _ _ hi]
  have et : t / 6 * 6 + t % 6 = t := by omega
  rw [et] at e
  exact e
/-- Six cells a home, at every later world. -/
def HomesAt (w : World) (g : Nat) (d : List HomeV) : Prop := g < w.heap.size ∧ ∀ (W : World), Below w.heap.size w W → ∀ (i : Nat) (y : HomeV), d[i]? = some y → W.cell? ⟨g, i * 6, none⟩ = some (.int .i64 y.1.v) ∧ W.cell? ⟨g, i * 6 + 1, none⟩ = some (.int .i64 y.1.f) ∧ W.cell? ⟨g, i * 6 + 2, none⟩ = some (.int .i64 y.1.t) ∧ W.cell? ⟨g, i * 6 + 3, none⟩ = some (.bool y.1.c) ∧ W.cell? ⟨g, i * 6 + 4, none⟩ = some (.int .i64 y.2.k) ∧ W.cell? ⟨g, i * 6 + 5, none⟩ = some (.int .i64 y.2.n)
theorem HomesAt.of {w : World} {g : Nat} {d : Array HomeV} (hg : g < w.heap.size) (h : HoldsK homeC 6 w g 0 d) : HomesAt w g d.toList := by
  refine ⟨hg, fun W hW i y hy => ?_⟩
  have hi : i < d.size := by have := (List.getElem?_eq_some_iff.1 hy).1; simpa using this
  have e : d[i]! = y := by
    rw [getElem!_pos d i hi]
    have := (List.getElem?_eq_some_iff.1 hy).2
    simpa using this
  have c : ∀ k, k < 6 → W.cell? ⟨g, i * 6 + k, none⟩ = some (homeC y)[k]! := fun k hk => by
    have t := (h.cell hi hk).1
    rw [e, Nat.zero_add] at t
    rw [hW.cell (p := ⟨g, i * 6 + k, none⟩) hg]
    exact t
  exact ⟨c 0 (by omega), c 1 (by omega), c 2 (by omega), c 3 (by omega), c 4 (by omega), c 5 (by omega)⟩
theorem cf_neg (a b : HomeV) : ltOf cfH a b = decide (a.2.k < b.2.k ∨ (a.2.k = b.2.k ∧ (a.2.n < b.2.n ∨ (a.2.n = b.2.n ∧ (a.1.f < b.1.f ∨ (a.1.f = b.1.f ∧ a.1.v < b.1.v)))))) := by
  unfold ltOf
  exact decide_eq_decide.2 (cfH_neg a b)
theorem cfH_swo : SWO (ltOf cfH) where
  irrefl x := by rw [cf_neg]; simp
  trans x y z h1 h2 := by rw [cf_neg] at *; simp at *; omega
  ntrans x y z h1 h2 := by rw [cf_neg] at *; simp at *; omega
theorem enters_clash1 (args : Array Value) (w : World) : (callFunc 24 args).run Try.prog w = .ok (.enter 24 args) w := enters_of Try.func24 (by kernel_rfl) rfl args w
set_option maxRecDepth 100000 in
theorem sortH_any (v : Value) (l : List HomeV) (base : Nat) (w : World) (hv : OwC homeC 53 6 w base v l) (hn : l.length ≤ 1000) :
    Calls Try.prog 23 #[v, .func (.func 24) #[] #[]] w fun e w' => e = .returned (.tuple #[]) ∧ ∃ d : List HomeV, d.Perm l ∧ (∀ (i j : Nat) (a b : HomeV), i < j → d[i]? = some a → d[j]? = some b → ¬ cfH b a < 0) ∧ Below base w w' ∧ (0 < l.length → ∃ g cap, v = .slice (some ⟨g, 0, none⟩) l.length cap ∧ l.length ≤ cap ∧ HomesAt w' g d) := by
  rcases Nat.eq_zero_or_pos l.length with h0 | h0
  · obtain ⟨A, cap, hA, -, -⟩ := hv.sl
    have hl := List.length_eq_zero_iff.1 h0
    subst hl
    subst hA
    refine (AnyF.slices_SortFunc_none homeLays A cap _ w).mono fun e w' ⟨he, hw⟩ => ⟨he, [], .nil, fun i j a b _ ha => by simp at ha, by rw [hw]; exact Below.refl _ _, fun h => absurd h (by simp)⟩
  · obtain ⟨g, cap, rfl, hg, hgl, hcap, hmx⟩ := own_blk16 hv h0
    have hH := holds_home hv rfl
    have hcon := AnyQ.slices_SortFunc homeLays 6 Try.isAgg53 Try.sizeOf53 homeC (fun _ => rfl) homeC_one cfH cfH_swo 24 #[] g 0 cap l.toArray w enters_clash1 (fun _ _ _ _ x y => qclash1_any x y _) hH hgl (by rw [List.size_toArray]; omega)
    refine Calls.mono hcon fun e w' ⟨he, d, n, os, hp, hs, hw⟩ => ⟨he, d.toList, ?_, ?_, ?_, fun _ => ⟨g, cap, rfl, hcap, ?_⟩⟩
    · have h1 := hp.2.2
      have hz : d.size = l.length := by have := hp.1; simpa using this
      rw [List.size_toArray] at h1
      have e1 : d.extract 0 l.length = d := by rw [← hz]; exact Array.extract_size
      have e2 : l.toArray.extract 0 l.length = l.toArray := by
        have := Array.extract_size (xs := l.toArray)
        rwa [List.size_toArray] at this
      rw [e1, e2] at h1
      exact h1
    · intro i j a b hij ha hb
      have hz : d.size = l.length := by have := hp.1; simpa using this
      have hi : i < d.size := by have := (List.getElem?_eq_some_iff.1 ha).1; simpa using this
      have hj : j < d.size := by have := (List.getElem?_eq_some_iff.1 hb).1; simpa using this
      have t := hs i j (Nat.zero_le _) hij (by rw [List.size_toArray]; omega)
      have ea : d[i]! = a := by
        rw [getElem!_pos d i hi]
        have := (List.getElem?_eq_some_iff.1 ha).2
        simpa using this
      have eb : d[j]! = b := by
        rw [getElem!_pos d j hj]
        have := (List.getElem?_eq_some_iff.1 hb).2
        simpa using this
      rw [ea, eb] at t
      unfold ltOf at t
      exact of_decide_eq_false t
    · rw [hw]
      refine (Below.refl base w).grown (row := some g) ⟨rfl, rfl, rfl, ?_, fun k hk hne => ?_⟩ ?_ ?_
      · exact size_sortWorldK_c homeC 6 w g 0 n d os
      · unfold sortWorldK
        rw [heap_grow_old _ _ (by simpa [putRowK, putRow, mapBlock, Sort.ahead] using hk)]
        have : g ≠ k := fun e => hne (by rw [e])
        simp [putRowK, putRow, mapBlock, Sort.ahead, Array.getElem?_modify, this]
      · omega
      · intro k hk; injection hk with hk; omega
    · rw [hw]
      exact HomesAt.of (Nat.lt_of_lt_of_le hgl (size_sortWorldK_c homeC 6 w g 0 n d os)) (holdsK_sortWorldK_c homeC 6 w g 0 l.toArray d n os hH hgl hp.1)
end Go.Proofs.Ytojobajeffipdaa
