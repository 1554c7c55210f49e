/- Layer 9, the reference: Store, Link. No condition but on lengths. -/
import Derived.Test.YtjlndibeaklcdaaHCp
set_option linter.unusedSimpArgs false
set_option linter.unusedVariables false
namespace Go.Proofs.Ytjlndibeaklcdaa
open Go.RowKit

theorem rng_set {l : List Int} {j : Nat} {y : Int} (h : ∀ z ∈ l, i64R z) (hy : i64R y) : ∀ z ∈ l.set j y, i64R z := fun z hz => by
  rcases List.mem_or_eq_of_mem_set hz with h1 | rfl
  · exact h z h1
  · exact hy
theorem flat_same {l : List ObjT} {k : Nat} {p p' : ObjT} (hp : l[k]? = some p) (he : objC p' = objC p) : (l.set k p').flatMap objC = l.flatMap objC := by
  induction l generalizing k with
  | nil => simp at hp
  | cons a l ih =>
    cases k with
    | zero =>
      have e : a = p := by simpa using hp
      subst e
      simp [he]
    | succ k =>
      rw [List.set_cons_succ, List.flatMap_cons, List.flatMap_cons, ih (by simpa using hp)]
theorem pair_apart {L : List Value} (h : L.Pairwise (fun a b => ∀ g, a.ownBlock = some g → b.ownBlock ≠ some g)) {i j g : Nat} {a b : Value} (hi : L[i]? = some a) (hj : L[j]? = some b) (hij : i ≠ j) (ha : a.ownBlock = some g) : b.ownBlock ≠ some g := by
  obtain ⟨hi1, rfl⟩ := List.getElem?_eq_some_iff.1 hi
  obtain ⟨hj1, rfl⟩ := List.getElem?_eq_some_iff.1 hj
  rw [List.pairwise_iff_getElem] at h
  rcases Nat.lt_or_gt_of_ne hij with hl | hl
  · exact h i j hi1 hj1 hl g ha
  · intro hb
    exact h j i hj1 hi1 hl g hb ha
theorem rows_open {w : World} {base k : Nat} {v : Value} {l : List ObjT} {h : List ObjV} {o : ObjV} (how : OwC objC 43 2 w base v l) (hl : l.map (·.1) = h) (ho : h[k]? = some o) :
    ∃ g cap v1 v2, v = .slice (some ⟨g, 0, none⟩) h.length cap ∧ base ≤ g ∧ g < w.heap.size ∧ l[k]? = some (o, v1, v2) ∧ w.cell? ⟨g, k * 2, none⟩ = some v1 ∧ w.cell? ⟨g, k * 2 + 1, none⟩ = some v2 := by
  have hlen : l.length = h.length := by rw [← hl, List.length_map]
  have hk : k < l.length := by rw [hlen]; exact (List.getElem?_eq_some_iff.1 ho).1
  obtain ⟨g, cap, rfl, hg, hlt, -, -, -⟩ := how.form (by omega)
  obtain ⟨⟨o', v1, v2⟩, hp⟩ : ∃ p, l[k]? = some p := ⟨_, List.getElem?_eq_getElem hk⟩
  have he : o' = o := by
    have t := ho
    rw [← hl, List.getElem?_map, hp] at t
    exact Option.some.inj t
  subst he
  have h' : w.ownsRow base 43 2 (.slice (some ⟨g, 0, none⟩) l.length cap) l.length (l.flatMap objC) := how
  refine ⟨g, cap, v1, v2, by rw [hlen], hg, hlt, hp, ?_, ?_⟩
  · rw [World.ownsRow.cellAt h' _ (by omega), show k * 2 = k * 2 + 0 by omega, objC_at hp (by omega)]
    rfl
  · rw [World.ownsRow.cellAt h' _ (by omega), objC_at hp (by omega)]
    rfl
theorem rows_putI {w : World} {base k g n cap j : Nat} {v v1 v2 : Value} {l : List ObjT} {o : ObjV} {y : Int} (how : OwC objC 43 2 w base v l) (hrw : RowsW w base l) (hp : l[k]? = some (o, v1, v2)) (hv : v2 = .slice (some ⟨g, 0, none⟩) n cap) :
    OwC objC 43 2 (w.setCell ⟨g, j, none⟩ (.int .i64 y)) base v (l.set k (⟨o.refs, o.ints.set j y⟩, v1, v2)) ∧ RowsW (w.setCell ⟨g, j, none⟩ (.int .i64 y)) base (l.set k (⟨o.refs, o.ints.set j y⟩, v1, v2)) := by
  have hfl : (l.set k ((⟨o.refs, o.ints.set j y⟩, v1, v2) : ObjT)).flatMap objC = l.flatMap objC := flat_same hp rfl
  have hrow := hrw.1 _ (List.mem_of_getElem? hp)
  have hown : v2.ownBlock = some g := by rw [hv]; rfl
  have hti : TB w 3 g := by
    obtain ⟨-, -, cc, h3⟩ := hrow.2.row' g hown
    exact ⟨cc, _, h3⟩
  have hat : (l.flatMap objC)[k * 2 + 1]? = some v2 := by rw [objC_at hp (by omega)]; rfl
  have hoth : ∀ g', g' ≠ g → (w.setCell ⟨g, j, none⟩ (.int .i64 y)).heap[g']? = w.heap[g']? := fun g' hg => heap_setCell_other w ⟨g, j, none⟩ g' _ hg
  have hfar : ∀ (i c' : Nat) (u : Value), (l.flatMap objC)[i * 2 + c']? = some u → i * 2 + c' ≠ k * 2 + 1 → u.ownBlock ≠ some g := fun i c' u hu hne => pair_apart hrw.2 hat hu (Ne.symm hne) hown
  constructor
  · unfold OwC
    rw [hfl, List.length_set]
    exact OwC.kept how fun g' hg => hoth g' fun e => by
      subst e
      exact absurd ((how.row _ hg).one hti) (by decide)
  · refine ⟨fun p hpm => ?_, by rw [hfl]; exact hrw.2⟩
    obtain ⟨i, hi⟩ := List.mem_iff_getElem?.1 hpm
    have hil : i < l.length := by have := (List.getElem?_eq_some_iff.1 hi).1; rwa [List.length_set] at this
    rw [List.getElem?_set] at hi
    by_cases hik : k = i
    · subst hik
      rw [if_pos rfl, if_pos hil] at hi
      obtain rfl := Option.some.inj hi
      have hk1 : Ow (w.setCell ⟨g, j, none⟩ (.int .i64 y)) base 3 .i64 v1 o.refs := hrow.1.kept' fun g' hg => hoth g' fun e => by
        subst e
        exact hfar k 0 v1 (by rw [objC_at hp (by omega)]; rfl) (by omega) hg
      have hk2 : Ow (w.setCell ⟨g, j, none⟩ (.int .i64 y)) base 3 .i64 v2 (o.ints.set j y) := by
        have t := hrow.2
        rw [show ((o, v1, v2) : ObjT).2.2 = .slice (some ⟨g, 0, none⟩) n cap from hv] at t
        rw [hv]
        exact t.put
      exact ⟨hk1, hk2⟩
    · rw [if_neg hik] at hi
      have hpi := hrw.1 p (List.mem_of_getElem? hi)
      exact ⟨hpi.1.kept' fun g' hg => hoth g' fun e => by subst e; exact hfar i 0 p.2.1 (by rw [objC_at hi (by omega)]; rfl) (by omega) hg,
        hpi.2.kept' fun g' hg => hoth g' fun e => by subst e; exact hfar i 1 p.2.2 (by rw [objC_at hi (by omega)]; rfl) (by omega) hg⟩
theorem rows_putR {w : World} {base k g n cap j : Nat} {v v1 v2 : Value} {l : List ObjT} {o : ObjV} {y : Int} (how : OwC objC 43 2 w base v l) (hrw : RowsW w base l) (hp : l[k]? = some (o, v1, v2)) (hv : v1 = .slice (some ⟨g, 0, none⟩) n cap) :
    OwC objC 43 2 (w.setCell ⟨g, j, none⟩ (.int .i64 y)) base v (l.set k (⟨o.refs.set j y, o.ints⟩, v1, v2)) ∧ RowsW (w.setCell ⟨g, j, none⟩ (.int .i64 y)) base (l.set k (⟨o.refs.set j y, o.ints⟩, v1, v2)) := by
  have hfl : (l.set k ((⟨o.refs.set j y, o.ints⟩, v1, v2) : ObjT)).flatMap objC = l.flatMap objC := flat_same hp rfl
  have hrow := hrw.1 _ (List.mem_of_getElem? hp)
  have hown : v1.ownBlock = some g := by rw [hv]; rfl
  have hti : TB w 3 g := by
    obtain ⟨-, -, cc, h3⟩ := hrow.1.row' g hown
    exact ⟨cc, _, h3⟩
  have hat : (l.flatMap objC)[k * 2 + 0]? = some v1 := by rw [objC_at hp (by omega)]; rfl
  have hoth : ∀ g', g' ≠ g → (w.setCell ⟨g, j, none⟩ (.int .i64 y)).heap[g']? = w.heap[g']? := fun g' hg => heap_setCell_other w ⟨g, j, none⟩ g' _ hg
  have hfar : ∀ (i c' : Nat) (u : Value), (l.flatMap objC)[i * 2 + c']? = some u → i * 2 + c' ≠ k * 2 + 0 → u.ownBlock ≠ some g := fun i c' u hu hne => pair_apart hrw.2 hat hu (Ne.symm hne) hown
  constructor
  · unfold OwC
    rw [hfl, List.length_set]
    exact OwC.kept how fun g' hg => hoth g' fun e => by
      subst e
      exact absurd ((how.row _ hg).one hti) (by decide)
  · refine ⟨fun p hpm => ?_, by rw [hfl]; exact hrw.2⟩
    obtain ⟨i, hi⟩ := List.mem_iff_getElem?.1 hpm
    have hil : i < l.length := by have := (List.getElem?_eq_some_iff.1 hi).1; rwa [List.length_set] at this
    rw [List.getElem?_set] at hi
    by_cases hik : k = i
    · subst hik
      rw [if_pos rfl, if_pos hil] at hi
      obtain rfl := Option.some.inj hi
      have hk1 : Ow (w.setCell ⟨g, j, none⟩ (.int .i64 y)) base 3 .i64 v2 o.ints := hrow.2.kept' fun g' hg => hoth g' fun e => by
        subst e
        exact hfar k 1 v2 (by rw [objC_at hp (by omega)]; rfl) (by omega) hg
      have hk2 : Ow (w.setCell ⟨g, j, none⟩ (.int .i64 y)) base 3 .i64 v1 (o.refs.set j y) := by
        have t := hrow.1
        rw [show ((o, v1, v2) : ObjT).2.1 = .slice (some ⟨g, 0, none⟩) n cap from hv] at t
        rw [hv]
        exact t.put
      exact ⟨hk2, hk1⟩
    · rw [if_neg hik] at hi
      have hpi := hrw.1 p (List.mem_of_getElem? hi)
      exact ⟨hpi.1.kept' fun g' hg => hoth g' fun e => by subst e; exact hfar i 0 p.2.1 (by rw [objC_at hi (by omega)]; rfl) (by omega) hg,
        hpi.2.kept' fun g' hg => hoth g' fun e => by subst e; exact hfar i 1 p.2.2 (by rw [objC_at hi (by omega)]; rfl) (by omega) hg⟩
set_option maxHeartbeats 2000000 in
set_option maxRecDepth 100000 in
theorem rstore_any (vh : Value) (h : List ObjV) (obj n y : Int) (hy : i64R y) (w : World) (B : Nat) (hB : B ≤ w.heap.size) (hh : ObjsV w (· < B) vh h) (hsm : small9 h) :
    Calls Try.prog 17 #[.agg #[vh], .int .i64 obj, .int .i64 n, .int .i64 y] w fun e w' => ∃ vh', e = .returned (.tuple #[.agg #[vh'], .int .i64 (((storeR h obj n y).2 : Nat) : Int)]) ∧ ObjsV w' (· < w'.heap.size) vh' (storeR h obj n y).1 ∧ Below w.heap.size w w' := by
  have HSELF := hide (fun (W : World) (hW : Below w.heap.size w W) => hh.keep (S' := (· < W.heap.size)) (up hW hB) (fun b hb => by have := hW.size; omega))
  have HLD := hide (fun (W : World) (hW : Below w.heap.size w W) => rload_any vh h obj n W B (by have := hW.size; omega) (hh.keep (up hW hB) (fun _ h => h)) (by have := hsm.1; omega))
  have HCP := hide (fun (W : World) (hW : Below w.heap.size w W) => rcopy_any vh h W B (by have := hW.size; omega) (hh.keep (up hW hB) (fun _ h => h)) hsm)
  have HRG := hide hh.rng
  have hn300 := hsm.1
  by_cases ha : (loadR h obj n).2 = 0
  case neg =>
    have hv : storeR h obj n y = (h, (loadR h obj n).2) := by unfold storeR; rw [if_neg ha]
    rw [hv]
    obtain ⟨Ao, c, rfl, hc, hm⟩ := hh.open'
    have hE : ((((loadR h obj n).2 : Nat) : Int) != 0) = true := by simpa using ha
    generalize h.length = hl at *
    generalize (((loadR h obj n).2 : Nat) : Int) = E at *
    generalize (loadR h obj n).1 = LV at *
    clear hh ha hv HCP
    go_enter Try.func17, Try.ntmps17
    go_upto_region 1 with (fail)
    obtain ⟨w1, hw1⟩ : ∃ w1, w1 = (w.alloc (.cells #[.slice Ao hl c] 24)).alloc (.cells #[.slice none 0 0] 24) := ⟨_, rfl⟩
    obtain ⟨h5, hh5⟩ : ∃ h5, w.heap.size = h5 := ⟨_, rfl⟩
    have HX0 := hide (show Box w1 (h5) #[.slice Ao hl c] 24 by rw [hw1, ← hh5]; have t := Box.new w #[.slice Ao hl c] 24; (try simp only [World.size_alloc] at t); exact (t.alloc _))
    have HX1 := hide (show Box w1 (h5 + 1) #[.slice none 0 0] 24 by rw [hw1, ← hh5]; have t := Box.new (w.alloc (.cells #[.slice Ao hl c] 24)) #[.slice none 0 0] 24; (try simp only [World.size_alloc] at t); exact t)
    have HB1 := hide (show Below w.heap.size w w1 by rw [hw1]; exact (((Below.refl _ _).alloc (Nat.le_refl _) _).alloc (by simp only [World.size_alloc]; omega) _))
    have w1s := HB1.out.size
    have w1z := hide (show w1.heap.size = h5 + 1 + 1 by rw [hw1, ← hh5]; simp only [World.size_alloc])
    have HK0 := hide (fun (W : World) (hW : Below w1.heap.size w1 W) => ((HX0.out.below hW).cell 0 (v := .slice Ao hl c) rfl).1)
    have lHX0 := HX0.out.lt
    have HK1 := hide (fun (W : World) (hW : Below w1.heap.size w1 W) => ((HX1.out.below hW).cell 0 (v := .slice none 0 0) rfl).1)
    have lHX1 := HX1.out.lt
    have h5g : w.heap.size ≤ h5 := by omega
    rw [← hw1, hh5]
    clear hw1 hh5
    have p0 := HK0.out w1 (Below.refl _ _)
    go_wp2_with (go_at_call 21; (with_reducible refine (HLD.out w1 HB1.out).mono ?_); rintro e w2 ⟨rfl, hb2⟩; have HB2 := hide (HB1.out.trans (hb2.mono HB1.out.size)); have HC2 := hide hb2; have l2 := hb2.size; have p2 := HK0.out w2 hb2; obtain ⟨z0, f0⟩ := (HX1.out.below HC2.out).cell 0 (v := .slice none 0 0) rfl; clear hb2 p0)
    have HZ := hide ((HX1.out.below HC2.out).set 0 (.slice Ao hl c))
    have q0 := (HZ.out.cell 0 (v := .slice Ao hl c) rfl).1
    have hbz : Below w.heap.size w (w2.setCell ⟨h5 + 1, 0, none⟩ (.slice Ao hl c)) := (HB1.out.trans (HC2.out.mono HB1.out.size)).setCell (p := ⟨h5 + 1, 0, none⟩) (by show w.heap.size ≤ h5 + 1; omega) _
    refine bodyPost_ret (v := .tuple #[.agg #[.slice Ao hl c], .int .i64 E]) (by simp [results, Try.results17, go_sem, q0]) rfl ⟨_, rfl, HSELF.out _ hbz, hbz⟩
  have hv : storeR h obj n y = (putN h obj n y, 0) := by unfold storeR; rw [if_pos ha]
  rw [hv]
  clear hv
  obtain ⟨hat, hn0, hn1⟩ := loadR_ok.1 ha
  obtain ⟨-, ho1, ho2⟩ := atN_zero.1 hat
  obtain ⟨k, rfl⟩ : ∃ k : Nat, obj = (k : Int) + 1 := ⟨(obj - 1).toNat, by omega⟩
  obtain ⟨j, rfl⟩ : ∃ j : Nat, n = (j : Int) := ⟨n.toNat, by omega⟩
  have hget := objO_get ho1 ho2
  rw [show ((k : Int) + 1 - 1).toNat = k by omega] at hget
  have hPN : putN h ((k : Int) + 1) (j : Int) y = h.set k ⟨(objO h ((k : Int) + 1)).refs, (objO h ((k : Int) + 1)).ints.set j y⟩ := by
    unfold putN
    rw [show ((k : Int) + 1 - 1).toNat = k by omega, Int.toNat_natCast]
  rw [hPN]
  rw [ha] at HLD
  have HGT := hide hget
  generalize objO h ((k : Int) + 1) = o at *
  generalize (loadR h ((k : Int) + 1) (j : Int)).1 = LV at *
  obtain ⟨Ao, c, rfl, hc, hm⟩ := hh.open'
  obtain ⟨hl, hhl⟩ : ∃ hl, h.length = hl := ⟨_, rfl⟩
  have HHL := hide hhl
  have hkl0 : k < hl := by omega
  rw [hhl] at HLD HCP hn300
  rw [hhl]
  have HJ := hide (show j < o.ints.length by omega)
  have HY := hide hy
  clear hh ha hat ho1 ho2 hget hPN hhl hn0 hn1 HSELF hsm hy
  go_enter Try.func17, Try.ntmps17
  go_upto_region 1 with (fail)
  obtain ⟨w1, hw1⟩ : ∃ w1, w1 = (w.alloc (.cells #[.slice Ao hl c] 24)).alloc (.cells #[.slice none 0 0] 24) := ⟨_, rfl⟩
  obtain ⟨h5, hh5⟩ : ∃ h5, w.heap.size = h5 := ⟨_, rfl⟩
  have HX0 := hide (show Box w1 (h5) #[.slice Ao hl c] 24 by rw [hw1, ← hh5]; have t := Box.new w #[.slice Ao hl c] 24; (try simp only [World.size_alloc] at t); exact (t.alloc _))
  have HX1 := hide (show Box w1 (h5 + 1) #[.slice none 0 0] 24 by rw [hw1, ← hh5]; have t := Box.new (w.alloc (.cells #[.slice Ao hl c] 24)) #[.slice none 0 0] 24; (try simp only [World.size_alloc] at t); exact t)
  have HB1 := hide (show Below w.heap.size w w1 by rw [hw1]; exact (((Below.refl _ _).alloc (Nat.le_refl _) _).alloc (by simp only [World.size_alloc]; omega) _))
  have w1s := HB1.out.size
  have w1z := hide (show w1.heap.size = h5 + 1 + 1 by rw [hw1, ← hh5]; simp only [World.size_alloc])
  have HK0 := hide (fun (W : World) (hW : Below w1.heap.size w1 W) => ((HX0.out.below hW).cell 0 (v := .slice Ao hl c) rfl).1)
  have lHX0 := HX0.out.lt
  have HK1 := hide (fun (W : World) (hW : Below w1.heap.size w1 W) => ((HX1.out.below hW).cell 0 (v := .slice none 0 0) rfl).1)
  have lHX1 := HX1.out.lt
  have h5g : w.heap.size ≤ h5 := by omega
  rw [← hw1, hh5]
  clear hw1 hh5
  have p0 := HK0.out w1 (Below.refl _ _)
  go_upto_region 5 with (first
    | (go_at_call 7; (with_reducible refine (HCP.out w2 HB2.out).mono ?_); rintro e w3 ⟨vc, l, rfl, how, hlm, hrw, hb3⟩; have HOW := hide how; have HLM := hide hlm; have HRW := hide hrw; have HC3 := hide (HC2.out.trans (hb3.mono HC2.out.size)); have HD3 := hide hb3; have l3 := hb3.size; clear how hlm hrw hb3; obtain ⟨gv, cv, v1, v2, rfl, hg1, hg2, hlk, hc1, hc2⟩ := rows_open HOW.out HLM.out HGT.out; rw [HHL.out])
    | (go_at_call 21; (with_reducible refine (HLD.out w1 HB1.out).mono ?_); rintro e w2 ⟨rfl, hb2⟩; have HB2 := hide (HB1.out.trans (hb2.mono HB1.out.size)); have HC2 := hide hb2; have l2 := hb2.size; have p2 := HK0.out w2 hb2; obtain ⟨z0, f0⟩ := (HX1.out.below HC2.out).cell 0 (v := .slice none 0 0) rfl; clear hb2 p0))
  have HLK := hide hlk
  have hrk := HRW.out.1 _ (List.mem_of_getElem? hlk)
  obtain ⟨gi, ci, hvi, hgi, hgi2, hci1, hci2, hcell⟩ := hrk.2.form (show 0 < o.ints.length by have := HJ.out; omega)
  have HVI := hide (show v2 = .slice (some ⟨gi, 0, none⟩) o.ints.length ci from hvi)
  obtain ⟨d1, d2⟩ := hcell j HJ.out
  rw [HVI.out] at hc2
  clear hrk hvi hcell hlk
  obtain ⟨w4, hw4⟩ : ∃ w4, w4 = w3.alloc (.cells #[.slice (some ⟨gv, 0, none⟩) hl cv] 24) := ⟨_, rfl⟩
  obtain ⟨h6, hh6⟩ : ∃ h6, w3.heap.size = h6 := ⟨_, rfl⟩
  have HFX0 := hide (show Box w4 (h6) #[.slice (some ⟨gv, 0, none⟩) hl cv] 24 by rw [hw4, ← hh6]; have t := Box.new w3 #[.slice (some ⟨gv, 0, none⟩) hl cv] 24; (try simp only [World.size_alloc] at t); exact t)
  have HB4 := hide (show Below w3.heap.size w3 w4 by rw [hw4]; exact ((Below.refl _ _).alloc (Nat.le_refl _) _))
  have w4s := HB4.out.size
  have w4z := hide (show w4.heap.size = h6 + 1 by rw [hw4, ← hh6]; simp only [World.size_alloc])
  have HFK0 := hide (fun (W : World) (hW : Below w4.heap.size w4 W) => ((HFX0.out.below hW).cell 0 (v := .slice (some ⟨gv, 0, none⟩) hl cv) rfl).1)
  have lHFX0 := HFX0.out.lt
  have h6g : w3.heap.size ≤ h6 := by omega
  rw [← hw4, hh6]
  clear hw4 hh6
  have HC4 := hide (HC3.out.trans (HB4.out.mono HC3.out.size))
  have x0 := HFK0.out w4 (Below.refl _ _)
  have e1 := (HB4.out.cell (p := ⟨gv, k * 2, none⟩) hg2).trans hc1
  have e2 := (HB4.out.cell (p := ⟨gv, k * 2 + 1, none⟩) hg2).trans hc2
  have e3 := (HB4.out.cell (p := ⟨gi, j, none⟩) hgi2).trans d1
  have e4 := (World.frozen?_of_block (a := ⟨gi, j, none⟩) (HB4.out.block gi hgi2)).trans d2
  have HJ2 := hide HJ.out
  obtain ⟨fl, hfl⟩ : ∃ fl, o.ints.length = fl := ⟨_, rfl⟩
  have hjl0 : j < fl := by rw [← hfl]; exact HJ.out
  rw [hfl] at HVI e2
  have HPT := hide (rows_putI (w := w4) (y := y) (j := j) (HOW.out.below HB4.out) ⟨fun p hp => ⟨((HRW.out.1 p hp).1).below HB4.out, ((HRW.out.1 p hp).2).below HB4.out⟩, HRW.out.2⟩ HLK.out HVI.out)
  generalize o.ints.getD j 0 = dj at *
  clear hfl hc1 hc2 d1 d2
  have hki : (0 : Int) ≤ (k : Int) := by omega
  have hkl : (k : Int) < (hl : Int) := by omega
  have hji : (0 : Int) ≤ (j : Int) := by omega
  have hjl : (j : Int) < (fl : Int) := by omega
  have ez : IntKind.i64.wrap ((k : Int) + 1 - 1) = (k : Int) := by rw [show (k : Int) + 1 - 1 = (k : Int) by omega]; exact IntWalk.i64_in _ ⟨by omega, by omega⟩
  have lgv : gv < w4.heap.size := by have := HB4.out.size; omega
  have lgi : gi < w4.heap.size := by have := HB4.out.size; omega
  have hgh : gi ≠ h6 := by omega
  have hgz : gi ≠ h5 + 1 := by have := w1z.out; omega
  obtain ⟨z4, f4⟩ := (HX1.out.below HC4.out).cell 0 (v := .slice none 0 0) rfl
  have hvR : ∀ p ∈ h.set k ⟨o.refs, o.ints.set j y⟩, (∀ z ∈ p.refs, i64R z) ∧ ∀ z ∈ p.ints, i64R z := fun p hp => by
    have ho := HRG.out o (List.mem_of_getElem? HGT.out)
    rcases List.mem_or_eq_of_mem_set hp with hp | rfl
    · exact HRG.out p hp
    · exact ⟨ho.1, rng_set ho.2 HY.out⟩
  have HVR := hide hvR
  clear hvR
  go_wp2
  have HBE := hide (show Below w3.heap.size w3 w4 from HB4.out)
  have hw1 : w1.heap.size ≤ w3.heap.size := HC3.out.size
  have HE1 := hide (show Below w1.heap.size w1 (w4.setCell ⟨gi, j, none⟩ (.int .i64 y)) from HC4.out.setCell (p := ⟨gi, j, none⟩) (by show w1.heap.size ≤ gi; omega) _)
  have HZ := hide ((HX1.out.below HE1.out).set 0 (.slice (some ⟨gv, 0, none⟩) hl cv))
  have q0 := (HZ.out.cell 0 (v := .slice (some ⟨gv, 0, none⟩) hl cv) rfl).1
  have hbz : Below w.heap.size w ((w4.setCell ⟨gi, j, none⟩ (.int .i64 y)).setCell ⟨h5 + 1, 0, none⟩ (.slice (some ⟨gv, 0, none⟩) hl cv)) := (HB1.out.trans (HE1.out.mono HB1.out.size)).setCell (p := ⟨h5 + 1, 0, none⟩) (by show w.heap.size ≤ h5 + 1; omega) _
  have hkE : ∀ g, w2.heap.size ≤ g → ((w4.setCell ⟨gi, j, none⟩ (.int .i64 y)).setCell ⟨h5 + 1, 0, none⟩ (.slice (some ⟨gv, 0, none⟩) hl cv)).heap[g]? = (w4.setCell ⟨gi, j, none⟩ (.int .i64 y)).heap[g]? := fun g hg => heap_setCell_other _ ⟨h5 + 1, 0, none⟩ g _ (show g ≠ h5 + 1 by have := w1z.out; omega)
  have HOO := hide (rows_objs (HPT.out.1.kept (fun g hg => hkE g (HPT.out.1.lt g hg).1)) (HPT.out.2.kept hkE) (by rw [List.map_set, HLM.out]) HVR.out)
  refine bodyPost_ret (v := .tuple #[.agg #[.slice (some ⟨gv, 0, none⟩) hl cv], .int .i64 0]) (by simp [results, Try.results17, go_sem, q0]) rfl ⟨_, rfl, by have t := HOO.out; rw [HHL.out] at t; exact t, hbz⟩
set_option maxHeartbeats 2000000 in
set_option maxRecDepth 100000 in
theorem rlink_any (vh : Value) (h : List ObjV) (obj n y : Int) (hy : i64R y) (w : World) (B : Nat) (hB : B ≤ w.heap.size) (hh : ObjsV w (· < B) vh h) (hsm : small9 h) :
    Calls Try.prog 19 #[.agg #[vh], .int .i64 obj, .int .i64 n, .int .i64 y] w fun e w' => ∃ vh', e = .returned (.tuple #[.agg #[vh'], .int .i64 (((linkR h obj n y).2 : Nat) : Int)]) ∧ ObjsV w' (· < w'.heap.size) vh' (linkR h obj n y).1 ∧ Below w.heap.size w w' := by
  have HSELF := hide (fun (W : World) (hW : Below w.heap.size w W) => hh.keep (S' := (· < W.heap.size)) (up hW hB) (fun b hb => by have := hW.size; omega))
  have HAT := hide (fun (W : World) (hW : Below w.heap.size w W) => rat_any vh h obj W B (by have := hW.size; omega) (hh.keep (up hW hB) (fun _ h => h)))
  have HRF := hide (fun (W : World) (hW : Below w.heap.size w W) => rref_any vh h obj n W B (by have := hW.size; omega) (hh.keep (up hW hB) (fun _ h => h)) (by have := hsm.1; omega))
  have HCP := hide (fun (W : World) (hW : Below w.heap.size w W) => rcopy_any vh h W B (by have := hW.size; omega) (hh.keep (up hW hB) (fun _ h => h)) hsm)
  have HRG := hide hh.rng
  have hn300 := hsm.1
  by_cases ha : atN h obj = 0
  case neg =>
    have hv : linkR h obj n y = (h, atN h obj) := by unfold linkR; rw [if_neg ha]
    rw [hv]
    obtain ⟨Ao, c, rfl, hc, hm⟩ := hh.open'
    have hE : (((atN h obj : Nat) : Int) != 0) = true := by simpa using ha
    generalize h.length = hl at *
    generalize ((atN h obj : Nat) : Int) = E at *
    clear hh ha hv HCP HRF
    go_enter Try.func19, Try.ntmps19
    go_upto_region 1 with (fail)
    obtain ⟨w1, hw1⟩ : ∃ w1, w1 = (w.alloc (.cells #[.slice Ao hl c] 24)).alloc (.cells #[.slice none 0 0] 24) := ⟨_, rfl⟩
    obtain ⟨h5, hh5⟩ : ∃ h5, w.heap.size = h5 := ⟨_, rfl⟩
    have HX0 := hide (show Box w1 (h5) #[.slice Ao hl c] 24 by rw [hw1, ← hh5]; have t := Box.new w #[.slice Ao hl c] 24; (try simp only [World.size_alloc] at t); exact (t.alloc _))
    have HX1 := hide (show Box w1 (h5 + 1) #[.slice none 0 0] 24 by rw [hw1, ← hh5]; have t := Box.new (w.alloc (.cells #[.slice Ao hl c] 24)) #[.slice none 0 0] 24; (try simp only [World.size_alloc] at t); exact t)
    have HB1 := hide (show Below w.heap.size w w1 by rw [hw1]; exact (((Below.refl _ _).alloc (Nat.le_refl _) _).alloc (by simp only [World.size_alloc]; omega) _))
    have w1s := HB1.out.size
    have w1z := hide (show w1.heap.size = h5 + 1 + 1 by rw [hw1, ← hh5]; simp only [World.size_alloc])
    have HK0 := hide (fun (W : World) (hW : Below w1.heap.size w1 W) => ((HX0.out.below hW).cell 0 (v := .slice Ao hl c) rfl).1)
    have lHX0 := HX0.out.lt
    have HK1 := hide (fun (W : World) (hW : Below w1.heap.size w1 W) => ((HX1.out.below hW).cell 0 (v := .slice none 0 0) rfl).1)
    have lHX1 := HX1.out.lt
    have h5g : w.heap.size ≤ h5 := by omega
    rw [← hw1, hh5]
    clear hw1 hh5
    have p0 := HK0.out w1 (Below.refl _ _)
    go_wp2_with (go_at_call 34; (with_reducible refine (HAT.out w1 HB1.out).mono ?_); rintro e w2 ⟨rfl, hb2⟩; have HB2 := hide (HB1.out.trans (hb2.mono HB1.out.size)); have HC2 := hide hb2; have l2 := hb2.size; have p2 := HK0.out w2 hb2; obtain ⟨z0, f0⟩ := (HX1.out.below HC2.out).cell 0 (v := .slice none 0 0) rfl; clear hb2 p0)
    have HZ := hide ((HX1.out.below HC2.out).set 0 (.slice Ao hl c))
    have q0 := (HZ.out.cell 0 (v := .slice Ao hl c) rfl).1
    have hbz : Below w.heap.size w (w2.setCell ⟨h5 + 1, 0, none⟩ (.slice Ao hl c)) := (HB1.out.trans (HC2.out.mono HB1.out.size)).setCell (p := ⟨h5 + 1, 0, none⟩) (by show w.heap.size ≤ h5 + 1; omega) _
    refine bodyPost_ret (v := .tuple #[.agg #[.slice Ao hl c], .int .i64 E]) (by simp [results, Try.results19, go_sem, q0]) rfl ⟨_, rfl, HSELF.out _ hbz, hbz⟩
  rw [ha] at HAT
  by_cases hrf : rfB h.length y = true
  case neg =>
    have hv : linkR h obj n y = (h, 1) := by unfold linkR; rw [if_pos ha, if_neg hrf]
    rw [hv]
    have hny : ¬ (0 ≤ y ∧ y ≤ h.length) := fun e => hrf (rfB_iff.2 e)
    obtain ⟨Ao, c, rfl, hc, hm⟩ := hh.open'
    generalize h.length = hl at *
    clear hh ha hv HCP HRF hrf
    by_cases hy0 : y < 0
    case pos =>
      have hd1 : decide (y < 0) = true := decide_eq_true hy0
      go_enter Try.func19, Try.ntmps19
      go_upto_region 1 with (fail)
      obtain ⟨w1, hw1⟩ : ∃ w1, w1 = (w.alloc (.cells #[.slice Ao hl c] 24)).alloc (.cells #[.slice none 0 0] 24) := ⟨_, rfl⟩
      obtain ⟨h5, hh5⟩ : ∃ h5, w.heap.size = h5 := ⟨_, rfl⟩
      have HX0 := hide (show Box w1 (h5) #[.slice Ao hl c] 24 by rw [hw1, ← hh5]; have t := Box.new w #[.slice Ao hl c] 24; (try simp only [World.size_alloc] at t); exact (t.alloc _))
      have HX1 := hide (show Box w1 (h5 + 1) #[.slice none 0 0] 24 by rw [hw1, ← hh5]; have t := Box.new (w.alloc (.cells #[.slice Ao hl c] 24)) #[.slice none 0 0] 24; (try simp only [World.size_alloc] at t); exact t)
      have HB1 := hide (show Below w.heap.size w w1 by rw [hw1]; exact (((Below.refl _ _).alloc (Nat.le_refl _) _).alloc (by simp only [World.size_alloc]; omega) _))
      have w1s := HB1.out.size
      have w1z := hide (show w1.heap.size = h5 + 1 + 1 by rw [hw1, ← hh5]; simp only [World.size_alloc])
      have HK0 := hide (fun (W : World) (hW : Below w1.heap.size w1 W) => ((HX0.out.below hW).cell 0 (v := .slice Ao hl c) rfl).1)
      have lHX0 := HX0.out.lt
      have HK1 := hide (fun (W : World) (hW : Below w1.heap.size w1 W) => ((HX1.out.below hW).cell 0 (v := .slice none 0 0) rfl).1)
      have lHX1 := HX1.out.lt
      have h5g : w.heap.size ≤ h5 := by omega
      rw [← hw1, hh5]
      clear hw1 hh5
      have p0 := HK0.out w1 (Below.refl _ _)
      go_wp2_with (go_at_call 34; (with_reducible refine (HAT.out w1 HB1.out).mono ?_); rintro e w2 ⟨rfl, hb2⟩; have HB2 := hide (HB1.out.trans (hb2.mono HB1.out.size)); have HC2 := hide hb2; have l2 := hb2.size; have p2 := HK0.out w2 hb2; obtain ⟨z0, f0⟩ := (HX1.out.below HC2.out).cell 0 (v := .slice none 0 0) rfl; clear hb2 p0)
      have HZ := hide ((HX1.out.below HC2.out).set 0 (.slice Ao hl c))
      have q0 := (HZ.out.cell 0 (v := .slice Ao hl c) rfl).1
      have hbz : Below w.heap.size w (w2.setCell ⟨h5 + 1, 0, none⟩ (.slice Ao hl c)) := (HB1.out.trans (HC2.out.mono HB1.out.size)).setCell (p := ⟨h5 + 1, 0, none⟩) (by show w.heap.size ≤ h5 + 1; omega) _
      refine bodyPost_ret (v := .tuple #[.agg #[.slice Ao hl c], .int .i64 1]) (by simp [results, Try.results19, go_sem, q0]) rfl ⟨_, rfl, HSELF.out _ hbz, hbz⟩
    have hd1 : decide (y < 0) = false := decide_eq_false hy0
    have hd2 : decide (y > (hl : Int)) = true := decide_eq_true (by omega)
    go_enter Try.func19, Try.ntmps19
    go_upto_region 1 with (fail)
    obtain ⟨w1, hw1⟩ : ∃ w1, w1 = (w.alloc (.cells #[.slice Ao hl c] 24)).alloc (.cells #[.slice none 0 0] 24) := ⟨_, rfl⟩
    obtain ⟨h5, hh5⟩ : ∃ h5, w.heap.size = h5 := ⟨_, rfl⟩
    have HX0 := hide (show Box w1 (h5) #[.slice Ao hl c] 24 by rw [hw1, ← hh5]; have t := Box.new w #[.slice Ao hl c] 24; (try simp only [World.size_alloc] at t); exact (t.alloc _))
    have HX1 := hide (show Box w1 (h5 + 1) #[.slice none 0 0] 24 by rw [hw1, ← hh5]; have t := Box.new (w.alloc (.cells #[.slice Ao hl c] 24)) #[.slice none 0 0] 24; (try simp only [World.size_alloc] at t); exact t)
    have HB1 := hide (show Below w.heap.size w w1 by rw [hw1]; exact (((Below.refl _ _).alloc (Nat.le_refl _) _).alloc (by simp only [World.size_alloc]; omega) _))
    have w1s := HB1.out.size
    have w1z := hide (show w1.heap.size = h5 + 1 + 1 by rw [hw1, ← hh5]; simp only [World.size_alloc])
    have HK0 := hide (fun (W : World) (hW : Below w1.heap.size w1 W) => ((HX0.out.below hW).cell 0 (v := .slice Ao hl c) rfl).1)
    have lHX0 := HX0.out.lt
    have HK1 := hide (fun (W : World) (hW : Below w1.heap.size w1 W) => ((HX1.out.below hW).cell 0 (v := .slice none 0 0) rfl).1)
    have lHX1 := HX1.out.lt
    have h5g : w.heap.size ≤ h5 := by omega
    rw [← hw1, hh5]
    clear hw1 hh5
    have p0 := HK0.out w1 (Below.refl _ _)
    go_wp2_with (go_at_call 34; (with_reducible refine (HAT.out w1 HB1.out).mono ?_); rintro e w2 ⟨rfl, hb2⟩; have HB2 := hide (HB1.out.trans (hb2.mono HB1.out.size)); have HC2 := hide hb2; have l2 := hb2.size; have p2 := HK0.out w2 hb2; obtain ⟨z0, f0⟩ := (HX1.out.below HC2.out).cell 0 (v := .slice none 0 0) rfl; clear hb2 p0)
    have HZ := hide ((HX1.out.below HC2.out).set 0 (.slice Ao hl c))
    have q0 := (HZ.out.cell 0 (v := .slice Ao hl c) rfl).1
    have hbz : Below w.heap.size w (w2.setCell ⟨h5 + 1, 0, none⟩ (.slice Ao hl c)) := (HB1.out.trans (HC2.out.mono HB1.out.size)).setCell (p := ⟨h5 + 1, 0, none⟩) (by show w.heap.size ≤ h5 + 1; omega) _
    refine bodyPost_ret (v := .tuple #[.agg #[.slice Ao hl c], .int .i64 1]) (by simp [results, Try.results19, go_sem, q0]) rfl ⟨_, rfl, HSELF.out _ hbz, hbz⟩
  obtain ⟨hy0, hy1⟩ := rfB_iff.1 hrf
  have hd1 : decide (y < 0) = false := decide_eq_false (by omega)
  have hd2 : decide (y > (h.length : Int)) = false := decide_eq_false (by omega)
  by_cases hr : (refR h obj n).2 = 0
  case neg =>
    have hv : linkR h obj n y = (h, (refR h obj n).2) := by unfold linkR; rw [if_pos ha, if_pos hrf, if_neg hr]
    rw [hv]
    obtain ⟨Ao, c, rfl, hc, hm⟩ := hh.open'
    have hE : ((((refR h obj n).2 : Nat) : Int) != 0) = true := by simpa using hr
    generalize h.length = hl at *
    generalize (((refR h obj n).2 : Nat) : Int) = E at *
    generalize (refR h obj n).1 = LV at *
    clear hh ha hv HCP hrf hr
    go_enter Try.func19, Try.ntmps19
    go_upto_region 1 with (fail)
    obtain ⟨w1, hw1⟩ : ∃ w1, w1 = (w.alloc (.cells #[.slice Ao hl c] 24)).alloc (.cells #[.slice none 0 0] 24) := ⟨_, rfl⟩
    obtain ⟨h5, hh5⟩ : ∃ h5, w.heap.size = h5 := ⟨_, rfl⟩
    have HX0 := hide (show Box w1 (h5) #[.slice Ao hl c] 24 by rw [hw1, ← hh5]; have t := Box.new w #[.slice Ao hl c] 24; (try simp only [World.size_alloc] at t); exact (t.alloc _))
    have HX1 := hide (show Box w1 (h5 + 1) #[.slice none 0 0] 24 by rw [hw1, ← hh5]; have t := Box.new (w.alloc (.cells #[.slice Ao hl c] 24)) #[.slice none 0 0] 24; (try simp only [World.size_alloc] at t); exact t)
    have HB1 := hide (show Below w.heap.size w w1 by rw [hw1]; exact (((Below.refl _ _).alloc (Nat.le_refl _) _).alloc (by simp only [World.size_alloc]; omega) _))
    have w1s := HB1.out.size
    have w1z := hide (show w1.heap.size = h5 + 1 + 1 by rw [hw1, ← hh5]; simp only [World.size_alloc])
    have HK0 := hide (fun (W : World) (hW : Below w1.heap.size w1 W) => ((HX0.out.below hW).cell 0 (v := .slice Ao hl c) rfl).1)
    have lHX0 := HX0.out.lt
    have HK1 := hide (fun (W : World) (hW : Below w1.heap.size w1 W) => ((HX1.out.below hW).cell 0 (v := .slice none 0 0) rfl).1)
    have lHX1 := HX1.out.lt
    have h5g : w.heap.size ≤ h5 := by omega
    rw [← hw1, hh5]
    clear hw1 hh5
    have p0 := HK0.out w1 (Below.refl _ _)
    go_wp2_with (first
      | (go_at_call 23; (with_reducible refine (HRF.out w2 HB2.out).mono ?_); rintro e w5 ⟨rfl, hb5⟩; have HB5 := hide (HB2.out.trans (hb5.mono HB2.out.size)); have HC5 := hide (HC2.out.trans (hb5.mono HC2.out.size)); have l5 := hb5.size; clear p2 z0 f0; have p5 := HK0.out w5 HC5.out; obtain ⟨z0, f0⟩ := (HX1.out.below HC5.out).cell 0 (v := .slice none 0 0) rfl; clear hb5)
      | (go_at_call 34; (with_reducible refine (HAT.out w1 HB1.out).mono ?_); rintro e w2 ⟨rfl, hb2⟩; have HB2 := hide (HB1.out.trans (hb2.mono HB1.out.size)); have HC2 := hide hb2; have l2 := hb2.size; have p2 := HK0.out w2 hb2; obtain ⟨z0, f0⟩ := (HX1.out.below HC2.out).cell 0 (v := .slice none 0 0) rfl; clear hb2 p0))
    have HZ := hide ((HX1.out.below HC5.out).set 0 (.slice Ao hl c))
    have q0 := (HZ.out.cell 0 (v := .slice Ao hl c) rfl).1
    have hbz : Below w.heap.size w (w5.setCell ⟨h5 + 1, 0, none⟩ (.slice Ao hl c)) := (HB1.out.trans (HC5.out.mono HB1.out.size)).setCell (p := ⟨h5 + 1, 0, none⟩) (by show w.heap.size ≤ h5 + 1; omega) _
    refine bodyPost_ret (v := .tuple #[.agg #[.slice Ao hl c], .int .i64 E]) (by simp [results, Try.results19, go_sem, q0]) rfl ⟨_, rfl, HSELF.out _ hbz, hbz⟩
  have hv : linkR h obj n y = (putR h obj n y, 0) := by unfold linkR; rw [if_pos ha, if_pos hrf, if_pos hr]
  rw [hv]
  clear hv
  obtain ⟨-, hn0, hn1⟩ := refR_ok.1 hr
  obtain ⟨-, ho1, ho2⟩ := atN_zero.1 ha
  obtain ⟨k, rfl⟩ : ∃ k : Nat, obj = (k : Int) + 1 := ⟨(obj - 1).toNat, by omega⟩
  obtain ⟨j, rfl⟩ : ∃ j : Nat, n = (j : Int) := ⟨n.toNat, by omega⟩
  have hget := objO_get ho1 ho2
  rw [show ((k : Int) + 1 - 1).toNat = k by omega] at hget
  have hPN : putR h ((k : Int) + 1) (j : Int) y = h.set k ⟨(objO h ((k : Int) + 1)).refs.set j y, (objO h ((k : Int) + 1)).ints⟩ := by
    unfold putR
    rw [show ((k : Int) + 1 - 1).toNat = k by omega, Int.toNat_natCast]
  rw [hPN]
  rw [hr] at HRF
  have HGT := hide hget
  generalize objO h ((k : Int) + 1) = o at *
  generalize (refR h ((k : Int) + 1) (j : Int)).1 = LV at *
  obtain ⟨Ao, c, rfl, hc, hm⟩ := hh.open'
  obtain ⟨hl, hhl⟩ : ∃ hl, h.length = hl := ⟨_, rfl⟩
  have HHL := hide hhl
  have hkl0 : k < hl := by omega
  rw [hhl] at HAT HRF HCP hn300 hd2
  rw [hhl]
  have HJ := hide (show j < o.refs.length by omega)
  have HY := hide hy
  clear hh ha hr hrf ho1 ho2 hget hPN hhl hn0 hn1 HSELF hsm hy hy1
  go_enter Try.func19, Try.ntmps19
  go_upto_region 1 with (fail)
  obtain ⟨w1, hw1⟩ : ∃ w1, w1 = (w.alloc (.cells #[.slice Ao hl c] 24)).alloc (.cells #[.slice none 0 0] 24) := ⟨_, rfl⟩
  obtain ⟨h5, hh5⟩ : ∃ h5, w.heap.size = h5 := ⟨_, rfl⟩
  have HX0 := hide (show Box w1 (h5) #[.slice Ao hl c] 24 by rw [hw1, ← hh5]; have t := Box.new w #[.slice Ao hl c] 24; (try simp only [World.size_alloc] at t); exact (t.alloc _))
  have HX1 := hide (show Box w1 (h5 + 1) #[.slice none 0 0] 24 by rw [hw1, ← hh5]; have t := Box.new (w.alloc (.cells #[.slice Ao hl c] 24)) #[.slice none 0 0] 24; (try simp only [World.size_alloc] at t); exact t)
  have HB1 := hide (show Below w.heap.size w w1 by rw [hw1]; exact (((Below.refl _ _).alloc (Nat.le_refl _) _).alloc (by simp only [World.size_alloc]; omega) _))
  have w1s := HB1.out.size
  have w1z := hide (show w1.heap.size = h5 + 1 + 1 by rw [hw1, ← hh5]; simp only [World.size_alloc])
  have HK0 := hide (fun (W : World) (hW : Below w1.heap.size w1 W) => ((HX0.out.below hW).cell 0 (v := .slice Ao hl c) rfl).1)
  have lHX0 := HX0.out.lt
  have HK1 := hide (fun (W : World) (hW : Below w1.heap.size w1 W) => ((HX1.out.below hW).cell 0 (v := .slice none 0 0) rfl).1)
  have lHX1 := HX1.out.lt
  have h5g : w.heap.size ≤ h5 := by omega
  rw [← hw1, hh5]
  clear hw1 hh5
  have p0 := HK0.out w1 (Below.refl _ _)
  go_upto_region 10 with (first
    | (go_at_call 7; (with_reducible refine (HCP.out w5 HB5.out).mono ?_); rintro e w3 ⟨vc, l, rfl, how, hlm, hrw, hb3⟩; have HOW := hide how; have HLM := hide hlm; have HRW := hide hrw; have HC3 := hide (HC5.out.trans (hb3.mono HC5.out.size)); have HD3 := hide hb3; have l3 := hb3.size; clear how hlm hrw hb3; obtain ⟨gv, cv, v1, v2, rfl, hg1, hg2, hlk, hc1, hc2⟩ := rows_open HOW.out HLM.out HGT.out; rw [HHL.out])
    | (go_at_call 23; (with_reducible refine (HRF.out w2 HB2.out).mono ?_); rintro e w5 ⟨rfl, hb5⟩; have HB5 := hide (HB2.out.trans (hb5.mono HB2.out.size)); have HC5 := hide (HC2.out.trans (hb5.mono HC2.out.size)); have l5 := hb5.size; clear p2 z0 f0; have p5 := HK0.out w5 HC5.out; obtain ⟨z0, f0⟩ := (HX1.out.below HC5.out).cell 0 (v := .slice none 0 0) rfl; clear hb5)
    | (go_at_call 34; (with_reducible refine (HAT.out w1 HB1.out).mono ?_); rintro e w2 ⟨rfl, hb2⟩; have HB2 := hide (HB1.out.trans (hb2.mono HB1.out.size)); have HC2 := hide hb2; have l2 := hb2.size; have p2 := HK0.out w2 hb2; obtain ⟨z0, f0⟩ := (HX1.out.below HC2.out).cell 0 (v := .slice none 0 0) rfl; clear hb2 p0))
  have HLK := hide hlk
  have hrk := HRW.out.1 _ (List.mem_of_getElem? hlk)
  obtain ⟨gi, ci, hvi, hgi, hgi2, hci1, hci2, hcell⟩ := hrk.1.form (show 0 < o.refs.length by have := HJ.out; omega)
  have HVI := hide (show v1 = .slice (some ⟨gi, 0, none⟩) o.refs.length ci from hvi)
  obtain ⟨d1, d2⟩ := hcell j HJ.out
  rw [HVI.out] at hc1
  clear hrk hvi hcell hlk
  obtain ⟨w4, hw4⟩ : ∃ w4, w4 = w3.alloc (.cells #[.slice (some ⟨gv, 0, none⟩) hl cv] 24) := ⟨_, rfl⟩
  obtain ⟨h6, hh6⟩ : ∃ h6, w3.heap.size = h6 := ⟨_, rfl⟩
  have HFX0 := hide (show Box w4 (h6) #[.slice (some ⟨gv, 0, none⟩) hl cv] 24 by rw [hw4, ← hh6]; have t := Box.new w3 #[.slice (some ⟨gv, 0, none⟩) hl cv] 24; (try simp only [World.size_alloc] at t); exact t)
  have HB4 := hide (show Below w3.heap.size w3 w4 by rw [hw4]; exact ((Below.refl _ _).alloc (Nat.le_refl _) _))
  have w4s := HB4.out.size
  have w4z := hide (show w4.heap.size = h6 + 1 by rw [hw4, ← hh6]; simp only [World.size_alloc])
  have HFK0 := hide (fun (W : World) (hW : Below w4.heap.size w4 W) => ((HFX0.out.below hW).cell 0 (v := .slice (some ⟨gv, 0, none⟩) hl cv) rfl).1)
  have lHFX0 := HFX0.out.lt
  have h6g : w3.heap.size ≤ h6 := by omega
  rw [← hw4, hh6]
  clear hw4 hh6
  have HC4 := hide (HC3.out.trans (HB4.out.mono HC3.out.size))
  have x0 := HFK0.out w4 (Below.refl _ _)
  have e1 := (HB4.out.cell (p := ⟨gv, k * 2, none⟩) hg2).trans hc1
  have e2 := (HB4.out.cell (p := ⟨gv, k * 2 + 1, none⟩) hg2).trans hc2
  have e3 := (HB4.out.cell (p := ⟨gi, j, none⟩) hgi2).trans d1
  have e4 := (World.frozen?_of_block (a := ⟨gi, j, none⟩) (HB4.out.block gi hgi2)).trans d2
  have HJ2 := hide HJ.out
  obtain ⟨fl, hfl⟩ : ∃ fl, o.refs.length = fl := ⟨_, rfl⟩
  have hjl0 : j < fl := by rw [← hfl]; exact HJ.out
  rw [hfl] at HVI e1
  have HPT := hide (rows_putR (w := w4) (y := y) (j := j) (HOW.out.below HB4.out) ⟨fun p hp => ⟨((HRW.out.1 p hp).1).below HB4.out, ((HRW.out.1 p hp).2).below HB4.out⟩, HRW.out.2⟩ HLK.out HVI.out)
  generalize o.refs.getD j 0 = dj at *
  clear hfl hc1 hc2 d1 d2
  have hki : (0 : Int) ≤ (k : Int) := by omega
  have hkl : (k : Int) < (hl : Int) := by omega
  have hji : (0 : Int) ≤ (j : Int) := by omega
  have hjl : (j : Int) < (fl : Int) := by omega
  have ez : IntKind.i64.wrap ((k : Int) + 1 - 1) = (k : Int) := by rw [show (k : Int) + 1 - 1 = (k : Int) by omega]; exact IntWalk.i64_in _ ⟨by omega, by omega⟩
  have lgv : gv < w4.heap.size := by have := HB4.out.size; omega
  have lgi : gi < w4.heap.size := by have := HB4.out.size; omega
  have hgh : gi ≠ h6 := by omega
  have hgz : gi ≠ h5 + 1 := by have := w1z.out; omega
  obtain ⟨z4, f4⟩ := (HX1.out.below HC4.out).cell 0 (v := .slice none 0 0) rfl
  have hvR : ∀ p ∈ h.set k ⟨o.refs.set j y, o.ints⟩, (∀ z ∈ p.refs, i64R z) ∧ ∀ z ∈ p.ints, i64R z := fun p hp => by
    have ho := HRG.out o (List.mem_of_getElem? HGT.out)
    rcases List.mem_or_eq_of_mem_set hp with hp | rfl
    · exact HRG.out p hp
    · exact ⟨rng_set ho.1 HY.out, ho.2⟩
  have HVR := hide hvR
  clear hvR
  go_wp2
  have HBE := hide (show Below w3.heap.size w3 w4 from HB4.out)
  have hw1 : w1.heap.size ≤ w3.heap.size := HC3.out.size
  have HE1 := hide (show Below w1.heap.size w1 (w4.setCell ⟨gi, j, none⟩ (.int .i64 y)) from HC4.out.setCell (p := ⟨gi, j, none⟩) (by show w1.heap.size ≤ gi; omega) _)
  have HZ := hide ((HX1.out.below HE1.out).set 0 (.slice (some ⟨gv, 0, none⟩) hl cv))
  have q0 := (HZ.out.cell 0 (v := .slice (some ⟨gv, 0, none⟩) hl cv) rfl).1
  have hbz : Below w.heap.size w ((w4.setCell ⟨gi, j, none⟩ (.int .i64 y)).setCell ⟨h5 + 1, 0, none⟩ (.slice (some ⟨gv, 0, none⟩) hl cv)) := (HB1.out.trans (HE1.out.mono HB1.out.size)).setCell (p := ⟨h5 + 1, 0, none⟩) (by show w.heap.size ≤ h5 + 1; omega) _
  have hkE : ∀ g, w5.heap.size ≤ g → ((w4.setCell ⟨gi, j, none⟩ (.int .i64 y)).setCell ⟨h5 + 1, 0, none⟩ (.slice (some ⟨gv, 0, none⟩) hl cv)).heap[g]? = (w4.setCell ⟨gi, j, none⟩ (.int .i64 y)).heap[g]? := fun g hg => heap_setCell_other _ ⟨h5 + 1, 0, none⟩ g _ (show g ≠ h5 + 1 by have := w1z.out; omega)
  have HOO := hide (rows_objs (HPT.out.1.kept (fun g hg => hkE g (HPT.out.1.lt g hg).1)) (HPT.out.2.kept hkE) (by rw [List.map_set, HLM.out]) HVR.out)
  refine bodyPost_ret (v := .tuple #[.agg #[.slice (some ⟨gv, 0, none⟩) hl cv], .int .i64 0]) (by simp [results, Try.results19, go_sem, q0]) rfl ⟨_, rfl, by have t := HOO.out; rw [HHL.out] at t; exact t, hbz⟩
end Go.Proofs.Ytjlndibeaklcdaa
