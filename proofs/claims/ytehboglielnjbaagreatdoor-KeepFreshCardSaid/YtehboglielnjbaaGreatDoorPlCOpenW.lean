/- A program among the arguments, opened, and how long its slices may be. No condition. -/
import Derived.Test.YtehboglielnjbaaGreatDoorPlKST
import Derived.Test.YtehboglielnjbaaGreatDoorPlMC
import Derived.ProofKit
import Derived.OpenShut
import Derived.Deep.Slices
import Derived.Deep.Fields
import Derived.ChangeSame
import Derived.LaidMore
import Derived.LaidHandle
import Derived.LaidLaws
import Derived.ChangeArms
import Derived.Stop.Joined
set_option linter.unusedSimpArgs false
set_option linter.unusedVariables false
namespace Go.Proofs.YtehboglielnjbaaGreatDoor
open Go.ChangeShapes Go.WideShapes Go.ChangeAt Go.RowKit Go.Deep

def szI (xs : List InsV) : Prop := xs.length ≤ reachBytes ∧ ∀ x ∈ xs, x.args.length ≤ reachBytes
def szB (xs : List (List InsV)) : Prop := xs.length ≤ reachBytes ∧ ∀ x ∈ xs, szI x
def szF (f : FunV) : Prop := f.kinds.length ≤ reachBytes ∧ f.base.length ≤ reachBytes ∧ szB f.blocks
def szP (p : List FunV) : Prop := p.length ≤ reachBytes ∧ ∀ f ∈ p, szF f
theorem bytes_i64 : 0 < Tryz.prog.bytesOf 3 := of_decide_eq_true (by kernel_rfl)
theorem bytes_Ins : 0 < Tryz.prog.bytesOf 47 := of_decide_eq_true (by kernel_rfl)
theorem bytes_Block : 0 < Tryz.prog.bytesOf 39 := of_decide_eq_true (by kernel_rfl)
theorem bytes_Func : 0 < Tryz.prog.bytesOf 32 := of_decide_eq_true (by kernel_rfl)
section
variable {H : Type} {enc : TypeId × Value → H} {W : World}
theorem weightsAll_mem {P : Program} {e : TypeId} : ∀ {l : List (DataW H)} {d : DataW H}, (DataW.weightsAll P e l).all (· ≤ reachBytes) = true → d ∈ l → (d.weights P e).all (· ≤ reachBytes) = true
  | a :: l, d, h, hd => by
    simp only [DataW.weightsAll, List.all_append, Bool.and_eq_true] at h
    rcases List.mem_cons.1 hd with rfl | hd
    · exact h.1
    · exact weightsAll_mem h.2 hd
theorem weightsEach_get {P : Program} : ∀ {ts : List TypeId} {ds : List (DataW H)} {i : Nat} {t : TypeId} {d : DataW H}, ts[i]? = some t → ds[i]? = some d → (DataW.weightsEach P ts ds).all (· ≤ reachBytes) = true → (d.weights P t).all (· ≤ reachBytes) = true
  | t' :: ts, d' :: ds, i, t, d, h1, h2, h => by
    simp only [DataW.weightsEach, List.all_append, Bool.and_eq_true] at h
    cases i with
    | zero => simp at h1 h2; subst h1 h2; exact h.1
    | succ i => exact weightsEach_get (i := i) (by simpa using h1) (by simpa using h2) h.2
  | [], _, i, t, d, h1, _, _ => by simp at h1
  | _ :: _, [], i, t, d, _, h2, _ => by simp at h2
theorem weights_slice {P : Program} {t e : TypeId} {len : Nat} {D : Nat → DataW H} {E : List (DataW H)} (ht : P.underlying t = some (.slice e)) (hby : 0 < P.bytesOf e) (hw : ((DataW.slice ((List.range len).map D) E).weights P t).all (· ≤ reachBytes) = true) :
    len ≤ reachBytes ∧ ∀ k, k < len → ((D k).weights P e).all (· ≤ reachBytes) = true := by
  simp only [DataW.weights, ht, List.all_cons, List.all_append, Bool.and_eq_true, decide_eq_true_eq, List.length_map, List.length_range] at hw
  obtain ⟨h1, h2, -⟩ := hw
  refine ⟨?_, fun k hk => weightsAll_mem h2 (List.mem_map.2 ⟨k, List.mem_range.2 hk, rfl⟩)⟩
  have : len ≤ (len + E.length) * P.bytesOf e := Nat.le_trans (Nat.le_add_right _ _) (Nat.le_mul_of_pos_right _ hby)
  omega
/-- A slice among what is read: things, each as its own reading tells. -/
theorem open_vecW {α : Type} {t e : TypeId} {s fuel : Nat} {v : Value} {x : DataW H × List MemPlace} {P : Nat → Nat → α → Prop} (ht : Tryz.prog.underlying t = some (.slice e)) (hC : Tryz.prog.cellsOf e = s)
    (h : DataW.trod enc Tryz.prog W 0 (fun _ => true) true fuel t [v] = some x) (hlt : ∀ y ∈ x.2, y.block < W.heap.size)
    (hel : ∀ (b o n : Nat) (cs : List Value) (d : DataW H) (pl : List MemPlace), cs.length = s → (∀ i, i < s → W.cell? ⟨b, o + i, none⟩ = cs[i]?) → DataW.trod enc Tryz.prog W 0 (fun _ => true) true n e cs = some (d, pl) → (∀ y ∈ pl, y.block < W.heap.size) → (d.weights Tryz.prog e).all (· ≤ reachBytes) = true → ∃ a : α, P b o a) (hs : 0 < s) (hby : 0 < Tryz.prog.bytesOf e) (hw : (x.1.weights Tryz.prog t).all (· ≤ reachBytes) = true) :
    ∃ xs : List α, Vec s P (· < W.heap.size) v xs ∧ xs.length ≤ reachBytes := by
  rcases open_slice ht h with ⟨h1, -⟩ | ⟨a, len, cap, m, n, D, Pl, hcs, -, hl, hm, hmm, rfl, hi⟩
  · simp at h1
    subst h1
    exact ⟨[], Vec.nil _ _ _, Nat.zero_le _⟩
  · simp at hcs
    subst hcs
    simp only [if_true] at hmm
    subst hmm
    have hm' : m ≤ 9223372036854775807 := by unfold maxLen at hm; exact hm
    obtain ⟨hlr, hwD⟩ := weights_slice ht hby hw
    by_cases h0 : len = 0
    · subst h0
      exact ⟨[], ⟨some a, m, rfl, by simp, hm', fun hp => absurd hp (by simp)⟩, Nat.zero_le _⟩
    · obtain ⟨b, o, spot⟩ := a
      have hspot : spot = none := by
        obtain ⟨cs', hc, -⟩ := hi 0 (by omega)
        obtain ⟨-, hlc, hat⟩ := World.cells?_some hc
        have h1 := hat 0 (by omega)
        have h2 : ∃ u, cs'[0]? = some u := ⟨_, List.getElem?_eq_getElem (by omega)⟩
        obtain ⟨u, hu⟩ := h2
        rw [hu] at h1
        simpa [Addr.add] using World.cell?_spot h1
      subst hspot
      have hb : b < W.heap.size := by
        refine hlt (.cell b o) (List.mem_append_left _ ?_)
        exact MemPlace.mem_row.2 ⟨0, Nat.mul_pos (by omega) (by omega), by simp⟩
      have key : ∀ k, k ≤ len → ∃ xs : List α, xs.length = k ∧ ∀ (j : Nat) (y : α), xs[j]? = some y → P b (o + j * s) y := by
        intro k
        induction k with
        | zero => exact fun _ => ⟨[], rfl, fun j y hj => by simp at hj⟩
        | succ k ih =>
          intro hk
          obtain ⟨xs, hxl, hx⟩ := ih (by omega)
          obtain ⟨cs', hc, htr⟩ := hi k (by omega)
          obtain ⟨-, hlc, hat⟩ := World.cells?_some hc
          rw [hC] at hlc hat
          obtain ⟨y, hy⟩ := hel b (o + k * s) n cs' (D k) (Pl k) hlc (fun i hi' => by
            have := hat i hi'
            rw [add_plain, add_plain] at this
            exact this) htr (fun z hz => hlt z (List.mem_append_right _ (List.mem_flatMap.2 ⟨k, List.mem_range.2 (by omega), hz⟩))) (hwD k (by omega))
          refine ⟨xs ++ [y], by simp [hxl], fun j z hj => ?_⟩
          by_cases hjl : j < xs.length
          · rw [List.getElem?_append_left hjl] at hj
            exact hx j z hj
          · have hjk : j = k := by
              have := (List.getElem?_eq_some_iff.1 hj).1
              simp at this; omega
            subst hjk
            rw [← hxl, List.getElem?_append_right (Nat.le_refl _)] at hj
            simp at hj
            subst hj
            exact hy
      obtain ⟨xs, hxl, hx⟩ := key len (Nat.le_refl _)
      exact ⟨xs, ⟨some ⟨b, o, none⟩, m, by rw [hxl], by omega, hm', fun _ => ⟨b, o, rfl, hb, hx⟩⟩, by rw [hxl]; exact hlr⟩
theorem fields_ofW {t : TypeId} {fs : Array Field} {fuel : Nat} {cs : List Value} {d : DataW H} {pl : List MemPlace} (hs : Tryz.prog.underlying t = some (.struct fs)) (hone : oneCellFields Tryz.prog fs = true) (h : DataW.trod enc Tryz.prog W 0 (fun _ => true) true fuel t cs = some (d, pl)) (hlt : ∀ y ∈ pl, y.block < W.heap.size) (hw : (d.weights Tryz.prog t).all (· ≤ reachBytes) = true) :
    ∃ n, ∀ (i : Nat) (f : Field) (u : Value), fs[i]? = some f → cs[i]? = some u → ∃ x, DataW.trod enc Tryz.prog W 0 (fun _ => true) true n f.type [u] = some x ∧ (∀ y ∈ x.2, y.block < W.heap.size) ∧ (x.1.weights Tryz.prog f.type).all (· ≤ reachBytes) = true := by
  obtain ⟨xs, n, -, hx, -, hl, hf⟩ := DataW.trod_struct hs h
  simp only [Prod.mk.injEq] at hx
  refine ⟨n, fun i f u hi hu => ?_⟩
  obtain ⟨ho, hk⟩ := hone_of hone i f hi
  have h1 := hf i f hi
  rw [ho, hk] at h1
  have hil : i < cs.length := (List.getElem?_eq_some_iff.1 hu).1
  have h2 : (cs.drop i).take 1 = [u] := by
    rw [List.drop_eq_getElem_cons hil]
    have := (List.getElem?_eq_some_iff.1 hu).2
    simp [this]
  rw [h2] at h1
  have hix : i < xs.length := by rw [hl]; exact (Array.getElem?_eq_some_iff.1 hi).1
  rw [List.getElem?_eq_getElem hix] at h1
  refine ⟨_, h1, fun y hy => hlt y (by rw [hx.2]; exact List.mem_flatMap.2 ⟨_, List.getElem_mem hix, hy⟩), ?_⟩
  rw [hx.1] at hw
  simp only [DataW.weights, hs] at hw
  exact weightsEach_get (i := i) (by rw [List.getElem?_map, Array.getElem?_toList, hi]; rfl) (by rw [List.getElem?_map, List.getElem?_eq_getElem hix]; rfl) hw
/-- A struct's fields, by their types. -/
theorem read_structW {t : TypeId} {fs : Array Field} {ts : List TypeId} {fuel : Nat} {cs : List Value} {d : DataW H} {pl : List MemPlace} (hs : Tryz.prog.underlying t = some (.struct fs)) (hone : oneCellFields Tryz.prog (fieldsOf Tryz.prog t) = true)
    (hts : (fieldsOf Tryz.prog t).toList.map (·.type) = ts) (h : DataW.trod enc Tryz.prog W 0 (fun _ => true) true fuel t cs = some (d, pl)) (hlt : ∀ y ∈ pl, y.block < W.heap.size) (hw : (d.weights Tryz.prog t).all (· ≤ reachBytes) = true) :
    ∃ n, ∀ (i : Nat) (ty : TypeId) (u : Value), ts[i]? = some ty → cs[i]? = some u → ∃ x, DataW.trod enc Tryz.prog W 0 (fun _ => true) true n ty [u] = some x ∧ (∀ y ∈ x.2, y.block < W.heap.size) ∧ (x.1.weights Tryz.prog ty).all (· ≤ reachBytes) = true := by
  have hfs : fieldsOf Tryz.prog t = fs := by unfold fieldsOf; rw [hs]
  rw [hfs] at hone hts
  obtain ⟨n, hn⟩ := fields_ofW hs hone h hlt hw
  refine ⟨n, fun i ty u hi hu => ?_⟩
  rw [← hts, List.getElem?_map] at hi
  cases hf : fs.toList[i]? with
  | none => rw [hf] at hi; cases hi
  | some f =>
    rw [hf] at hi
    simp only [Option.map_some, Option.some.injEq] at hi
    subst hi
    exact hn i f u (by rw [← Array.getElem?_toList]; exact hf) hu
theorem open_intsW {fuel : Nat} {v : Value} {x : DataW H × List MemPlace} (h : DataW.trod enc Tryz.prog W 0 (fun _ => true) true fuel 29 [v] = some x) (hlt : ∀ y ∈ x.2, y.block < W.heap.size) (hw : (x.1.weights Tryz.prog 29).all (· ≤ reachBytes) = true) : ∃ zs, IntsV W (· < W.heap.size) v zs ∧ zs.length ≤ reachBytes :=
  open_vecW (s := 1) Tryz.underlying29 cells_i64 h hlt (fun b o n cs d pl hl hc htr _ _ => by
    obtain ⟨z, rfl, -, hw⟩ := DataW.trod_int Tryz.underlying3 htr
    exact ⟨z, (hc 0 (by omega)), int_R hw⟩) (by omega) bytes_i64 hw
theorem open_insW {fuel : Nat} {v : Value} {x : DataW H × List MemPlace} (h : DataW.trod enc Tryz.prog W 0 (fun _ => true) true fuel 37 [v] = some x) (hlt : ∀ y ∈ x.2, y.block < W.heap.size) (hw : (x.1.weights Tryz.prog 37).all (· ≤ reachBytes) = true) : ∃ xs, InssV W (· < W.heap.size) v xs ∧ szI xs := by
  obtain ⟨xs, hv, hl⟩ :=
  open_vecW (P := fun b o x => InsC W (· < W.heap.size) b o x ∧ x.args.length ≤ reachBytes) (s := 7) Tryz.underlying37 cells_Ins h hlt (fun b o n cs d pl hl hc htr hp hdw => by
    obtain ⟨n', hf⟩ := read_structW Tryz.underlying47 hone_Ins types_Ins htr hp hdw
    match cs, hl with
    | [c0, c1, c2, c3, c4, c5, c6], _ =>
      obtain ⟨x0, h0, -⟩ := hf 0 _ c0 rfl rfl
      obtain ⟨x1, h1, -⟩ := hf 1 _ c1 rfl rfl
      obtain ⟨x2, h2, -⟩ := hf 2 _ c2 rfl rfl
      obtain ⟨x3, h3, -⟩ := hf 3 _ c3 rfl rfl
      obtain ⟨x4, h4, -⟩ := hf 4 _ c4 rfl rfl
      obtain ⟨x5, h5, -⟩ := hf 5 _ c5 rfl rfl
      obtain ⟨x6, h6, hp6, hw6⟩ := hf 6 _ c6 rfl rfl
      obtain ⟨z0, rfl, r0⟩ := open_int1 h0
      obtain ⟨z1, rfl, r1⟩ := open_int1 h1
      obtain ⟨z2, rfl, r2⟩ := open_int1 h2
      obtain ⟨z3, rfl, r3⟩ := open_int1 h3
      obtain ⟨z4, rfl, r4⟩ := open_int1 h4
      obtain ⟨z5, rfl, r5⟩ := open_int1 h5
      obtain ⟨zs, hz, hzl⟩ := open_intsW h6 hp6 hw6
      exact ⟨⟨z0, z1, z2, z3, z4, z5, zs⟩, ⟨c6, ⟨hc 0 (by omega), hc 1 (by omega), hc 2 (by omega), hc 3 (by omega), hc 4 (by omega), hc 5 (by omega), hc 6 (by omega)⟩, hz, r0, r1, r2, r3, r4, r5⟩, hzl⟩) (by omega) bytes_Ins hw
  exact ⟨xs, hv.mono (fun _ h => h) (fun b o x _ _ h => h.1), hl, fun x hx => (Vec.each hv x hx).elim fun b ⟨o, h⟩ => h.2⟩
theorem open_blksW {fuel : Nat} {v : Value} {x : DataW H × List MemPlace} (h : DataW.trod enc Tryz.prog W 0 (fun _ => true) true fuel 30 [v] = some x) (hlt : ∀ y ∈ x.2, y.block < W.heap.size) (hw : (x.1.weights Tryz.prog 30).all (· ≤ reachBytes) = true) : ∃ xs, BlksV W (· < W.heap.size) v xs ∧ szB xs := by
  obtain ⟨xs, hv, hl⟩ :=
  open_vecW (P := fun b o x => BlkC W (· < W.heap.size) b o x ∧ szI x) (s := 1) Tryz.underlying30 cells_Block h hlt (fun b o n cs d pl hl hc htr hp hdw => by
    obtain ⟨n', hf⟩ := read_structW Tryz.underlying39 hone_Block types_Block htr hp hdw
    match cs, hl with
    | [c0], _ =>
      obtain ⟨x0, h0, hp0, hw0⟩ := hf 0 _ c0 rfl rfl
      obtain ⟨xs, hx, hxs⟩ := open_insW h0 hp0 hw0
      exact ⟨xs, ⟨c0, hc 0 (by omega), hx⟩, hxs⟩) (by omega) bytes_Block hw
  exact ⟨xs, hv.mono (fun _ h => h) (fun b o x _ _ h => h.1), hl, fun x hx => (Vec.each hv x hx).elim fun b ⟨o, h⟩ => h.2⟩
theorem open_funsW {fuel : Nat} {v : Value} {x : DataW H × List MemPlace} (h : DataW.trod enc Tryz.prog W 0 (fun _ => true) true fuel 22 [v] = some x) (hlt : ∀ y ∈ x.2, y.block < W.heap.size) (hw : (x.1.weights Tryz.prog 22).all (· ≤ reachBytes) = true) : ∃ xs, FunsV W (· < W.heap.size) v xs ∧ szP xs := by
  obtain ⟨xs, hv, hl⟩ :=
  open_vecW (P := fun b o x => FunC W (· < W.heap.size) b o x ∧ szF x) (s := 5) Tryz.underlying22 cells_Func h hlt (fun b o n cs d pl hl hc htr hp hdw => by
    obtain ⟨n', hf⟩ := read_structW Tryz.underlying32 hone_Func types_Func htr hp hdw
    match cs, hl with
    | [c0, c1, c2, c3, c4], _ =>
      obtain ⟨x0, h0, p0, w0⟩ := hf 0 _ c0 rfl rfl
      obtain ⟨x1, h1, p1, w1⟩ := hf 1 _ c1 rfl rfl
      obtain ⟨x2, h2, -⟩ := hf 2 _ c2 rfl rfl
      obtain ⟨x3, h3, -⟩ := hf 3 _ c3 rfl rfl
      obtain ⟨x4, h4, p4, w4⟩ := hf 4 _ c4 rfl rfl
      obtain ⟨ks, hk, hkl⟩ := open_intsW h0 p0 w0
      obtain ⟨bs, hb, hbl⟩ := open_intsW h1 p1 w1
      obtain ⟨z2, rfl, r2⟩ := open_int1 h2
      obtain ⟨z3, rfl, r3⟩ := open_int1 h3
      obtain ⟨ls, hl, hll⟩ := open_blksW h4 p4 w4
      exact ⟨⟨ks, bs, z2, z3, ls⟩, ⟨c0, c1, c4, ⟨hc 0 (by omega), hc 1 (by omega), hc 2 (by omega), hc 3 (by omega), hc 4 (by omega)⟩, hk, hb, hl, r2, r3⟩, hkl, hbl, hll⟩) (by omega) bytes_Func hw
  exact ⟨xs, hv.mono (fun _ h => h) (fun b o x _ _ h => h.1), hl, fun x hx => (Vec.each hv x hx).elim fun b ⟨o, h⟩ => h.2⟩
set_option maxRecDepth 100000 in
/-- A program among the arguments. -/
theorem open_progW {r : Reach} {b0 : Nat} {v : Value} {d : DataW H} {pl : List MemPlace} (hv : Value.okWide Tryz.prog W r b0 24 v) (h : DataW.Trod enc Tryz.prog W 0 (fun _ => true) true 24 v d pl) (hlt : ∀ y ∈ pl, y.block < W.heap.size) (hw : (d.weights Tryz.prog 24).all (· ≤ reachBytes) = true) :
    ∃ vp p, v = .agg #[vp] ∧ FunsV W (· < W.heap.size) vp p ∧ szP p := by
  obtain ⟨cs, rfl, hsz⟩ := okWide_struct Tryz.underlying24 hv
  obtain ⟨fuel, hf⟩ := h
  obtain ⟨n', hf⟩ := read_structW Tryz.underlying24 hone_Prog types_Prog hf hlt hw
  rw [cells_Prog] at hsz
  obtain ⟨l⟩ := cs
  match l, hsz with
  | [c0], _ =>
    obtain ⟨x0, h0, p0, w0⟩ := hf 0 _ c0 rfl rfl
    obtain ⟨p, hp, hs⟩ := open_funsW h0 p0 w0
    exact ⟨c0, p, rfl, hp, hs⟩
theorem szP.size {p : List FunV} (h : szP p) : ∀ f ∈ p, f.kinds.length ≤ 1152921504606846976 ∧ f.base.length ≤ 1152921504606846976 ∧ f.blocks.length ≤ 1152921504606846976 ∧ ∀ b ∈ f.blocks, b.length ≤ 1152921504606846976 ∧ ∀ x ∈ b, x.args.length ≤ 1152921504606846976 := fun f hf => by
  have hr : reachBytes ≤ 1152921504606846976 := by decide
  obtain ⟨h1, h2, h3, h4⟩ := h.2 f hf
  exact ⟨by omega, by omega, by omega, fun b hb => ⟨by have := (h4 b hb).1; omega, fun x hx => by have := (h4 b hb).2 x hx; omega⟩⟩
end
end Go.Proofs.YtehboglielnjbaaGreatDoor
