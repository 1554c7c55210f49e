/- Layer 17: maps by locations in memory (Go's map[api.Loc]int, map[api.Loc]struct{}): look up, store, an entry and its store; moves in memory. No condition. -/
import Derived.Test.YtkilfejcohnceaaPaIM
import Derived.Maps.OwnSet
import Derived.Maps.RangeWalk
import Derived.DeepKeys4
import Derived.WideKeyEntry
set_option linter.unusedSimpArgs false
set_option linter.unusedVariables false
namespace Go.Proofs.Ytkilfejcohnceaa
open Go.RowKit Go.Maps

theorem laid17 : laidOutB Try.prog = true := by kernel_rfl
theorem wide17 : (match Try.prog.underlying 24 with | some (.array _ _) | some (.struct _) => true | _ => false) = true := by rw [Try.underlying24]
theorem keyed17 : Keyed Try.prog 24 := Keyed.of_law (deep_law_laid laid17 (m := 2) (by omega) (of_decide_eq_true (by kernel_rfl)) (by kernel_rfl) wide17)
def lcR (x : LcV) : Prop := i64R x.k ∧ i64R x.n
def litL (x : LcV) : Lit := .string (keyBytes [.int .i64 x.k, .int .i64 x.n])
theorem ktype17 : Try.prog.keyType 24 = true := by kernel_rfl
theorem cells17 : Try.prog.cellsOf 24 = 2 := by kernel_rfl
theorem keyOf_struct17 (v : Value) : keyOf Try.prog 24 v = (if Try.prog.keyType 24 && v.formed Try.prog 24 then (Try.prog.keyLits (Try.prog.types.size + 1) 24 v.cells.toList).map fun ls => .string (keyBytes ls) else none) := by
  unfold keyOf
  rw [Try.underlying24]
theorem size17 : ∃ m, Try.prog.types.size + 1 = m + 1 + 1 := ⟨Try.prog.types.size - 1, by have : 0 < Try.prog.types.size := of_decide_eq_true (by kernel_rfl); omega⟩
theorem cellsInt17 : Try.prog.cellsOf 3 = 1 := by kernel_rfl
theorem lits17 (m : Nat) {x : LcV} (h : lcR x) : Try.prog.keyLits (m + 1 + 1) 24 [.int .i64 x.k, .int .i64 x.n] = some [.int .i64 x.k, .int .i64 x.n] := by
  have w1 := WalkArith.wf_i64 h.1
  have w2 := WalkArith.wf_i64 h.2
  simp [Program.keyLits, Try.underlying24, Try.underlying3, cells17, cellsInt17, w1, w2]
theorem key17 {x : LcV} (h : lcR x) : keyOf Try.prog 24 (lcA x) = some (litL x) := by
  obtain ⟨m, hm⟩ := size17
  rw [keyOf_struct17, ktype17, hm]
  have hf : (lcA x).formed Try.prog 24 = true := by simp [lcA, Value.formed, Try.underlying24, cells17]
  rw [hf]
  have : (lcA x).cells.toList = [.int .i64 x.k, .int .i64 x.n] := by simp [lcA, Value.cells]
  rw [this, lits17 m h]
  rfl
theorem litL_inj {x y : LcV} (hx : lcR x) (hy : lcR y) (h : litL x = litL y) : x = y := by
  have t := keyed17.inj (key17 hx) (h ▸ key17 hy)
  unfold lcA at t
  injection t with t
  simp at t
  obtain ⟨x1, x2⟩ := x
  obtain ⟨y1, y2⟩ := y
  simp only at t
  rw [t.1, t.2]
theorem under17 : Try.prog.underlying 45 = some (.map 24 3) := by kernel_rfl
theorem zero17 (w : World) : (zeroValue 3).run Try.prog w = .ok (.int .i64 0) w := by kernel_rfl
/-- Block b is a map of at most n entries that answers T, 0 where there is nothing. -/
def MapL (w : World) (b n : Nat) (T : LcV → Int) : Prop := ∃ D, w.ownsMap Try.prog 24 (plainElem (H := Unit) Try.prog 3) b n D ∧ ∀ x, lcR x → D.atKey (litL x) (.lit (.int .i64 0)) = .lit (.int .i64 (T x))
/-- The entry of the stamp st is that of x. -/
def EntL (w : World) (b st : Nat) (x : LcV) : Prop := ∃ (es : Array MapEntry) (clock j : Nat) (e : MapEntry), w.heap[b]? = some (.map es clock) ∧ es.toList[j]? = some e ∧ e.born = st ∧ e.key = lcA x
section
variable {w w' : World} {b n : Nat} {T : LcV → Int}
theorem MapL.start (w : World) : MapL (w.alloc (.map #[] 0)) w.heap.size 0 (fun _ => 0) := ⟨.map [], World.ownsMap_made _ _ _ _, fun x _ => rfl⟩
theorem MapL.kept (h : MapL w b n T) (hb : w'.heap[b]? = w.heap[b]?) : MapL w' b n T := by
  obtain ⟨D, ⟨es, clock, h1, h2, h3, h4⟩, hT⟩ := h
  exact ⟨D, ⟨es, clock, hb.trans h1, h2, h3, h4⟩, hT⟩
theorem MapL.lt (h : MapL w b n T) : b < w.heap.size := by
  obtain ⟨D, hD, -⟩ := h
  exact hD.lt
theorem MapL.below (h : MapL w b n T) (hb : Below w.heap.size w w') : MapL w' b n T := h.kept (hb.block b h.lt)
theorem MapL.mono (h : MapL w b n T) {m : Nat} (hm : n ≤ m) : MapL w b m T := by
  obtain ⟨D, hD, hT⟩ := h
  exact ⟨D, hD.mono hm, hT⟩
theorem MapL.noBox (h : MapL w b n T) {c : Array Value} {T' : TypeId} {f : Nat × Nat} : w.heap[b]? ≠ some (.cells c T' f) := fun e => by
  obtain ⟨D, ⟨es, clock, h1, -⟩, -⟩ := h
  rw [h1] at e
  cases e
theorem MapL.look (h : MapL w b n T) {x : LcV} (hx : lcR x) : (Instr.lookup 45 (.map (some b)) (.agg #[.int .i64 x.k, .int .i64 x.n]) false).run Try.prog w = .ok (.int .i64 (T x)) w := by
  obtain ⟨D, hD, hT⟩ := h
  obtain ⟨c, hrun, hat, -⟩ := hD.lookup_int (e := 3) (q := .i64) keyed17 under17 Try.underlying3 (zero17 w) (key17 hx)
  rw [hT x hx] at hat
  injection hat with hat
  injection hat with _ hat
  rw [hat]
  exact hrun
theorem R17_int {v : Int} (hv : i64R v) : plainElem (H := Unit) Try.prog 3 (.int .i64 v) = some (.lit (.int .i64 v), []) := plainElem_int Try.underlying3 (WalkArith.wf_i64 hv)
theorem put17 {D : DataW Unit} (hD : IsMap D) {x : LcV} {v : Int} (hx : lcR x) (hT : ∀ x, lcR x → D.atKey (litL x) (.lit (.int .i64 0)) = .lit (.int .i64 (T x))) : ∀ y, lcR y → (D.put (litL x) (.lit (.int .i64 v))).atKey (litL y) (.lit (.int .i64 0)) = .lit (.int .i64 (updL T x v y)) := fun y hy => by
  unfold updL
  by_cases e : y = x
  · subst e
    rw [if_pos rfl, atKey_put_same hD (keyed17.key (key17 hx))]
  · rw [if_neg e, atKey_put_other (fun h => e (litL_inj hy hx h)), hT y hy]
/-- m[x] = v. -/
theorem MapL.put (h : MapL w b n T) {x : LcV} (hx : lcR x) {v : Int} (hv : i64R v) (hn : n < 1000000) :
    ∃ w', (Instr.mapUpdate 45 (.map (some b)) (.agg #[.int .i64 x.k, .int .i64 x.n]) (.int .i64 v)).run Try.prog w = .ok () w' ∧ MapL w' b (n + 1) (updL T x v) ∧ w.grownBy w' (some b) := by
  obtain ⟨D, hD, hT⟩ := h
  obtain ⟨w', hrun, h1, h2⟩ := hD.update (e := 3) keyed17 under17 (by simp only [maxLen]; omega) (key17 hx) (R17_int hv)
  exact ⟨w', hrun, ⟨_, h1, put17 hD.isMap hx hT⟩, h2⟩
theorem heap_block17 (w : World) {b : Nat} {o o' : Obj} (h : w.heap[b]? = some o) : (ChangeMaps.setBlock w b o').heap[b]? = some o' ∧ ∀ i, i ≠ b → (ChangeMaps.setBlock w b o').heap[i]? = w.heap[i]? := by
  have hl := (Array.getElem?_eq_some_iff.1 h).1
  refine ⟨?_, fun i hi => ?_⟩
  · simp only [ChangeMaps.setBlock]
    rw [Array.getElem?_setIfInBounds, if_pos rfl, if_pos hl]
  · simp only [ChangeMaps.setBlock]
    rw [Array.getElem?_setIfInBounds, if_neg (fun e => hi e.symm)]
theorem grown_block17 (w : World) {b : Nat} {o o' : Obj} (h : w.heap[b]? = some o) : w.grownBy (ChangeMaps.setBlock w b o') (some b) :=
  ⟨rfl, rfl, rfl, by simp [ChangeMaps.setBlock], fun i _ hi => (heap_block17 w (o' := o') h).2 i (fun e => hi (by rw [e]))⟩
/-- The entry of x, made where there is none: the map answers as it did. -/
theorem MapL.entry (h : MapL w b n T) {x : LcV} (hx : lcR x) (hn : n < 1000000) :
    ∃ (v0 : Value) (st : Nat) (w' : World), (Instr.mapEntry 45 (.map (some b)) (.agg #[.int .i64 x.k, .int .i64 x.n])).run Try.prog w = .ok (.tuple #[v0, .int .i64 (st : Int)]) w' ∧ MapL w' b (n + 1) T ∧ w.grownBy w' (some b) ∧ EntL w' b st x ∧ ∀ st' y, EntL w b st' y → EntL w' b st' y := by
  obtain ⟨D, hD, hT⟩ := h
  have hD0 := hD
  obtain ⟨es, clock, hb, F, hs, rfl⟩ := hD
  obtain ⟨s1, s2, s3⟩ := F.stamped
  rcases keyed17.find w (key17 hx) es.toList F.keys with ⟨h1, h2⟩ | ⟨j, e0, h1, h2, h3⟩
  · have hrun : (Instr.mapEntry 45 (.map (some b)) (lcA x)).run Try.prog w = .ok (.tuple #[.int .i64 0, .int .i64 ((clock : Nat) : Int)]) (ChangeMaps.setBlock w b (.map (es.push ⟨lcA x, .int .i64 0, clock⟩) (clock + 1))) := by
      simp [Instr.mapEntry, run_underlying under17, MapKept.run_getObj_map hb, keyed17.check w false (key17 hx), h1, zero17, MapKept.run_setObj_map _ hb, Result.andThen, ChangeMaps.setBlock, goInt]
    have hup : (Instr.mapUpdate 45 (.map (some b)) (lcA x) (.int .i64 0)).run Try.prog w = .ok () (ChangeMaps.setBlock w b (.map (es.push ⟨lcA x, .int .i64 0, clock⟩) (clock + 1))) := by
      simp [Instr.mapUpdate, run_underlying under17, MapKept.run_getObj_map hb, keyed17.check w false (key17 hx), h1, MapKept.run_setObj_map _ hb, Result.andThen, ChangeMaps.setBlock]
    obtain ⟨w', hrun', o1, o2⟩ := hD0.update (e := 3) keyed17 under17 (by simp only [maxLen]; omega) (key17 hx) (R17_int (v := 0) ⟨by omega, by omega⟩)
    rw [hup] at hrun'
    injection hrun' with _ hw
    subst hw
    have hT0 : T x = 0 := by
      have h5 := hT x hx
      rcases Maps.fit_look false keyed17 under17 (zero17 w) hb F (key17 hx) with ⟨-, -, hat⟩ | ⟨e0, y, he0, he1, -⟩
      · rw [hat] at h5
        injection h5 with h5
        injection h5 with _ h5
        exact h5.symm
      · exact absurd he1 (h2 e0 he0)
    refine ⟨_, clock, _, hrun, ⟨_, o1, fun y hy => ?_⟩, o2, ⟨_, _, es.size, ⟨lcA x, .int .i64 0, clock⟩, (heap_block17 w hb).1, by simp, rfl, rfl⟩, fun st' y ⟨es', clock', j, e, g1, g2, g3, g4⟩ => ?_⟩
    · rw [put17 hD0.isMap hx hT y hy]
      unfold updL
      by_cases e : y = x
      · rw [if_pos e, e, hT0]
      · rw [if_neg e]
    · rw [hb] at g1
      injection g1 with g1
      injection g1 with g1 g1'
      subst g1
      refine ⟨_, _, j, e, (heap_block17 w hb).1, ?_, g3, g4⟩
      rw [Array.toList_push, List.getElem?_append_left (List.getElem?_eq_some_iff.1 g2).1]
      exact g2
  · have hj : es[j]? = some e0 := by simpa using h2
    have hsame : es.modify j (fun e => { e with key := lcA x }) = es := by
      apply Array.ext'
      rw [Array.toList_modify, ChangeMaps.modify_eq_set _ _ _ _ h2]
      have : ({ e0 with key := lcA x } : MapEntry) = e0 := by rw [← h3]
      rw [this]
      exact WideElems.set_self _ _ _ h2
    have hrun : (Instr.mapEntry 45 (.map (some b)) (lcA x)).run Try.prog w = .ok (.tuple #[e0.val, .int .i64 ((e0.born : Nat) : Int)]) (ChangeMaps.setBlock w b (.map es clock)) := by
      simp [Instr.mapEntry, run_underlying under17, MapKept.run_getObj_map hb, keyed17.check w false (key17 hx), h1, hj, h3, keyed17.stays w (key17 hx), hsame, MapKept.run_setObj_map _ hb, Result.andThen, ChangeMaps.setBlock, goInt]
    have hh := (heap_block17 w (o' := .map es clock) hb).1
    refine ⟨_, e0.born, _, hrun, ⟨_, ⟨es, clock, hh, F, by omega, rfl⟩, hT⟩, grown_block17 w hb, ⟨es, clock, j, e0, hh, h2, rfl, h3⟩, fun st' y ⟨es', clock', j', e, g1, g2, g3, g4⟩ => ?_⟩
    rw [hb] at g1
    injection g1 with g1
    injection g1 with g1 g1'
    subst g1
    exact ⟨es, clock, j', e, hh, g2, g3, g4⟩
theorem EntL.kept {st : Nat} {x : LcV} (h : EntL w b st x) (hb : w'.heap[b]? = w.heap[b]?) : EntL w' b st x := by
  obtain ⟨es, clock, j, e, h1, r⟩ := h
  exact ⟨es, clock, j, e, hb.trans h1, r⟩
/-- The store into an entry. -/
theorem MapL.store (h : MapL w b n T) {st : Nat} {x : LcV} (he : EntL w b st x) (hx : lcR x) {v : Int} (hv : i64R v) (hn : n < 1000000) :
    ∃ w', (Instr.entryStore 45 (.map (some b)) (.int .i64 (st : Int)) (.int .i64 v)).run Try.prog w = .ok () w' ∧ MapL w' b (n + 1) (updL T x v) ∧ w.grownBy w' (some b) ∧ ∀ st' y, EntL w b st' y → EntL w' b st' y := by
  obtain ⟨D, hD, hT⟩ := h
  have hD0 := hD
  obtain ⟨es, clock, hb, F, hs, rfl⟩ := hD
  obtain ⟨es', clock', j, e0, g1, g2, g3, g4⟩ := he
  rw [hb] at g1
  injection g1 with g1
  injection g1 with g1 g1'
  subst g1
  obtain ⟨s1, s2, s3⟩ := F.stamped
  have hj : es[j]? = some e0 := by simpa using g2
  have hidx : es.findIdx? (fun e => ((e.born : Nat) : Int) == ((st : Nat) : Int)) = some j := by
    rw [WideElems.findIdx_arr, ← g3]
    exact WideElems.findIdx_born s2 g2
  have hmod : es.modify j (fun e => { e with val := .int .i64 v }) = es.modify j (fun e' => { e' with key := lcA x, val := .int .i64 v }) := by
    apply Array.ext'
    rw [Array.toList_modify, Array.toList_modify, ChangeMaps.modify_eq_set _ _ _ _ g2, ChangeMaps.modify_eq_set _ _ _ _ g2, ← g4]
  have hrun : (Instr.entryStore 45 (.map (some b)) (.int .i64 (st : Int)) (.int .i64 v)).run Try.prog w = .ok () (ChangeMaps.setBlock w b (.map (es.modify j (fun e' => { e' with key := lcA x, val := .int .i64 v })) clock)) := by
    simp [Instr.entryStore, MapKept.run_getObj_map hb, asInt, asIntOf, hidx, hmod, MapKept.run_setObj_map _ hb, Result.andThen, ChangeMaps.setBlock]
  have hfind : ∃ j', (Instr.findKey 24 (lcA x) es.toList).run Try.prog w = .ok (some (j', e0.val)) w ∧ es.toList[j']? = some e0 ∧ j' = j := by
    rcases keyed17.find w (key17 hx) es.toList F.keys with ⟨h1, h2⟩ | ⟨j', e1, h1, h2, h3⟩
    · exact absurd g4 (h2 e0 (List.mem_of_getElem? g2))
    · have hjj : j' = j := by
        have hl := (List.getElem?_eq_some_iff.1 h2).1
        refine (List.getElem?_inj (l := es.toList.map (·.key)) (by simpa using hl) s3).1 ?_
        rw [List.getElem?_map, List.getElem?_map, h2, g2]
        simp [h3, g4]
      subst hjj
      rw [g2] at h2
      injection h2 with h2
      subst h2
      exact ⟨j', h1, g2, rfl⟩
  obtain ⟨j', h1, h2, rfl⟩ := hfind
  have hup : (Instr.mapUpdate 45 (.map (some b)) (lcA x) (.int .i64 v)).run Try.prog w = .ok () (ChangeMaps.setBlock w b (.map (es.modify j' (fun e' => { e' with key := lcA x, val := .int .i64 v })) clock)) := by
    simp [Instr.mapUpdate, run_underlying under17, MapKept.run_getObj_map hb, keyed17.check w false (key17 hx), h1, hj, g4, keyed17.stays w (key17 hx), MapKept.run_setObj_map _ hb, Result.andThen, ChangeMaps.setBlock]
  obtain ⟨w', hrun', o1, o2⟩ := hD0.update (e := 3) keyed17 under17 (by simp only [maxLen]; omega) (key17 hx) (R17_int hv)
  rw [hup] at hrun'
  injection hrun' with _ hw
  subst hw
  refine ⟨_, hrun, ⟨_, o1, put17 hD0.isMap hx hT⟩, o2, fun st' y ⟨es', clock', i, e, k1, k2, k3, k4⟩ => ?_⟩
  rw [hb] at k1
  injection k1 with k1
  injection k1 with k1 k1'
  subst k1
  by_cases hij : i = j'
  · subst hij
    rw [g2] at k2
    injection k2 with k2
    subst k2
    refine ⟨_, _, i, { e0 with key := lcA x, val := .int .i64 v }, (heap_block17 w hb).1, ?_, k3, ?_⟩
    · rw [Array.toList_modify, ChangeMaps.modify_eq_set _ _ _ _ g2, List.getElem?_set, if_pos rfl, if_pos (List.getElem?_eq_some_iff.1 g2).1]
    · simp only
      rw [← k4, g4]
  · refine ⟨_, _, i, e, (heap_block17 w hb).1, ?_, k3, k4⟩
    rw [Array.toList_modify, ChangeMaps.modify_eq_set _ _ _ _ g2, List.getElem?_set, if_neg (fun h => hij h.symm)]
    exact k2
end
theorem under17u : Try.prog.underlying 51 = some (.map 24 52) := by kernel_rfl
theorem zero17u (w : World) : (zeroValue 52).run Try.prog w = .ok (.agg #[]) w := by kernel_rfl
/-- Block b is a set of at most n locations. -/
def SetL (w : World) (b n : Nat) (T : LcV → Bool) : Prop := ∃ D, w.ownsMap Try.prog 24 (unitElem (H := Unit)) b n D ∧ ∀ x, lcR x → Maps.has D (litL x) = T x
section
variable {w w' : World} {b n : Nat} {T : LcV → Bool}
theorem SetL.start (w : World) : SetL (w.alloc (.map #[] 0)) w.heap.size 0 (fun _ => false) := ⟨.map [], World.ownsMap_made _ _ _ _, fun x _ => rfl⟩
theorem SetL.kept (h : SetL w b n T) (hb : w'.heap[b]? = w.heap[b]?) : SetL w' b n T := by
  obtain ⟨D, ⟨es, clock, h1, h2, h3, h4⟩, hT⟩ := h
  exact ⟨D, ⟨es, clock, hb.trans h1, h2, h3, h4⟩, hT⟩
theorem SetL.lt (h : SetL w b n T) : b < w.heap.size := by
  obtain ⟨D, hD, -⟩ := h
  exact hD.lt
theorem SetL.below (h : SetL w b n T) (hb : Below w.heap.size w w') : SetL w' b n T := h.kept (hb.block b h.lt)
theorem SetL.look (h : SetL w b n T) {x : LcV} (hx : lcR x) : (Instr.lookup 51 (.map (some b)) (.agg #[.int .i64 x.k, .int .i64 x.n]) true).run Try.prog w = .ok (.tuple #[.agg #[], .bool (T x)]) w := by
  obtain ⟨D, hown, hT⟩ := h
  obtain ⟨v, ps, hrun, hat⟩ := hown.look_ok (zd := .agg []) (zp := []) keyed17 under17u (zero17u w) (unitElem_mk (H := Unit)) (key17 hx)
  rw [hT x hx] at hrun
  obtain ⟨rfl, -⟩ := unitElem_inv hat
  exact hrun
theorem SetL.put (h : SetL w b n T) {x : LcV} (hx : lcR x) (hn : n < 1000000) :
    ∃ w', (Instr.mapUpdate 51 (.map (some b)) (.agg #[.int .i64 x.k, .int .i64 x.n]) (.agg #[])).run Try.prog w = .ok () w' ∧ SetL w' b (n + 1) (fun y => T y || decide (x = y)) ∧ w.grownBy w' (some b) := by
  obtain ⟨D, hD, hT⟩ := h
  obtain ⟨w', hrun, h1, h2⟩ := hD.update (e := 52) keyed17 under17u (by simp only [maxLen]; omega) (key17 hx) (unitElem_mk (H := Unit))
  refine ⟨w', hrun, ⟨_, h1, fun y hy => ?_⟩, h2⟩
  by_cases e : y = x
  · subst e
    rw [has_put_same hD.isMap (keyed17.key (key17 hx))]
    simp
  · rw [has_put_other (fun h => e (litL_inj hy hx h)), hT y hy]
    have : ¬ x = y := fun h => e h.symm
    simp [this]
end
/-- Moves in memory. -/
def MvC (w : World) (b o : Nat) (m : MvV) : Prop := (w.cell? ⟨b, o, none⟩ = some (.int .i64 m.t.k) ∧ w.cell? ⟨b, o + 1, none⟩ = some (.int .i64 m.t.n) ∧ w.cell? ⟨b, o + 2, none⟩ = some (.int .i64 m.f.k) ∧ w.cell? ⟨b, o + 3, none⟩ = some (.int .i64 m.f.n)) ∧ lcR m.t ∧ lcR m.f
def MvsV (w : World) (S : Nat → Prop) (v : Value) (ms : List MvV) : Prop := Vec 4 (MvC w) S v ms
def mvC (m : MvV) : List Value := [.int .i64 m.t.k, .int .i64 m.t.n, .int .i64 m.f.k, .int .i64 m.f.n]
def mvA (m : MvV) : Value := .agg #[.int .i64 m.t.k, .int .i64 m.t.n, .int .i64 m.f.k, .int .i64 m.f.n]
def mvR (l : List MvV) : Prop := ∀ m ∈ l, lcR m.t ∧ lcR m.f
theorem info_mv : (Try.prog.info? 38).map (fun i => (i.zero, i.size, i.bytes)) = some (some (.agg #[.int .i64 0, .int .i64 0, .int .i64 0, .int .i64 0]), 4, 32) := by kernel_rfl
theorem mvC_one (l : List MvV) : ∀ u ∈ l.flatMap mvC, u.oneCell' = true := by
  intro u hu
  obtain ⟨p, hp, hu⟩ := List.mem_flatMap.1 hu
  simp only [mvC, List.mem_cons, List.mem_nil_iff, or_false] at hu
  rcases hu with rfl | rfl | rfl | rfl <;> rfl
section
variable {w w' : World} {S S' : Nat → Prop} {v : Value} {ms : List MvV}
theorem MvsV.keep (h : MvsV w S v ms) (hk : Same' S w w') (hS : ∀ b, S b → S' b) : MvsV w' S' v ms :=
  Vec.mono h hS fun b o _ hb _ ⟨⟨h0, h1, h2, h3⟩, hr⟩ => ⟨⟨(hk b _ hb).trans h0, (hk b _ hb).trans h1, (hk b _ hb).trans h2, (hk b _ hb).trans h3⟩, hr⟩
theorem MvsV.up {W : World} (h : MvsV w (· < w.heap.size) v ms) (hW : Below w.heap.size w W) : MvsV W (· < W.heap.size) v ms := h.keep (fun b o hb => hW.cell (p := ⟨b, o, none⟩) hb) (fun b hb => Nat.lt_of_lt_of_le hb hW.size)
theorem MvsV.open' (h : MvsV w S v ms) : ∃ A c, v = .slice A ms.length c ∧ ms.length ≤ c ∧ c ≤ 9223372036854775807 := by
  obtain ⟨A, c, e, h1, h2, -⟩ := h
  exact ⟨A, c, e, h1, h2⟩
theorem MvsV.get {A : Option Addr} {n c k : Nat} {y : MvV} (h : MvsV w S (.slice A n c) ms) (hy : ms[k]? = some y) : ∃ b o, A = some ⟨b, o, none⟩ ∧ S b ∧ MvC w b (o + k * 4) y := by
  obtain ⟨A', c', e, -, -, h3⟩ := h
  injection e with eA _ _
  subst eA
  obtain ⟨b, o, rfl, hb, hc⟩ := h3 (by have := (List.getElem?_eq_some_iff.1 hy).1; omega)
  exact ⟨b, o, rfl, hb, hc k y hy⟩
theorem MvsV.range (h : MvsV w S v ms) : mvR ms := fun m hm => by
  obtain ⟨A, c, rfl, -, -⟩ := h.open'
  obtain ⟨k, hk⟩ := List.getElem?_of_mem hm
  obtain ⟨b, o, -, -, -, hr⟩ := h.get hk
  exact hr
theorem MvsV.at' {b o n c : Nat} (h : MvsV w (· < w.heap.size) (.slice (some ⟨b, o, none⟩) n c) ms) {W : World} (hW : Below w.heap.size w W) {j : Nat} {y : MvV} (hy : ms[j]? = some y) :
    W.cell? ⟨b, o + j * 4, none⟩ = some (.int .i64 y.t.k) ∧ W.cell? ⟨b, o + j * 4 + 1, none⟩ = some (.int .i64 y.t.n) ∧ W.cell? ⟨b, o + j * 4 + 2, none⟩ = some (.int .i64 y.f.k) ∧ W.cell? ⟨b, o + j * 4 + 3, none⟩ = some (.int .i64 y.f.n) ∧ b < W.heap.size := by
  obtain ⟨b', o', e, hb, ⟨⟨h0, h1, h2, h3⟩, -⟩⟩ := h.get hy
  injection e with e
  injection e with e1 e2 _
  subst e1
  subst e2
  exact ⟨(hW.cell (p := ⟨b, _, none⟩) hb).trans h0, (hW.cell (p := ⟨b, _, none⟩) hb).trans h1, (hW.cell (p := ⟨b, _, none⟩) hb).trans h2, (hW.cell (p := ⟨b, _, none⟩) hb).trans h3, Nat.lt_of_lt_of_le hb hW.size⟩
theorem MvsV.cells {A : Option Addr} {n c : Nat} (h : MvsV w S (.slice A n c) ms) (h0 : 0 < ms.length) : ∃ b o, A = some ⟨b, o, none⟩ ∧ S b ∧ ∀ (j : Nat) (u : Value), (ms.flatMap mvC)[j]? = some u → w.cell? ⟨b, o + j, none⟩ = some u := by
  obtain ⟨A', c', e, -, -, h3⟩ := h
  injection e with eA _ _
  subst eA
  obtain ⟨b, o, rfl, hb, hc⟩ := h3 h0
  refine ⟨b, o, rfl, hb, fun j u hu => ?_⟩
  have hl : (ms.flatMap mvC).length = ms.length * 4 := by
    have : ∀ l : List MvV, (l.flatMap mvC).length = l.length * 4 := fun l => by
      induction l with
      | nil => rfl
      | cons x l ih => rw [List.flatMap_cons, List.length_append, ih, List.length_cons]; simp [mvC]; omega
    exact this ms
  have hj := (List.getElem?_eq_some_iff.1 hu).1
  rw [hl] at hj
  have hq : j / 4 < ms.length := by omega
  have hr : j % 4 < 4 := Nat.mod_lt _ (by omega)
  obtain ⟨⟨h0, h1, h2, h3⟩, -⟩ := hc (j / 4) _ (List.getElem?_eq_getElem hq)
  have e1 : j = j / 4 * 4 + j % 4 := by omega
  rw [e1, flat16 (c := mvC) (fun _ => rfl) ms (j / 4) (j % 4) _ (List.getElem?_eq_getElem hq) hr] at hu
  rw [e1, ← Nat.add_assoc]
  rcases (show j % 4 = 0 ∨ j % 4 = 1 ∨ j % 4 = 2 ∨ j % 4 = 3 by omega) with e | e | e | e <;> rw [e] at hu ⊢ <;> simp [mvC] at hu <;> subst hu <;> assumption
end
end Go.Proofs.Ytkilfejcohnceaa
