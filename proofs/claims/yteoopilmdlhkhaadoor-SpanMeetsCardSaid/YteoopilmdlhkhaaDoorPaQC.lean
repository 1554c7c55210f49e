/- Texts of several names, of which only what the statement needs is kept. -/
import Derived.Test.YteoopilmdlhkhaaDoorPaWA
import Derived.Test.YteoopilmdlhkhaaDoorPaQA
import Derived.Test.YteoopilmdlhkhaaDoorPaJB
import Derived.Test.YteoopilmdlhkhaaDoorPaTIL
import Derived.Maps.OwnSet
import Derived.Lib.SlKeysI
import Derived.Sort.Grow
import Derived.Deep.Cut
import Derived.Deep.CutRange
import Derived.Deep.CutBlock
import Derived.Deep.LoopGhost
import Derived.BigQuiet
/- Layer 15: a map from a variable to its span, in memory. No condition. -/
set_option linter.unusedSimpArgs false
set_option linter.unusedVariables false
namespace Go.Proofs.YteoopilmdlhkhaaDoor
open Go.RowKit Go.Maps

def spD15 (s : SpV) : DataW Unit := .agg [.lit (.int .i64 s.v), .lit (.int .i64 s.f), .lit (.int .i64 s.t), .lit (.bool s.c)]
def spElem15 (v : Value) : Option (DataW Unit × List MemPlace) :=
  match v with
  | .agg ⟨[.int .i64 a, .int .i64 b, .int .i64 c, .bool d]⟩ => some (spD15 ⟨a, b, c, d⟩, [])
  | _ => none
theorem spElem15_mk (s : SpV) : spElem15 (spA s) = some (spD15 s, []) := rfl
theorem spElem15_inv {v : Value} {z : DataW Unit × List MemPlace} (h : spElem15 v = some z) : ∃ s, v = spA s ∧ z = (spD15 s, []) := by
  unfold spElem15 at h
  split at h
  · rename_i a b c d
    cases h
    exact ⟨⟨a, b, c, d⟩, rfl, rfl⟩
  · cases h
theorem spD15_inj {s t : SpV} (h : spD15 s = spD15 t) : s = t := by
  cases s
  cases t
  simpa [spD15] using h
theorem spA15_inj {s t : SpV} (h : spA s = spA t) : s = t := by
  cases s
  cases t
  simpa [spA] using h
theorem under_spans : Tryd.prog.underlying 49 = some (.map 3 23) := by kernel_rfl
theorem keyed15 : Keyed Tryd.prog 3 := int_keyed (q := .i64) (by kernel_rfl)
theorem zero_span15 (w : World) : (zeroValue 23).run Tryd.prog w = .ok (spA ⟨0, 0, 0, false⟩) w := by kernel_rfl
theorem key15 {x : Int} (h : i64R x) : keyOf Tryd.prog 3 (.int .i64 x) = some (.int .i64 x) := keyOf_int_mk (q := .i64) (by kernel_rfl) (WalkArith.wf_i64 h)
theorem key15_inv {v : Value} {kl : Lit} (h : keyOf Tryd.prog 3 v = some kl) : ∃ x, i64R x ∧ v = .int .i64 x ∧ kl = .int .i64 x := by
  obtain ⟨x, h1, h2, h3⟩ := Maps.keyOf_i64 (show Tryd.prog.underlying 3 = some (.int .i64) by kernel_rfl) h
  refine ⟨x, ?_, h1, h2⟩
  simp [Lit.wf, IntKind.min, IntKind.max, IntKind.signed, IntKind.bits] at h3
  unfold i64R
  omega
/-- Block b is a map of at most n entries: the spans that F has, by their variables. -/
def MpS15 (w : World) (b n : Nat) (F : SpF15) : Prop := ∃ D : DataW Unit, w.ownsMap Tryd.prog 3 spElem15 b n D ∧ ∀ x, i64R x → Maps.has D (.int .i64 x) = (F x).isSome ∧ ∀ s, F x = some s → ∀ z, D.atKey (.int .i64 x) z = spD15 s
set_option maxRecDepth 100000 in
theorem MpS15.start (w : World) : MpS15 (w.alloc (.map #[] 0)) w.heap.size 0 (fun _ => none) := ⟨.map [], World.ownsMap_made _ _ _ _, fun x _ => ⟨rfl, fun s h => by cases h⟩⟩
theorem MpS15.kept {w w' : World} {b n : Nat} {F : SpF15} (h : MpS15 w b n F) (hb : w'.heap[b]? = w.heap[b]?) : MpS15 w' b n F := by
  obtain ⟨D, ⟨es, clock, h1, h2, h3, h4⟩, hT⟩ := h
  exact ⟨D, ⟨es, clock, hb.trans h1, h2, h3, h4⟩, hT⟩
theorem MpS15.lt {w : World} {b n : Nat} {F : SpF15} (h : MpS15 w b n F) : b < w.heap.size := by
  obtain ⟨D, ⟨es, clock, h1, -⟩, -⟩ := h
  exact (Array.getElem?_eq_some_iff.1 h1).1
theorem MpS15.below {w w' : World} {b n : Nat} {F : SpF15} (h : MpS15 w b n F) (hb : Below w.heap.size w w') : MpS15 w' b n F := h.kept (hb.block b h.lt)
theorem MpS15.mono {w : World} {b n m : Nat} {F : SpF15} (h : MpS15 w b n F) (hm : n ≤ m) : MpS15 w b m F := by
  obtain ⟨D, h1, h2⟩ := h
  exact ⟨D, h1.mono hm, h2⟩
theorem MpS15.look {w : World} {b n : Nat} {F : SpF15} (h : MpS15 w b n F) {x : Int} (hx : i64R x) : ∃ s, (Instr.lookup 49 (.map (some b)) (.int .i64 x) true).run Tryd.prog w = .ok (.tuple #[spA s, .bool (F x).isSome]) w ∧ ∀ t, F x = some t → s = t := by
  obtain ⟨D, hown, hT⟩ := h
  obtain ⟨v, ps, hrun, hat⟩ := hown.look_ok (zd := spD15 ⟨0, 0, 0, false⟩) (zp := []) keyed15 under_spans (zero_span15 w) (spElem15_mk ⟨0, 0, 0, false⟩) (key15 hx)
  rw [(hT x hx).1] at hrun
  obtain ⟨s, rfl, he⟩ := spElem15_inv hat
  refine ⟨s, hrun, fun t ht => ?_⟩
  have e := (hT x hx).2 t ht (spD15 ⟨0, 0, 0, false⟩)
  have e2 := congrArg Prod.fst he
  simp only at e2
  exact spD15_inj (e2.symm.trans e)
theorem MpS15.look1 {w : World} {b n : Nat} {F : SpF15} (h : MpS15 w b n F) {x : Int} (hx : i64R x) : ∃ s, (Instr.lookup 49 (.map (some b)) (.int .i64 x) false).run Tryd.prog w = .ok (spA s) w ∧ ∀ t, F x = some t → s = t := by
  obtain ⟨D, hown, hT⟩ := h
  obtain ⟨v, ps, hrun, hat⟩ := hown.lookup (zd := spD15 ⟨0, 0, 0, false⟩) (zp := []) keyed15 under_spans (zero_span15 w) (spElem15_mk ⟨0, 0, 0, false⟩) (key15 hx)
  obtain ⟨s, rfl, he⟩ := spElem15_inv hat
  refine ⟨s, hrun, fun t ht => ?_⟩
  have e := (hT x hx).2 t ht (spD15 ⟨0, 0, 0, false⟩)
  have e2 := congrArg Prod.fst he
  simp only at e2
  exact spD15_inj (e2.symm.trans e)
set_option maxRecDepth 100000 in
theorem MpS15.put {w : World} {b n : Nat} {F : SpF15} (h : MpS15 w b n F) {x : Int} (hx : i64R x) (s : SpV) (hn : n < 1000000000) :
    ∃ w', (Instr.mapUpdate 49 (.map (some b)) (.int .i64 x) (spA s)).run Tryd.prog w = .ok () w' ∧ MpS15 w' b (n + 1) (upd15 F x s) ∧ w.grownBy w' (some b) := by
  obtain ⟨D, hD, hT⟩ := h
  obtain ⟨w', hrun, h1, h2⟩ := hD.update (e := 23) keyed15 under_spans (by simp only [maxLen]; omega) (key15 hx) (spElem15_mk s)
  refine ⟨w', hrun, ⟨_, h1, fun y hy => ?_⟩, h2⟩
  unfold upd15
  by_cases e : y = x
  · subst e
    refine ⟨?_, fun t ht z => ?_⟩
    · rw [if_pos rfl, has_put_same hD.isMap (keyed15.key (key15 hx))]
      rfl
    · rw [if_pos rfl] at ht
      injection ht with ht
      subst ht
      rw [atKey_put_same hD.isMap (keyed15.key (key15 hx))]
  · rw [if_neg e]
    refine ⟨?_, fun t ht z => ?_⟩
    · rw [has_put_other (fun h => e (by injection h))]
      exact (hT y hy).1
    · rw [atKey_put_other (fun h => e (by injection h))]
      exact (hT y hy).2 t ht z
end Go.Proofs.YteoopilmdlhkhaaDoor

/- Layer 16: cmp.Or, rising. No condition but on lengths. -/
set_option linter.unusedSimpArgs false
set_option linter.unusedVariables false
namespace Go.Proofs.YteoopilmdlhkhaaDoor
open Go.RowKit

def orL (zs : List Int) : Int := (zs.find? (fun z => decide (z ≠ 0))).getD 0
theorem orL_take {zs : List Int} {k : Nat} {z : Int} (h : ∀ y ∈ zs.take k, y = 0) (hz : zs[k]? = some z) (hn : z ≠ 0) : orL zs = z := by
  unfold orL
  obtain ⟨hk1, hk2⟩ := List.getElem?_eq_some_iff.1 hz
  have e := (List.take_append_drop k zs).symm
  rw [List.drop_eq_getElem_cons hk1, hk2] at e
  rw [e, List.find?_append, List.find?_eq_none.2 (fun y hy => by simp [h y hy])]
  simp [hn]
theorem orL_none {zs : List Int} (h : ∀ y ∈ zs, y = 0) : orL zs = 0 := by
  unfold orL
  rw [List.find?_eq_none.2 (fun y hy => by simp [h y hy])]
  rfl
set_option maxRecDepth 100000 in
theorem qor_any (A : Option Addr) (n c B : Nat) (zs : List Int) (w : World) (hn : zs.length = n) (hm : n ≤ 1000000) (hs : Sl w B .i64 A zs) : Calls Tryd.prog 11 #[.slice A n c] w fun e w' => e = .returned (.int .i64 (orL zs)) ∧ w = w' := by
  have HS := hide hs
  have HN := hide hn
  clear hs hn
  go_enter Tryd.func11, Tryd.ntmps11
  go_wp2
  go_loop [8] (fun i => ∃ k : Nat, k ≤ n ∧ i = .int .i64 k ∧ Hid (∀ y ∈ zs.take k, y = 0)) (fun i => n - (intOf i).toNat)
  case atStart => exact ⟨0, Nat.zero_le _, rfl, hide (by simp)⟩
  case round =>
    obtain ⟨k, hk, rfl, hz⟩ := hrel
    by_cases hlt : k < n
    · obtain ⟨y, hy⟩ : ∃ y, zs[k]? = some y := ⟨_, List.getElem?_eq_getElem (by have := HN.out; omega)⟩
      obtain ⟨b, o, rfl, hb, hc⟩ := HS.out (by have := HN.out; omega)
      have c0 := hc k (by have := HN.out; omega)
      have hyd : zs.getD k 0 = y := by rw [List.getD, hy]; rfl
      rw [hyd] at c0
      have HY := hide hy
      clear hy hc hyd
      by_cases h0 : y = 0
      · have HE := hide h0
        subst h0
        go_wp2
        go_round
        case rel => exact ⟨k + 1, by omega, by go_num, hide (fun z hz' => by
          rw [List.take_add_one, HY.out] at hz'
          simp at hz'
          rcases hz' with h | h
          · exact hz.out z h
          · exact h)⟩
        case measure => simp [intOf]; omega
      · go_wp2
        go_ret
        exact ⟨by rw [orL_take hz.out HY.out h0]; rfl, rfl⟩
    · go_wp2
      go_ret
      exact ⟨by rw [orL_none (fun y hy => hz.out y (by rw [List.take_of_length_le (by have := HN.out; omega)]; exact hy))]; rfl, rfl⟩
def riseN (a b : SpV) : Int := orL [cmpI a.f b.f, cmpI a.v b.v]
end Go.Proofs.YteoopilmdlhkhaaDoor

/- Layer 16: locations in memory; whether a number is taken, the least that is free. Condition: no more than 48 spans. -/
set_option linter.unusedSimpArgs false
set_option linter.unusedVariables false
namespace Go.Proofs.YteoopilmdlhkhaaDoor
open Go.RowKit

theorem lBox {w v : World} {c : Array Value} {T : TypeId} {h : Nat} (e : v = w.alloc (.cells c T)) (f : w.heap.size = h) : Hid (Box v h c T) := by subst e; subst f; exact Box.new w _ _
theorem lBel {w v : World} {o : Obj} (e : v = w.alloc o) : Hid (Below w.heap.size w v) := by subst e; exact alloc1 w _
theorem letr {α : Sort _} (x : α) : ∃ y, y = x := ⟨x, rfl⟩
theorem letl {α : Sort _} (x : α) : ∃ y, x = y := ⟨x, rfl⟩
/-- The cells of spans, in every later world. -/
theorem SpsV.at' {w : World} {b o n c : Nat} {ss : List SpV} (h : SpsV w (· < w.heap.size) (.slice (some ⟨b, o, none⟩) n c) ss) {W : World} (hW : Below w.heap.size w W) {j : Nat} {y : SpV} (hy : ss[j]? = some y) :
    W.cell? ⟨b, o + j * 4, none⟩ = some (.int .i64 y.v) ∧ W.cell? ⟨b, o + j * 4 + 1, none⟩ = some (.int .i64 y.f) ∧ W.cell? ⟨b, o + j * 4 + 2, none⟩ = some (.int .i64 y.t) ∧ W.cell? ⟨b, o + j * 4 + 3, none⟩ = some (.bool y.c) ∧ b < W.heap.size := by
  obtain ⟨b', o', e, hb, ⟨h0, h1, h2, h3⟩, -⟩ := h.get hy
  injection e with e
  injection e with e1 e2 e3
  subst e1
  subst e2
  exact ⟨(hW.cell (p := ⟨b, _, none⟩) hb).trans h0, (hW.cell (p := ⟨b, _, none⟩) hb).trans h1, (hW.cell (p := ⟨b, _, none⟩) hb).trans h2, (hW.cell (p := ⟨b, _, none⟩) hb).trans h3, Nat.lt_of_lt_of_le hb hW.size⟩
theorem LcsV.at' {w : World} {b o n c : Nat} {ls : List LcV} (h : LcsV w (· < w.heap.size) (.slice (some ⟨b, o, none⟩) n c) ls) {W : World} (hW : Below w.heap.size w W) {j : Nat} {y : LcV} (hy : ls[j]? = some y) :
    W.cell? ⟨b, o + j * 2, none⟩ = some (.int .i64 y.k) ∧ W.cell? ⟨b, o + j * 2 + 1, none⟩ = some (.int .i64 y.n) ∧ b < W.heap.size := by
  obtain ⟨b', o', e, hb, ⟨h0, h1⟩, -⟩ := h.get hy
  injection e with e
  injection e with e1 e2 e3
  subst e1
  subst e2
  exact ⟨(hW.cell (p := ⟨b, _, none⟩) hb).trans h0, (hW.cell (p := ⟨b, _, none⟩) hb).trans h1, Nat.lt_of_lt_of_le hb hW.size⟩
theorem SpsV.up {w W : World} {v : Value} {ss : List SpV} (h : SpsV w (· < w.heap.size) v ss) (hW : Below w.heap.size w W) : SpsV W (· < W.heap.size) v ss := h.keep (fun b o hb => hW.cell (p := ⟨b, o, none⟩) hb) (fun b hb => Nat.lt_of_lt_of_le hb hW.size)
theorem LcsV.up {w W : World} {v : Value} {ls : List LcV} (h : LcsV w (· < w.heap.size) v ls) (hW : Below w.heap.size w W) : LcsV W (· < W.heap.size) v ls := h.keep (fun b o hb => hW.cell (p := ⟨b, o, none⟩) hb) (fun b hb => Nat.lt_of_lt_of_le hb hW.size)
end Go.Proofs.YteoopilmdlhkhaaDoor
