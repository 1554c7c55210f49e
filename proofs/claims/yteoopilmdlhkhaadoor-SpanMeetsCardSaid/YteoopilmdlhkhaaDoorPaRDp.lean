/- The reference's Decode: what is under way in memory, level by level, and the append to an own list that a box keeps. No condition. -/
import Derived.Test.YteoopilmdlhkhaaDoorPaRDo
set_option linter.unusedSimpArgs false
set_option linter.unusedVariables false
namespace Go.Proofs.YteoopilmdlhkhaaDoor
open Go.RowKit

/-- append(v, y) to an own list; y laid in a block of its own. -/
theorem wpList_append_c {P : Program} {β : Type} {c : β → List Value} {T : TypeId} {sz : Nat} (w : World) {ops : Array Oper} {rest : List Oper} {o : Oper} {a : Act} {Q : Exit → Act → World → Prop} (hgd : o.guard = none) (s x : Operand) (t : TypeId)
    (ho : o.op = .call { callee := .builtin .append, args := #[s, x], argTypes := #[t, t] })
    (base : Nat) (i : TypeInfo) (z : Value) (bytes : Nat) (ht : P.underlying t = some (.slice T)) (hi : P.info? T = some i) (hz : i.zero = some z)
    (hsize : i.size = sz) (hby : i.bytes = bytes) (hzs : z.cells.size = sz) (hs0 : 0 < sz) (hb : bytes ≤ 1000)
    (v : Value) (l : List β) (n : Nat) (hln : l.length = n) (hs : a.eval s = v) (hown : OwC c T sz w base v l) (y : β) (hy : (c y).length = sz) (h1 : ∀ u ∈ c y, u.oneCell' = true) (H : Nat) (cs : Array Value) (hH : Box w H cs T) (hcs : cs.toList = c y)
    (hx : a.eval x = .slice (some ⟨H, 0, none⟩) 1 1)
    (hroom : n < 1000000) (hbase : base ≤ w.heap.size)
    (h : ∀ g cap w', OwC c T sz w' base (.slice (some ⟨g, 0, none⟩) (n + 1) cap) (l ++ [y]) → w.grownBy w' v.ownBlock → (v.ownBlock = some g ∨ g = w.heap.size) → g < w'.heap.size → wpList P ops Q rest (a.put o.dst (.slice (some ⟨g, 0, none⟩) (n + 1) cap)) w') :
    wpList P ops Q (o :: rest) a w := by
  subst hln
  exact wpList_append_lies w hgd s x t ho base T i z sz bytes ht hi hz hsize hby hzs hs0 v l.length (l.flatMap c) hs hown ⟨H, 0, none⟩ 1 1 (c y) hx (by rw [hy, Nat.one_mul])
    (by rw [← hcs]; exact World.news_of_block hH) h1 (by omega) (by simp only [maxLen]; omega) (by
      have : (l.length + 1) * bytes ≤ 1000000 * 1000 := Nat.mul_le_mul (by omega) hb
      omega) hbase w.heap.size rfl
    fun g cap w' h2 h3 h4 h5 => h g cap w' (by unfold OwC; rw [List.flatMap_append, List.length_append, List.flatMap_cons, List.flatMap_nil, List.append_nil]; exact h2) h3 h4 h5
/-- Finished: above H, there, and not v's own. -/
def FB (H : Nat) (w : World) (v : Value) (b : Nat) : Prop := H < b ∧ b < w.heap.size ∧ v.ownBlock ≠ some b
section
variable {β : Type} {c : β → List Value} {T Tb : TypeId} {sz h j : Nat} {w w4 w5 : World} {v v5 : Value} {l l5 : List β} {cs : Array Value}
theorem apd_below (hb : Box w h cs Tb) (hr : OwC c T sz w (h + 1) v l) (hb4 : Below w.heap.size w w4) (hgr : w4.grownBy w5 v.ownBlock) : Below (h + 1) w w5 :=
  (hb4.mono (by have := hb.lt; omega)).grown hgr (by have := hb.lt; have := hb4.size; omega) (fun k hk => (hr.lt k hk).1)
theorem apd_box (hb : Box w h cs Tb) (hr : OwC c T sz w (h + 1) v l) (hb4 : Below w.heap.size w w4) (hgr : w4.grownBy w5 v.ownBlock) : Box (w5.setCell ⟨h, j, none⟩ v5) h (cs.setIfInBounds j v5) Tb :=
  (hb.belowB (apd_below hb hr hb4 hgr) (by omega)).set j v5
theorem apd_own (hr5 : OwC c T sz w5 (h + 1) v5 l5) : OwC c T sz (w5.setCell ⟨h, j, none⟩ v5) (h + 1) v5 l5 :=
  hr5.kept fun g hg => heap_setCell_other w5 ⟨h, j, none⟩ g v5 (fun e => by
    have := (hr5.lt g hg).1
    simp only at e
    omega)
theorem apd_heap (hb4 : Below w.heap.size w w4) (hgr : w4.grownBy w5 v.ownBlock) {b : Nat} (hl : b < w.heap.size) (hn : b ≠ h) (ho : v.ownBlock ≠ some b) : (w5.setCell ⟨h, j, none⟩ v5).heap[b]? = w.heap[b]? :=
  (heap_setCell_other w5 ⟨h, j, none⟩ b v5 hn).trans ((hgr.block b (by have := hb4.size; omega) (Ne.symm ho)).trans (hb4.block b hl))
theorem apd_size (hb4 : Below w.heap.size w w4) (hgr : w4.grownBy w5 v.ownBlock) : w.heap.size ≤ (w5.setCell ⟨h, j, none⟩ v5).heap.size := by
  have := hb4.size
  have := hgr.size
  rw [World.size_setCell]
  omega
theorem apd_same (hb4 : Below w.heap.size w w4) (hgr : w4.grownBy w5 v.ownBlock) : Same' (FB h w v) w (w5.setCell ⟨h, j, none⟩ v5) := fun b o hb =>
  World.cell?_of_block (a := ⟨b, o, none⟩) (apd_heap (b := b) hb4 hgr hb.2.1 (Nat.ne_of_gt hb.1) hb.2.2)
theorem apd_move (hb4 : Below w.heap.size w w4) (hgr : w4.grownBy w5 v.ownBlock) (hv5 : ∀ b, v5.ownBlock = some b → v.ownBlock = some b ∨ w.heap.size ≤ b) : ∀ b, FB h w v b → FB h (w5.setCell ⟨h, j, none⟩ v5) v5 b := fun b hb =>
  ⟨hb.1, by have := apd_size (h := h) (j := j) (v5 := v5) hb4 hgr; have := hb.2.1; omega, fun e => by
    rcases hv5 b e with h1 | h1
    · exact hb.2.2 h1
    · have := hb.2.1
      omega⟩
end
section
variable {w w' : World} {H g : Nat} {v : Value}
theorem fb_same (hr : Read g w w') (hg : g ≤ H) : Same' (FB H w v) w w' := hr.same fun b hb => ⟨hb.2.1, by have := hb.1; omega⟩
theorem fb_move (hz : w.heap.size ≤ w'.heap.size) : ∀ b, FB H w v b → FB H w' v b := fun b hb => ⟨hb.1, by have := hb.2.1; omega, hb.2.2⟩
/-- The code of a block under way. -/
structure XCo (w : World) (hx : Nat) (v : Value) (ys : List (InsV × Value)) : Prop where
  box : Box w hx #[v] 31
  own : OwC insC 28 7 w (hx + 1) v ys
  ins : ∀ y ∈ ys, InsI w (FB hx w v) y.2 y.1
theorem XCo.new (w : World) : XCo (w.alloc (.cells #[.slice none 0 0] 31)) w.heap.size (.slice none 0 0) [] := ⟨Box.new w _ _, OwC.nil _ _, fun _ h => by cases h⟩
theorem XCo.read {hx : Nat} {ys : List (InsV × Value)} (h : XCo w hx v ys) (hr : Read g w w') (hg : g < hx) : XCo w' hx v ys :=
  ⟨hr.box h.box (by omega), h.own.kept (fun k hk => hr.block k (h.own.lt k hk).2 (by have := (h.own.lt k hk).1; omega)), fun y hy => (h.ins y hy).keep (fb_same hr (by omega)) (fb_move hr.size)⟩
theorem XCo.app {hx : Nat} {ys : List (InsV × Value)} {w4 w5 : World} {v5 va : Value} {x : InsV} (h : XCo w hx v ys) (hn : InsI w (FB hx w v) va x) (hb4 : Below w.heap.size w w4) (hgr : w4.grownBy w5 v.ownBlock)
    (hr5 : OwC insC 28 7 w5 (hx + 1) v5 (ys ++ [(x, va)])) (hv5 : ∀ b, v5.ownBlock = some b → v.ownBlock = some b ∨ w.heap.size ≤ b) : XCo (w5.setCell ⟨hx, 0, none⟩ v5) hx v5 (ys ++ [(x, va)]) :=
  ⟨by have := apd_box (j := 0) (v5 := v5) h.box h.own hb4 hgr; simpa using this, apd_own hr5, fun y hy => by
    have hk := apd_same (h := hx) (j := 0) (v5 := v5) hb4 hgr
    have hm := apd_move (h := hx) (j := 0) hb4 hgr hv5
    rcases List.mem_append.1 hy with hy | hy
    · exact (h.ins y hy).keep hk hm
    · simp at hy
      subst hy
      exact hn.keep hk hm⟩
theorem XCo.vec {hx : Nat} {ys : List (InsV × Value)} (h : XCo w hx v ys) {S : Nat → Prop} (hS : ∀ b, hx < b → b < w.heap.size → S b) : InssV w S v (ys.map (·.1)) :=
  codes_vec h.own (fun p hp => (h.ins p hp).keep (w' := w) (fun _ _ _ => rfl) (fun b hb => hS b hb.1 hb.2.1)) (fun b hb => hS b (by have := (h.own.lt b hb).1; omega) (h.own.lt b hb).2)
def intC (z : Int) : List Value := [.int .i64 z]
theorem intC_map : ∀ l : List Int, l.flatMap intC = l.map (Value.int .i64)
  | [] => rfl
  | x :: l => by rw [List.flatMap_cons, intC_map l]; rfl
theorem OwC.ints {base : Nat} {zs : List Int} (h : OwC intC 3 1 w base v zs) : Ow w base 3 .i64 v zs := by
  unfold OwC at h
  rw [intC_map] at h
  exact h
/-- The variables of a function under way. -/
structure XVo (w : World) (hf : Nat) (p r : Int) (vk vb : Value) (ks bs : List Int) : Prop where
  box : Box w hf #[vk, vb, .int .i64 p, .int .i64 r, .slice none 0 0] 34
  ownk : OwC intC 3 1 w (hf + 1) vk ks
  ownb : OwC intC 3 1 w (hf + 1) vb bs
  apart : ∀ b, vk.ownBlock = some b → vb.ownBlock ≠ some b
  kr : ∀ z ∈ ks, i64R z
  br : ∀ z ∈ bs, i64R z
theorem XVo.new (w : World) : XVo (w.alloc (.cells #[.slice none 0 0, .slice none 0 0, .int .i64 0, .int .i64 0, .slice none 0 0] 34)) w.heap.size 0 0 (.slice none 0 0) (.slice none 0 0) [] [] :=
  ⟨Box.new w _ _, OwC.nil _ _, OwC.nil _ _, fun _ h => (by cases h), fun _ h => (by cases h), fun _ h => (by cases h)⟩
section
variable {hf : Nat} {p r : Int} {vk vb : Value} {ks bs : List Int}
theorem XVo.read (h : XVo w hf p r vk vb ks bs) (hr : Read g w w') (hg : g < hf) : XVo w' hf p r vk vb ks bs :=
  ⟨hr.box h.box (by omega), h.ownk.kept (fun k hk => hr.block k (h.ownk.lt k hk).2 (by have := (h.ownk.lt k hk).1; omega)), h.ownb.kept (fun k hk => hr.block k (h.ownb.lt k hk).2 (by have := (h.ownb.lt k hk).1; omega)), h.apart, h.kr, h.br⟩
/-- The blocks of a function under way. -/
structure XBo (w : World) (hf : Nat) (p r : Int) (vk vb : Value) (ks bs : List Int) (v : Value) (ys : List (List InsV × Value)) : Prop where
  box : Box w hf #[vk, vb, .int .i64 p, .int .i64 r, v] 34
  kinds : IntsV w (FB hf w v) vk ks
  base : IntsV w (FB hf w v) vb bs
  own : OwC blkC 31 1 w (hf + 1) v ys
  blk : ∀ y ∈ ys, InssV w (FB hf w v) y.2 y.1
theorem XVo.xb (h : XVo w hf p r vk vb ks bs) : XBo w hf p r vk vb ks bs (.slice none 0 0) [] :=
  ⟨h.box, ints_vec h.ownk.ints h.kr (fun b hb => ⟨by have := (h.ownk.lt b hb).1; omega, (h.ownk.lt b hb).2, fun e => (by cases e)⟩), ints_vec h.ownb.ints h.br (fun b hb => ⟨by have := (h.ownb.lt b hb).1; omega, (h.ownb.lt b hb).2, fun e => (by cases e)⟩), OwC.nil _ _, fun _ h => by cases h⟩
variable {ys : List (List InsV × Value)}
theorem XBo.read (h : XBo w hf p r vk vb ks bs v ys) (hr : Read g w w') (hg : g < hf) : XBo w' hf p r vk vb ks bs v ys :=
  ⟨hr.box h.box (by omega), h.kinds.keep (fb_same hr (by omega)) (fb_move hr.size), h.base.keep (fb_same hr (by omega)) (fb_move hr.size), h.own.kept (fun k hk => hr.block k (h.own.lt k hk).2 (by have := (h.own.lt k hk).1; omega)), fun y hy => (h.blk y hy).keep (fb_same hr (by omega)) (fb_move hr.size)⟩
theorem XBo.app {w4 w5 : World} {v5 va : Value} {x : List InsV} (h : XBo w hf p r vk vb ks bs v ys) (hn : InssV w (FB hf w v) va x) (hb4 : Below w.heap.size w w4) (hgr : w4.grownBy w5 v.ownBlock)
    (hr5 : OwC blkC 31 1 w5 (hf + 1) v5 (ys ++ [(x, va)])) (hv5 : ∀ b, v5.ownBlock = some b → v.ownBlock = some b ∨ w.heap.size ≤ b) : XBo (w5.setCell ⟨hf, 4, none⟩ v5) hf p r vk vb ks bs v5 (ys ++ [(x, va)]) := by
  have hk := apd_same (h := hf) (j := 4) (v5 := v5) hb4 hgr
  have hm := apd_move (h := hf) (j := 4) hb4 hgr hv5
  refine ⟨by have := apd_box (j := 4) (v5 := v5) h.box h.own hb4 hgr; simpa using this, h.kinds.keep hk hm, h.base.keep hk hm, apd_own hr5, fun y hy => ?_⟩
  rcases List.mem_append.1 hy with hy | hy
  · exact (h.blk y hy).keep hk hm
  · simp at hy
    subst hy
    exact hn.keep hk hm
theorem XBo.fun (h : XBo w hf p r vk vb ks bs v ys) (hp : i64R p) (hr : i64R r) {S : Nat → Prop} (hS : ∀ b, hf < b → b < w.heap.size → S b) : FunI w S vk vb v ⟨ks, bs, p, r, ys.map (·.1)⟩ :=
  ⟨h.kinds.keep (w' := w) (fun _ _ _ => rfl) (fun b hb => hS b hb.1 hb.2.1), h.base.keep (w' := w) (fun _ _ _ => rfl) (fun b hb => hS b hb.1 hb.2.1),
    blks_vec h.own (fun y hy => (h.blk y hy).keep (w' := w) (fun _ _ _ => rfl) (fun b hb => hS b hb.1 hb.2.1)) (fun b hb => hS b (by have := (h.own.lt b hb).1; omega) (h.own.lt b hb).2), hp, hr⟩
end
section
variable {hp : Nat} {ys : List (FunV × Value × Value × Value)}
end
end
end Go.Proofs.YteoopilmdlhkhaaDoor
