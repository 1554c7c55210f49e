/- Layer 13, the program: what a function's copy has while its edges are split. No condition. -/
import Derived.Test.YtnoknodijombpaaDoorPhDE
import Derived.Test.YtnoknodijombpaaDoorPhDH
import Derived.Test.YtnoknodijombpaaDoorPhDI
import Derived.Laws.ResultCell
set_option linter.unusedSimpArgs false
set_option linter.unusedVariables false
namespace Go.Proofs.YtnoknodijombpaaDoor
open Go.RowKit

structure SplB (fp fr : Int) (ks es : List Int) (base h1 : Nat) (v1 v2 v3 : Value) (l : List (List InsV × Value)) (w0 w : World) : Prop where
  bx : Box w h1 #[v1, v2, .int .i64 fp, .int .i64 fr, v3] 34
  bz : Box w (h1 + 1) #[.slice none 0 0, .slice none 0 0, .int .i64 0, .int .i64 0, .slice none 0 0] 34
  ok : Ow w base 3 .i64 v1 ks
  oe : Ow w base 3 .i64 v2 es
  m : BlkM w base v3 l
  bel : Below w0.heap.size w0 w
section
variable {fp fr : Int} {ks es : List Int} {base h1 : Nat} {v1 v2 v3 : Value} {l l' : List (List InsV × Value)} {w0 w w' : World}
theorem SplB.start {u0 u1 u2 u3 u4 : Value} (hx : Box w h1 #[u0, u1, u2, u3, u4] 34) (hz : Box w (h1 + 1) #[.slice none 0 0, .slice none 0 0, .int .i64 0, .int .i64 0, .slice none 0 0] 34) (ho1 : Ow w base 3 .i64 v1 ks) (ho2 : Ow w base 3 .i64 v2 es) (hm : BlkM w base v3 l) (hb : Below w0.heap.size w0 w) (hh : w0.heap.size ≤ h1) :
    SplB fp fr ks es base h1 v1 v2 v3 l w0 (end5 w h1 v1 v2 (.int .i64 fp) (.int .i64 fr) v3) :=
  ⟨hx.end5, (end5_blk (by omega)).trans hz, ho1.end5 hx.tb, ho2.end5 hx.tb, hm.end5 hx.tb, end5_below hb hh⟩
theorem SplB.below (h : SplB fp fr ks es base h1 v1 v2 v3 l w0 w) (hb : Below w.heap.size w w') : SplB fp fr ks es base h1 v1 v2 v3 l w0 w' :=
  ⟨h.bx.below hb, h.bz.below hb, h.ok.below hb, h.oe.below hb, h.m.below hb, h.bel.trans (hb.mono h.bel.size)⟩
theorem tb_ne {w : World} {T T' : TypeId} {a b : Nat} (ha : TB w T a) (hb : TB w T' b) (hT : T ≠ T') : a ≠ b := fun e => hT (by subst e; exact ha.one hb)
theorem Ow.tbI {w : World} {base : Nat} {v : Value} {zs : List Int} (ho : Ow w base 3 .i64 v zs) {g : Nat} (hg : v.ownBlock = some g) : TB w 3 g := by
  obtain ⟨-, -, c, hc⟩ := ho.row' g hg
  exact ⟨_, _, hc⟩
/-- An instruction of a block was stored into. -/
theorem SplB.turned {g : Nat} (h : SplB fp fr ks es base h1 v1 v2 v3 l w0 w) (hbut : But g w w') (hT : TB w 38 g) (hg : w0.heap.size ≤ g) (hm : BlkM w' base v3 l') : SplB fp fr ks es base h1 v1 v2 v3 l' w0 w' :=
  ⟨(hbut.block h1 h.bx.lt (tb_ne h.bx.tb hT (by decide))).trans h.bx, (hbut.block (h1 + 1) h.bz.lt (tb_ne h.bz.tb hT (by decide))).trans h.bz,
    h.ok.kept' fun x hx => hbut.block x (h.ok.tbI hx).lt (tb_ne (h.ok.tbI hx) hT (by decide)), h.oe.kept' fun x hx => hbut.block x (h.oe.tbI hx).lt (tb_ne (h.oe.tbI hx) hT (by decide)), hm,
    h.bel.trans ⟨hbut.os, hbut.tape, hbut.output, hbut.size, fun k hk => hbut.block k (by have := h.bel.size; omega) (by omega)⟩⟩
def jmpC (t : Int) : Array Value := #[.int .i64 21, .int .i64 0, .int .i64 0, .int .i64 0, .int .i64 t, .int .i64 0, .slice none 0 0]
theorem SplB.app_box {t : Int} {w5 : World} (h : SplB fp fr ks es base h1 v1 v2 v3 l w0 w) (hgr : ((w.alloc (.cells (jmpC t) 38)).alloc (.cells #[.slice (some ⟨w.heap.size, 0, none⟩) 1 1] 41)).grownBy w5 v3.ownBlock) :
    Box w5 h1 #[v1, v2, .int .i64 fp, .int .i64 fr, v3] 34 ∧ ∀ b, b < base → b < w.heap.size → w5.heap[b]? = w.heap[b]? := by
  have hb4 : Below w.heap.size w ((w.alloc (.cells (jmpC t) 38)).alloc (.cells #[.slice (some ⟨w.heap.size, 0, none⟩) 1 1] 41)) := alloc2 w _ _
  have hk : ∀ b, b < w.heap.size → v3.ownBlock ≠ some b → w5.heap[b]? = w.heap[b]? := fun b hb hn => (hgr.block b (by have := hb4.size; omega) (fun e => hn e.symm)).trans (hb4.block b hb)
  exact ⟨(hk h1 h.bx.lt (fun e => tb_ne h.bx.tb (h.m.own.row _ e) (by decide) rfl)).trans h.bx, fun b hb hbw => hk b hbw (fun e => by have := (h.m.own.lt b e).1; omega)⟩
/-- A block more, and the function's field anew. -/
theorem SplB.app {t : Int} {v5 : Value} {w5 : World} (h : SplB fp fr ks es base h1 v1 v2 v3 l w0 w) (hb0 : w0.heap.size ≤ base) (hbw : base ≤ w.heap.size) (hh : w0.heap.size ≤ h1) (ht : i64R t) (hgr : ((w.alloc (.cells (jmpC t) 38)).alloc (.cells #[.slice (some ⟨w.heap.size, 0, none⟩) 1 1] 41)).grownBy w5 v3.ownBlock) (ho : OwC blkC 41 1 w5 base v5 (l ++ [([jumpI t], .slice (some ⟨w.heap.size, 0, none⟩) 1 1)])) :
    SplB fp fr ks es base h1 v1 v2 v5 (l ++ [([jumpI t], .slice (some ⟨w.heap.size, 0, none⟩) 1 1)]) w0 (w5.setCell ⟨h1, 4, none⟩ v5) := by
  have hb4 : Below w.heap.size w ((w.alloc (.cells (jmpC t) 38)).alloc (.cells #[.slice (some ⟨w.heap.size, 0, none⟩) 1 1] 41)) := alloc2 w _ _
  have hk : ∀ b, b < w.heap.size → v3.ownBlock ≠ some b → w5.heap[b]? = w.heap[b]? := fun b hb hn => (hgr.block b (by have := hb4.size; omega) (fun e => hn e.symm)).trans (hb4.block b hb)
  have hoB : ∀ b, v3.ownBlock = some b → TB w 41 b := fun b hb => h.m.own.row b hb
  have hz : w.heap.size + 1 + 1 ≤ w5.heap.size := by have := hgr.size; simp only [World.size_alloc] at this; omega
  have hbx5 : Box w5 h1 #[v1, v2, .int .i64 fp, .int .i64 fr, v3] 34 := (hk h1 h.bx.lt (fun e => tb_ne h.bx.tb (hoB _ e) (by decide) rfl)).trans h.bx
  have hbz5 : Box w5 (h1 + 1) #[.slice none 0 0, .slice none 0 0, .int .i64 0, .int .i64 0, .slice none 0 0] 34 := (hk (h1 + 1) h.bz.lt (fun e => tb_ne h.bz.tb (hoB _ e) (by decide) rfl)).trans h.bz
  have hok5 : Ow w5 base 3 .i64 v1 ks := h.ok.kept' fun x hx => hk x (h.ok.tbI hx).lt (fun e => tb_ne (h.ok.tbI hx) (hoB _ e) (by decide) rfl)
  have hoe5 : Ow w5 base 3 .i64 v2 es := h.oe.kept' fun x hx => hk x (h.oe.tbI hx).lt (fun e => tb_ne (h.oe.tbI hx) (hoB _ e) (by decide) rfl)
  have hcode : CodeM w5 base ([jumpI t], .slice (some ⟨w.heap.size, 0, none⟩) 1 1) := by
    refine ⟨[(jumpI t, .slice none 0 0)], rfl, ?_, fun r hr => ?_⟩
    · have t1 : OwC insC 38 7 (w.alloc (.cells (jmpC t) 38)) base (.slice (some ⟨w.heap.size, 0, none⟩) 1 1) [(jumpI t, .slice none 0 0)] := World.ownsRow_lit (base := base) w (jmpC t) 1 hbw (by simp [maxLen]) rfl
      have t2 : OwC insC 38 7 ((w.alloc (.cells (jmpC t) 38)).alloc (.cells #[.slice (some ⟨w.heap.size, 0, none⟩) 1 1] 41)) base (.slice (some ⟨w.heap.size, 0, none⟩) 1 1) [(jumpI t, .slice none 0 0)] := World.ownsRow.alloc t1 _
      exact t2.kept fun g hg => hgr.block g (by have := (t2.lt g hg).2; exact this) (fun e => by
        simp [Value.ownBlock] at hg
        subst hg
        have := (h.m.own.lt _ e.symm).2
        omega)
    · simp at hr
      subst hr
      refine ⟨Vec.nil _ _ _, ?_⟩
      unfold InsR jumpI i64R
      unfold i64R at ht
      simp
      omega
  have hm5 := h.m.app hb4 hgr ho hcode (fun g hg => by simp [Value.ownBlock] at hg; omega)
  have hbel : Below w0.heap.size w0 w5 := (h.bel.trans (hb4.mono h.bel.size)).grown hgr (by have := h.bel.size; simp only [World.size_alloc]; omega) (fun k hk => by have := (h.m.own.lt k hk).1; omega)
  refine ⟨?_, ?_, ?_, ?_, hm5.other hbx5.tb (by decide) (by decide) (by decide) _, Below.setCell hbel (by show _ ≤ h1; omega) _⟩
  · have t := hbx5.set 4 v5
    simpa using t
  · exact hbz5.other (by omega)
  · exact hok5.kept' fun x hx => heap_setCell_other w5 ⟨h1, 4, none⟩ x _ (tb_ne (hok5.tbI hx) hbx5.tb (by decide))
  · exact hoe5.kept' fun x hx => heap_setCell_other w5 ⟨h1, 4, none⟩ x _ (tb_ne (hoe5.tbI hx) hbx5.tb (by decide))
end
theorem results_cell_row_tmp {P : Program} {fn : Func} {p u : Tmp} {ty : TypeId} (h : fn.results = #[.cell p ty, .tmp u]) (tmps : Array Value) (w : World) (g : Nat) (t : TypeId) (cs : Array Value) (fr : Nat × Nat) (d : TypeDesc)
    (hp : tmps.getD p undef = .pointer (some ⟨g, 0, none⟩)) (hg : w.heap[g]? = some (.cells cs t fr))
    (hu : P.underlying ty = some d) (hd : (match d with | .struct _ | .array _ _ => true | _ => false) = true) (hi : (P.info? ty).map (·.size) = some cs.size) :
    (results fn tmps).run P w = .ok (.tuple #[.agg cs, tmps.getD u undef]) w := by
  rw [results_cell_tmp h]
  have hp' : tmps[p]?.getD undef = .pointer (some ⟨g, 0, none⟩) := by simpa using hp
  simp [hp', asAddr, run_loadVar_row w g t ty cs fr d hg hu hd hi, Result.andThen]
end Go.Proofs.YtnoknodijombpaaDoor
