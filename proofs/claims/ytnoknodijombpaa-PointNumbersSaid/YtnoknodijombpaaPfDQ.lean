/- Layer 13, the program: edge.Whole: all functions of a program. Condition: no more than 1000 variables, blocks, instructions, arguments; no more than 100,000 functions. -/
import Derived.Test.YtnoknodijombpaaPfDP
import Derived.Deep.CutRange
set_option linter.unusedSimpArgs false
set_option linter.unusedVariables false
namespace Go.Proofs.Ytnoknodijombpaa
open Go.RowKit

/-- What Split asks of a function. -/
structure SOk (f : FunV) : Prop where
  flow : FlowOk f
  one : 1 ≤ f.blocks.length
  kinds : f.kinds.length ≤ 1000
  bl : f.base.length ≤ 1000
  code : ∀ l ∈ f.blocks, 1 ≤ l.length ∧ l.length ≤ 1000 ∧ ∀ x ∈ l, x.args.length ≤ 1000
theorem EOk.sok {p : List FunV} {f : FunV} (h : EOk p f) : SOk f := ⟨h.flow, h.one, by have := h.kinds; omega, by have := h.kinds; have := h.bl; omega, h.code⟩
theorem SOk.split {f : FunV} (h : SOk f) (hf : fitsB f = true) : SOk (splitF f) :=
  ⟨split_flow h.flow hf, by rw [split_len h.flow]; have := h.one; omega, h.kinds, h.bl, fun l hl => by
    rcases split_code h.flow hl with ⟨l0, h0, h1, h2⟩ | ⟨t, rfl⟩
    · obtain ⟨q1, q2, q3⟩ := h.code l0 h0
      exact ⟨by omega, by omega, fun x hx => by obtain ⟨y, hy, e⟩ := h2 x hx; rw [e]; exact q3 y hy⟩
    · simp [jumpI]⟩
/-- A block of ints, of blocks or of instructions. -/
def NF (w : World) (b : Nat) : Prop := TB w 3 b ∨ TB w 53 b ∨ TB w 50 b
theorem NF.lt {w : World} {b : Nat} (h : NF w b) : b < w.heap.size := by rcases h with h | h | h <;> exact h.lt
theorem NF.keep {w w' : World} {b : Nat} (h : NF w b) (e : w'.heap[b]? = w.heap[b]?) : NF w' b := by
  rcases h with h | h | h
  · exact .inl (h.keep e)
  · exact .inr (.inl (h.keep e))
  · exact .inr (.inr (h.keep e))
theorem NF.ne {w : World} {b g : Nat} {T : TypeId} (h : NF w b) (hT : TB w T g) (h1 : 3 ≠ T) (h2 : 53 ≠ T) (h3 : 50 ≠ T) : b ≠ g := by
  rcases h with h | h | h
  · exact tb_ne h hT h1
  · exact tb_ne h hT h2
  · exact tb_ne h hT h3
theorem funI_NF {w w' : World} {vk vb vs : Value} {f : FunV} (h : FunI w (NF w) vk vb vs f) (hk : ∀ b, NF w b → w'.heap[b]? = w.heap[b]?) : FunI w' (NF w') vk vb vs f :=
  h.keep (fun b o hb => World.cell?_of_block (a := ⟨b, o, none⟩) (hk b hb)) (fun b hb => hb.keep (hk b hb))
theorem CodeM.inssNF {w : World} {base : Nat} {p : List InsV × Value} (h : CodeM w base p) : InssV w (NF w) p.2 p.1 := by
  obtain ⟨q, h1, h2, h3⟩ := h
  rw [← h1]
  exact codes_vec h2 (fun r hr => (h3 r hr).keep (fun _ _ _ => rfl) (fun b hb => .inl hb)) (fun b hb => .inr (.inr (h2.row b hb)))
theorem spl_funNF {f : FunV} {vk vb vs v1 v2 v3 : Value} {l : List (List InsV × Value)} {w0 w : World} {base B : Nat} (hi : FunI w0 (· < B) vk vb vs f) (h1 : Ow w base 3 .i64 v1 f.kinds) (h2 : Ow w base 3 .i64 v2 f.base) (hm : BlkM w base v3 l) (hl : l.map (·.1) = (splitF f).blocks) : FunI w (NF w) v1 v2 v3 (splitF f) := by
  obtain ⟨-, -, -, -, -, -, hR1⟩ := hi.1.sl
  obtain ⟨-, -, -, -, -, -, hR2⟩ := hi.2.1.sl
  refine ⟨ints_vec h1 hR1 (fun b hb => .inl (h1.tbI hb)), ints_vec h2 hR2 (fun b hb => .inl (h2.tbI hb)), ?_, hi.2.2.2.1, hi.2.2.2.2⟩
  have t : BlksV w (NF w) v3 (l.map (·.1)) := blks_vec hm.own (fun p hp => (hm.code p hp).inssNF) (fun b hb => .inr (.inl (hm.own.row b hb)))
  rw [hl] at t
  exact t
/-- The functions of a program under way: the box of what is split, the result, what is built. -/
structure WhB (pv : Value) (h1 : Nat) (v : Value) (ys : List (FunV × Value × Value × Value)) (w0 w : World) : Prop where
  bp : Box w h1 #[pv] 24
  bz : Box w (h1 + 1) #[.slice none 0 0] 24
  bx : Box w (h1 + 2) #[v] 24
  own : OwC funC 30 5 w w0.heap.size v ys
  funs : ∀ y ∈ ys, FunI w (NF w) y.2.1 y.2.2.1 y.2.2.2 y.1
  bel : Below w0.heap.size w0 w
section
variable {pv v v5 vk vb vs : Value} {h1 : Nat} {ys : List (FunV × Value × Value × Value)} {w0 w w' w5 : World} {f : FunV}
theorem WhB.below (h : WhB pv h1 v ys w0 w) (hb : Below w.heap.size w w') : WhB pv h1 v ys w0 w' :=
  ⟨h.bp.below hb, h.bz.below hb, h.bx.below hb, h.own.kept (fun g hg => hb.block g (h.own.lt g hg).2), fun y hy => funI_NF (h.funs y hy) (fun b hb' => hb.block b hb'.lt), h.bel.trans (hb.mono h.bel.size)⟩
theorem WhB.app (h : WhB pv h1 v ys w0 w) (hh : w0.heap.size ≤ h1) (hn : FunI w (NF w) vk vb vs f)
    (hgr : (w.alloc (.cells #[vk, vb, .int .i64 f.params, .int .i64 f.result, vs] 30)).grownBy w5 v.ownBlock) (ho : OwC funC 30 5 w5 w0.heap.size v5 (ys ++ [(f, vk, vb, vs)])) :
    WhB pv h1 v5 (ys ++ [(f, vk, vb, vs)]) w0 (w5.setCell ⟨h1 + 2, 0, none⟩ v5) := by
  have hb4 : Below w.heap.size w (w.alloc (.cells #[vk, vb, .int .i64 f.params, .int .i64 f.result, vs] 30)) := alloc1 w _
  have hk : ∀ b, b < w.heap.size → v.ownBlock ≠ some b → w5.heap[b]? = w.heap[b]? := fun b hb hn => (hgr.block b (by have := hb4.size; omega) (fun e => hn e.symm)).trans (hb4.block b hb)
  have hoF : ∀ b, v.ownBlock = some b → TB w 30 b := fun b hb => h.own.row b hb
  have hbp5 : Box w5 h1 #[pv] 24 := (hk h1 h.bp.lt (fun e => tb_ne h.bp.tb (hoF _ e) (by decide) rfl)).trans h.bp
  have hbz5 : Box w5 (h1 + 1) #[.slice none 0 0] 24 := (hk (h1 + 1) h.bz.lt (fun e => tb_ne h.bz.tb (hoF _ e) (by decide) rfl)).trans h.bz
  have hbx5 : Box w5 (h1 + 2) #[v] 24 := (hk (h1 + 2) h.bx.lt (fun e => tb_ne h.bx.tb (hoF _ e) (by decide) rfl)).trans h.bx
  have hNF : ∀ b, NF w b → w5.heap[b]? = w.heap[b]? := fun b hb => hk b hb.lt (fun e => hb.ne (hoF _ e) (by decide) (by decide) (by decide) rfl)
  have hNF2 : ∀ b, NF w5 b → (w5.setCell ⟨h1 + 2, 0, none⟩ v5).heap[b]? = w5.heap[b]? := fun b hb => heap_setCell_other w5 ⟨h1 + 2, 0, none⟩ b _ (hb.ne hbx5.tb (by decide) (by decide) (by decide))
  have hbel : Below w0.heap.size w0 w5 := (h.bel.trans (hb4.mono h.bel.size)).grown hgr (by have := h.bel.size; simp only [World.size_alloc]; omega) (fun k hk => by have := (h.own.lt k hk).1; omega)
  refine ⟨hbp5.other (by omega), hbz5.other (by omega), ?_, ho.kept fun g hg => heap_setCell_other w5 ⟨h1 + 2, 0, none⟩ g _ (tb_ne (ho.row g hg) hbx5.tb (by decide)), fun y hy => ?_, Below.setCell hbel (by show _ ≤ h1 + 2; omega) _⟩
  · have t := hbx5.set 0 v5
    simpa using t
  · rcases List.mem_append.1 hy with hy | hy
    · exact funI_NF (funI_NF (h.funs y hy) hNF) hNF2
    · simp at hy
      subst hy
      exact funI_NF (funI_NF hn hNF) hNF2
theorem WhB.vec (h : WhB pv h1 v ys w0 w) (hh : w0.heap.size ≤ h1) : Box (w.setCell ⟨h1 + 1, 0, none⟩ v) (h1 + 1) #[v] 24 ∧ FunsV (w.setCell ⟨h1 + 1, 0, none⟩ v) (· < (w.setCell ⟨h1 + 1, 0, none⟩ v).heap.size) v (ys.map (·.1)) ∧ Below w0.heap.size w0 (w.setCell ⟨h1 + 1, 0, none⟩ v) := by
  have ho : OwC funC 30 5 (w.setCell ⟨h1 + 1, 0, none⟩ v) w0.heap.size v ys := h.own.kept fun g hg => heap_setCell_other w ⟨h1 + 1, 0, none⟩ g _ (tb_ne (h.own.row g hg) h.bz.tb (by decide))
  have hNF2 : ∀ b, NF w b → (w.setCell ⟨h1 + 1, 0, none⟩ v).heap[b]? = w.heap[b]? := fun b hb => heap_setCell_other w ⟨h1 + 1, 0, none⟩ b _ (hb.ne h.bz.tb (by decide) (by decide) (by decide))
  refine ⟨by have t := h.bz.set 0 v; simpa using t, funs_vec ho (fun y hy => (funI_NF (h.funs y hy) hNF2).keep (fun _ _ _ => rfl) (fun b hb => hb.lt)) (fun b hb => (ho.lt b hb).2), Below.setCell h.bel (by show _ ≤ h1 + 1; omega) _⟩
end
theorem size_prog13 : (Try.prog.info? 24).map (·.size) = some 1 := by kernel_rfl
theorem info_func13 : (Try.prog.info? 30).map (fun i => (i.zero, i.size, i.bytes)) = some (some (.agg #[.slice none 0 0, .slice none 0 0, .int .i64 0, .int .i64 0, .slice none 0 0]), 5, 88) := by kernel_rfl
end Go.Proofs.Ytnoknodijombpaa
