/- Texts of several names, of which only what the statement needs is kept. -/
import Derived.Test.YtnoknodijombpaaPgDK
import Derived.Test.YtnoknodijombpaaPgSFirst
import Derived.Test.YtnoknodijombpaaPgSAlive
import Derived.Deep.CutRange
/- Layer 13: the fixed fact; which programs aren't asked about; what a function of a program that may be has. Condition: no slice of the program is longer than any machine's memory. -/
set_option linter.unusedSimpArgs false
set_option linter.unusedVariables false
namespace Go.Proofs.Ytnoknodijombpaa
open Go.RowKit

/-- What Split asks of a function of a program that may be. -/
structure EOk (p : List FunV) (f : FunV) : Prop where
  flow : FlowOk f
  one : 1 ≤ f.blocks.length
  kinds : f.kinds.length ≤ 48
  bl : f.base.length = f.kinds.length
  code : ∀ l ∈ f.blocks, 1 ≤ l.length ∧ l.length ≤ 1000 ∧ ∀ x ∈ l, x.args.length ≤ 1000
theorem may_args {p : List FunV} {f : FunV} {x : InsV} (hp : ∀ f ∈ p, funOkB p f = true) (h : mayB4 p f x = true) : x.args.length ≤ 4 := by
  obtain ⟨h1, h2, h3, h4, h5⟩ := may_parts h
  have hr := op_range h1
  by_cases h19 : x.op = 19
  · unfold numsB at h5
    rw [if_neg (by omega), if_neg (by omega), if_neg (by omega), if_neg (by omega), if_pos h19] at h5
    have := callee_args hp h5
    omega
  · unfold onlyB4 checksL at h2
    simp only [List.all_cons, List.all_nil, Bool.and_eq_true, Bool.or_eq_true, Bool.not_eq_true', bne_eq_false_iff_eq, Bool.and_true] at h2
    obtain ⟨-, -, -, -, -, g6⟩ := h2
    unfold hasB4 at g6
    simp only [decide_eq_true_eq, decide_eq_false_iff_not] at g6
    rcases g6 with g6 | g6
    · omega
    · have hj := parts_has g6 (fun j => j == 19) (by decide)
      simp at hj
      omega
theorem eOk_of {p : List FunV} (h : progB4 p = true) : ∀ f ∈ p, EOk p f := fun f hm => by
  obtain ⟨-, -, -, hall⟩ := prog_parts h
  obtain ⟨⟨h1, h2, h3⟩, -, -, ⟨-, -, h4⟩, hmay⟩ := fun_parts (hall f hm)
  refine ⟨(flowOk_of h f hm).1, (flowOk_of h f hm).2, h2, h1, fun l hl => ⟨(h4 l hl).1, by have := (h4 l hl).2.1; omega, fun x hx => by have := may_args hall (hmay l hl x hx); omega⟩⟩
end Go.Proofs.Ytnoknodijombpaa

/- Layer 13: the fixed fact, walked. No condition. -/
set_option linter.unusedSimpArgs false
set_option linter.unusedVariables false
namespace Go.Proofs.Ytnoknodijombpaa
open Go.RowKit

/-- What was split, as a function in memory. -/
theorem spl_funI {f : FunV} {vk vb vs v1 v2 v3 : Value} {l : List (List InsV × Value)} {w0 w : World} {base B : Nat} (hi : FunI w0 (· < B) vk vb vs f) (h1 : Ow w base 3 .i64 v1 f.kinds) (h2 : Ow w base 3 .i64 v2 f.base) (hm : BlkM w base v3 l) (hl : l.map (·.1) = (splitF f).blocks) : FunI w (· < w.heap.size) v1 v2 v3 (splitF f) := by
  obtain ⟨-, -, -, -, -, -, hR1⟩ := hi.1.sl
  obtain ⟨-, -, -, -, -, -, hR2⟩ := hi.2.1.sl
  refine ⟨ints_vec h1 hR1 (fun b hb => (h1.row' b hb).2.1), ints_vec h2 hR2 (fun b hb => (h2.row' b hb).2.1), ?_, hi.2.2.2.1, hi.2.2.2.2⟩
  have t := hm.blks
  rw [hl] at t
  exact t
end Go.Proofs.Ytnoknodijombpaa

/- Layer 13: what was split is split: no edge of it is critical. -/
set_option linter.unusedSimpArgs false
set_option linter.unusedVariables false
namespace Go.Proofs.Ytnoknodijombpaa
open Go.RowKit

theorem nextL_in {x : InsV} {y : Int} : y ∈ nextL x ↔ (x.op = 21 ∧ y = x.n) ∨ (x.op = 22 ∧ (y = x.n ∨ y = x.m)) := by
  unfold nextL
  split
  · rename_i h
    rw [List.mem_singleton]
    rcases h with h | ⟨h, h2⟩
    · simp [h]
    · rw [h2]; simp [h]
  · split <;> simp_all <;> omega
theorem nextL_jump (t : Int) : nextL (jumpI t) = [t] := by simp [nextL, jumpI]
theorem nextL_tgt {L b : Nat} {es : List (Int × Int)} {x : InsV} {y : Int} (h : y ∈ nextL (tgI L es b x)) : ∃ t, t ∈ nextL x ∧ y = tgt L es b t := by
  rcases nextL_in.1 h with ⟨h1, h2⟩ | ⟨h1, h2⟩
  · exact ⟨x.n, nextL_in.2 (.inl ⟨h1, rfl⟩), h2⟩
  · rcases h2 with h2 | h2
    · exact ⟨x.n, nextL_in.2 (.inr ⟨h1, .inl rfl⟩), h2⟩
    · exact ⟨x.m, nextL_in.2 (.inr ⟨h1, .inr rfl⟩), h2⟩
section
variable {f : FunV}
theorem split_len (hok : FlowOk f) : (splitF f).blocks.length = f.blocks.length + (critN f).length := (SpI.all hok).len
theorem split_new (hok : FlowOk f) {j : Nat} {e : Int × Int} (h : (critN f)[j]? = some e) : (splitF f).blocks[f.blocks.length + j]? = some [jumpI e.2] := (SpI.all hok).new j e (List.getElem?_eq_some_iff.1 h).1 h
theorem split_old (hok : FlowOk f) {b : Nat} {l : List InsV} (h : f.blocks[b]? = some l) : (splitF f).blocks[b]? = some (bentB f.blocks.length (critN f) b l) := by
  have t := (SpI.all hok).old b l h
  rw [List.take_length] at t
  exact t
theorem nxt_new (hok : FlowOk f) {j : Nat} {e : Int × Int} (h : (critN f)[j]? = some e) : nxt (splitF f) (f.blocks.length + j) = [e.2] := by
  rw [nxt_last (split_new hok h) (mp := 0) rfl rfl, nextL_jump]
theorem nxt_old (hok : FlowOk f) {b : Nat} {l : List InsV} {x : InsV} (h : f.blocks[b]? = some l) (hx : l[l.length - 1]? = some x) : nxt (splitF f) b = nextL (tgI f.blocks.length (critN f) b x) ∧ nxt f b = nextL x := by
  have hlt := (List.getElem?_eq_some_iff.1 hx).1
  exact ⟨nxt_last (split_old hok h) (mp := l.length - 1) (by rw [bentB_len]; omega) (by have t := bentB_last (L := f.blocks.length) (es := critN f) (b := b) hx; exact t), nxt_last h (mp := l.length - 1) (by omega) hx⟩
/-- Where a block of what was split leads. -/
theorem nxt_split (hok : FlowOk f) {a : Nat} {y : Int} (ha : a < (splitF f).blocks.length) (hy : y ∈ nxt (splitF f) a) :
    (a < f.blocks.length ∧ ∃ t, t ∈ nxt f a ∧ y = tgt f.blocks.length (critN f) a t) ∨ ∃ j e, a = f.blocks.length + j ∧ (critN f)[j]? = some e ∧ y = e.2 := by
  rw [split_len hok] at ha
  by_cases hL : a < f.blocks.length
  · refine .inl ⟨hL, ?_⟩
    obtain ⟨l, hl⟩ : ∃ l, f.blocks[a]? = some l := ⟨_, List.getElem?_eq_getElem hL⟩
    cases hx : l[l.length - 1]? with
    | none =>
      have h0 : l.length = 0 := by
        have := List.getElem?_eq_none_iff.1 hx
        omega
      rw [nxt_none (split_old hok hl) (by rw [bentB_len]; exact h0)] at hy
      cases hy
    | some x =>
      obtain ⟨e1, e2⟩ := nxt_old hok hl hx
      rw [e1] at hy
      rw [e2]
      exact nextL_tgt hy
  · obtain ⟨e, he⟩ : ∃ e, (critN f)[a - f.blocks.length]? = some e := ⟨_, List.getElem?_eq_getElem (by omega)⟩
    have ea : a = f.blocks.length + (a - f.blocks.length) := by omega
    refine .inr ⟨_, e, ea, he, ?_⟩
    rw [ea, nxt_new hok he] at hy
    simpa using hy
theorem crit_rng (hok : FlowOk f) {e : Int × Int} (h : e ∈ critN f) : 0 ≤ e.2 ∧ e.2 < (f.blocks.length : Int) := by
  obtain ⟨h1, -, -⟩ := mem_critN.1 h
  obtain ⟨a, -, -, hm⟩ := edgesN_mem h1
  exact hok.2.2 a e.2 hm
theorem tgt_in {L b : Nat} {es : List (Int × Int)} {t : Int} (h : ((b : Int), t) ∈ es) : tgt L es b t = ((L + es.idxOf ((b : Int), t) : Nat) : Int) := by unfold tgt; rw [if_pos h]
theorem nxt_split_rng (hok : FlowOk f) (k : Nat) (v : Int) (hv : v ∈ nxt (splitF f) k) : 0 ≤ v ∧ v < ((splitF f).blocks.length : Int) := by
  have hk : k < (splitF f).blocks.length := by
    apply Classical.byContradiction
    intro hc
    unfold nxt at hv
    rw [List.getElem?_eq_none_iff.2 (by omega)] at hv
    cases hv
  rw [split_len hok]
  rcases nxt_split hok hk hv with ⟨hL, t, ht, rfl⟩ | ⟨j, e, rfl, he, rfl⟩
  · have := hok.2.2 k t ht
    by_cases hc : ((k : Int), t) ∈ critN f
    · have h2 := List.idxOf_lt_length_of_mem hc
      rw [tgt_in hc]
      omega
    · rw [tgt_not hc]
      omega
  · have := crit_rng hok (List.mem_of_getElem? he)
    omega
/-- A block of what was split: as long as it was, with the arguments that were there; or a jump. -/
theorem split_code (hok : FlowOk f) {l : List InsV} (h : l ∈ (splitF f).blocks) : (∃ l0 ∈ f.blocks, l.length = l0.length ∧ ∀ x ∈ l, ∃ y ∈ l0, x.args = y.args) ∨ ∃ t, l = [jumpI t] := by
  obtain ⟨k, hk, rfl⟩ := List.getElem_of_mem h
  have hk' := hk
  rw [split_len hok] at hk'
  by_cases hL : k < f.blocks.length
  · have t := split_old hok (List.getElem?_eq_getElem hL)
    rw [List.getElem?_eq_getElem hk] at t
    injection t with t
    rw [t]
    refine .inl ⟨_, List.getElem_mem hL, bentB_len _ _ _ _, fun x hx => ?_⟩
    unfold bentB at hx
    split at hx
    · rename_i x0 hx0
      rcases List.mem_or_eq_of_mem_set hx with h1 | rfl
      · exact ⟨x, h1, rfl⟩
      · exact ⟨x0, List.mem_of_getElem? hx0, rfl⟩
    · exact ⟨x, hx, rfl⟩
  · obtain ⟨e, he⟩ : ∃ e, (critN f)[k - f.blocks.length]? = some e := ⟨_, List.getElem?_eq_getElem (by omega)⟩
    have t := split_new hok he
    rw [show f.blocks.length + (k - f.blocks.length) = k by omega, List.getElem?_eq_getElem hk] at t
    injection t with t
    exact .inr ⟨_, t⟩
theorem split_flow (hok : FlowOk f) (hf : fitsB f = true) : FlowOk (splitF f) := by
  refine ⟨by rw [split_len hok]; exact of_decide_eq_true hf, fun b hb => ?_, fun k v hv => nxt_split_rng hok k v hv⟩
  rcases split_code hok hb with ⟨l0, h0, h1, -⟩ | ⟨t, rfl⟩
  · rw [h1]; exact hok.2.1 l0 h0
  · simp
end
end Go.Proofs.Ytnoknodijombpaa

/- Layer 13, the program: edge.Whole: all functions of a program. Condition: no more than 1000 variables, blocks, instructions, arguments; no more than 100,000 functions. -/
set_option linter.unusedSimpArgs false
set_option linter.unusedVariables false
namespace Go.Proofs.Ytnoknodijombpaa
open Go.RowKit

/-- What Split asks of a function. -/
structure SOk (f : FunV) : Prop where
  flow : FlowOk f
  one : 1 ≤ f.blocks.length
  kinds : f.kinds.length ≤ 1000
  bl : f.base.length ≤ 1000
  code : ∀ l ∈ f.blocks, 1 ≤ l.length ∧ l.length ≤ 1000 ∧ ∀ x ∈ l, x.args.length ≤ 1000
theorem EOk.sok {p : List FunV} {f : FunV} (h : EOk p f) : SOk f := ⟨h.flow, h.one, by have := h.kinds; omega, by have := h.kinds; have := h.bl; omega, h.code⟩
theorem SOk.split {f : FunV} (h : SOk f) (hf : fitsB f = true) : SOk (splitF f) :=
  ⟨split_flow h.flow hf, by rw [split_len h.flow]; have := h.one; omega, h.kinds, h.bl, fun l hl => by
    rcases split_code h.flow hl with ⟨l0, h0, h1, h2⟩ | ⟨t, rfl⟩
    · obtain ⟨q1, q2, q3⟩ := h.code l0 h0
      exact ⟨by omega, by omega, fun x hx => by obtain ⟨y, hy, e⟩ := h2 x hx; rw [e]; exact q3 y hy⟩
    · simp [jumpI]⟩
/-- A block of ints, of blocks or of instructions. -/
def NF (w : World) (b : Nat) : Prop := TB w 3 b ∨ TB w 53 b ∨ TB w 50 b
theorem NF.lt {w : World} {b : Nat} (h : NF w b) : b < w.heap.size := by rcases h with h | h | h <;> exact h.lt
theorem NF.keep {w w' : World} {b : Nat} (h : NF w b) (e : w'.heap[b]? = w.heap[b]?) : NF w' b := by
  rcases h with h | h | h
  · exact .inl (h.keep e)
  · exact .inr (.inl (h.keep e))
  · exact .inr (.inr (h.keep e))
theorem NF.ne {w : World} {b g : Nat} {T : TypeId} (h : NF w b) (hT : TB w T g) (h1 : 3 ≠ T) (h2 : 53 ≠ T) (h3 : 50 ≠ T) : b ≠ g := by
  rcases h with h | h | h
  · exact tb_ne h hT h1
  · exact tb_ne h hT h2
  · exact tb_ne h hT h3
theorem funI_NF {w w' : World} {vk vb vs : Value} {f : FunV} (h : FunI w (NF w) vk vb vs f) (hk : ∀ b, NF w b → w'.heap[b]? = w.heap[b]?) : FunI w' (NF w') vk vb vs f :=
  h.keep (fun b o hb => World.cell?_of_block (a := ⟨b, o, none⟩) (hk b hb)) (fun b hb => hb.keep (hk b hb))
theorem CodeM.inssNF {w : World} {base : Nat} {p : List InsV × Value} (h : CodeM w base p) : InssV w (NF w) p.2 p.1 := by
  obtain ⟨q, h1, h2, h3⟩ := h
  rw [← h1]
  exact codes_vec h2 (fun r hr => (h3 r hr).keep (fun _ _ _ => rfl) (fun b hb => .inl hb)) (fun b hb => .inr (.inr (h2.row b hb)))
theorem spl_funNF {f : FunV} {vk vb vs v1 v2 v3 : Value} {l : List (List InsV × Value)} {w0 w : World} {base B : Nat} (hi : FunI w0 (· < B) vk vb vs f) (h1 : Ow w base 3 .i64 v1 f.kinds) (h2 : Ow w base 3 .i64 v2 f.base) (hm : BlkM w base v3 l) (hl : l.map (·.1) = (splitF f).blocks) : FunI w (NF w) v1 v2 v3 (splitF f) := by
  obtain ⟨-, -, -, -, -, -, hR1⟩ := hi.1.sl
  obtain ⟨-, -, -, -, -, -, hR2⟩ := hi.2.1.sl
  refine ⟨ints_vec h1 hR1 (fun b hb => .inl (h1.tbI hb)), ints_vec h2 hR2 (fun b hb => .inl (h2.tbI hb)), ?_, hi.2.2.2.1, hi.2.2.2.2⟩
  have t : BlksV w (NF w) v3 (l.map (·.1)) := blks_vec hm.own (fun p hp => (hm.code p hp).inssNF) (fun b hb => .inr (.inl (hm.own.row b hb)))
  rw [hl] at t
  exact t
/-- The functions of a program under way: the box of what is split, the result, what is built. -/
structure WhB (pv : Value) (h1 : Nat) (v : Value) (ys : List (FunV × Value × Value × Value)) (w0 w : World) : Prop where
  bp : Box w h1 #[pv] 24
  bz : Box w (h1 + 1) #[.slice none 0 0] 24
  bx : Box w (h1 + 2) #[v] 24
  own : OwC funC 30 5 w w0.heap.size v ys
  funs : ∀ y ∈ ys, FunI w (NF w) y.2.1 y.2.2.1 y.2.2.2 y.1
  bel : Below w0.heap.size w0 w
section
variable {pv v v5 vk vb vs : Value} {h1 : Nat} {ys : List (FunV × Value × Value × Value)} {w0 w w' w5 : World} {f : FunV}
theorem WhB.below (h : WhB pv h1 v ys w0 w) (hb : Below w.heap.size w w') : WhB pv h1 v ys w0 w' :=
  ⟨h.bp.below hb, h.bz.below hb, h.bx.below hb, h.own.kept (fun g hg => hb.block g (h.own.lt g hg).2), fun y hy => funI_NF (h.funs y hy) (fun b hb' => hb.block b hb'.lt), h.bel.trans (hb.mono h.bel.size)⟩
theorem WhB.app (h : WhB pv h1 v ys w0 w) (hh : w0.heap.size ≤ h1) (hn : FunI w (NF w) vk vb vs f)
    (hgr : (w.alloc (.cells #[vk, vb, .int .i64 f.params, .int .i64 f.result, vs] 30)).grownBy w5 v.ownBlock) (ho : OwC funC 30 5 w5 w0.heap.size v5 (ys ++ [(f, vk, vb, vs)])) :
    WhB pv h1 v5 (ys ++ [(f, vk, vb, vs)]) w0 (w5.setCell ⟨h1 + 2, 0, none⟩ v5) := by
  have hb4 : Below w.heap.size w (w.alloc (.cells #[vk, vb, .int .i64 f.params, .int .i64 f.result, vs] 30)) := alloc1 w _
  have hk : ∀ b, b < w.heap.size → v.ownBlock ≠ some b → w5.heap[b]? = w.heap[b]? := fun b hb hn => (hgr.block b (by have := hb4.size; omega) (fun e => hn e.symm)).trans (hb4.block b hb)
  have hoF : ∀ b, v.ownBlock = some b → TB w 30 b := fun b hb => h.own.row b hb
  have hbp5 : Box w5 h1 #[pv] 24 := (hk h1 h.bp.lt (fun e => tb_ne h.bp.tb (hoF _ e) (by decide) rfl)).trans h.bp
  have hbz5 : Box w5 (h1 + 1) #[.slice none 0 0] 24 := (hk (h1 + 1) h.bz.lt (fun e => tb_ne h.bz.tb (hoF _ e) (by decide) rfl)).trans h.bz
  have hbx5 : Box w5 (h1 + 2) #[v] 24 := (hk (h1 + 2) h.bx.lt (fun e => tb_ne h.bx.tb (hoF _ e) (by decide) rfl)).trans h.bx
  have hNF : ∀ b, NF w b → w5.heap[b]? = w.heap[b]? := fun b hb => hk b hb.lt (fun e => hb.ne (hoF _ e) (by decide) (by decide) (by decide) rfl)
  have hNF2 : ∀ b, NF w5 b → (w5.setCell ⟨h1 + 2, 0, none⟩ v5).heap[b]? = w5.heap[b]? := fun b hb => heap_setCell_other w5 ⟨h1 + 2, 0, none⟩ b _ (hb.ne hbx5.tb (by decide) (by decide) (by decide))
  have hbel : Below w0.heap.size w0 w5 := (h.bel.trans (hb4.mono h.bel.size)).grown hgr (by have := h.bel.size; simp only [World.size_alloc]; omega) (fun k hk => by have := (h.own.lt k hk).1; omega)
  refine ⟨hbp5.other (by omega), hbz5.other (by omega), ?_, ho.kept fun g hg => heap_setCell_other w5 ⟨h1 + 2, 0, none⟩ g _ (tb_ne (ho.row g hg) hbx5.tb (by decide)), fun y hy => ?_, Below.setCell hbel (by show _ ≤ h1 + 2; omega) _⟩
  · have t := hbx5.set 0 v5
    simpa using t
  · rcases List.mem_append.1 hy with hy | hy
    · exact funI_NF (funI_NF (h.funs y hy) hNF) hNF2
    · simp at hy
      subst hy
      exact funI_NF (funI_NF hn hNF) hNF2
theorem WhB.vec (h : WhB pv h1 v ys w0 w) (hh : w0.heap.size ≤ h1) : Box (w.setCell ⟨h1 + 1, 0, none⟩ v) (h1 + 1) #[v] 24 ∧ FunsV (w.setCell ⟨h1 + 1, 0, none⟩ v) (· < (w.setCell ⟨h1 + 1, 0, none⟩ v).heap.size) v (ys.map (·.1)) ∧ Below w0.heap.size w0 (w.setCell ⟨h1 + 1, 0, none⟩ v) := by
  have ho : OwC funC 30 5 (w.setCell ⟨h1 + 1, 0, none⟩ v) w0.heap.size v ys := h.own.kept fun g hg => heap_setCell_other w ⟨h1 + 1, 0, none⟩ g _ (tb_ne (h.own.row g hg) h.bz.tb (by decide))
  have hNF2 : ∀ b, NF w b → (w.setCell ⟨h1 + 1, 0, none⟩ v).heap[b]? = w.heap[b]? := fun b hb => heap_setCell_other w ⟨h1 + 1, 0, none⟩ b _ (hb.ne h.bz.tb (by decide) (by decide) (by decide))
  refine ⟨by have t := h.bz.set 0 v; simpa using t, funs_vec ho (fun y hy => (funI_NF (h.funs y hy) hNF2).keep (fun _ _ _ => rfl) (fun b hb => hb.lt)) (fun b hb => (ho.lt b hb).2), Below.setCell h.bel (by show _ ≤ h1 + 1; omega) _⟩
end
theorem size_prog13 : (Try.prog.info? 24).map (·.size) = some 1 := by kernel_rfl
theorem info_func13 : (Try.prog.info? 30).map (fun i => (i.zero, i.size, i.bytes)) = some (some (.agg #[.slice none 0 0, .slice none 0 0, .int .i64 0, .int .i64 0, .slice none 0 0]), 5, 88) := by kernel_rfl
def WhA (p : List FunV) (w : World) (e : Ending) (w' : World) : Prop := (p.all fitsB = true → ∃ v, e = .returned (.tuple #[.agg #[v], .int .i64 0]) ∧ FunsV w' (· < w'.heap.size) v (p.map splitF) ∧ Below w.heap.size w w') ∧
  (p.all fitsB = false → e = .returned (.tuple #[.agg #[.slice none 0 0], .int .i64 9]) ∧ Below w.heap.size w w')
end Go.Proofs.Ytnoknodijombpaa
