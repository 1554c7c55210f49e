/- Texts of several names, of which only what the statement needs is kept. -/
import Derived.Test.YtnoknodijombpaaPfDK
import Derived.Test.YtnoknodijombpaaPfSFirst
import Derived.Test.YtnoknodijombpaaPfSAlive
import Derived.Deep.CutRange
/- Layer 13: the fixed fact; which programs aren't asked about; what a function of a program that may be has. Condition: no slice of the program is longer than any machine's memory. -/
set_option linter.unusedSimpArgs false
set_option linter.unusedVariables false
namespace Go.Proofs.Ytnoknodijombpaa
open Go.RowKit

/-- What Split asks of a function of a program that may be. -/
structure EOk (p : List FunV) (f : FunV) : Prop where
  flow : FlowOk f
  one : 1 ≤ f.blocks.length
  kinds : f.kinds.length ≤ 48
  bl : f.base.length = f.kinds.length
  code : ∀ l ∈ f.blocks, 1 ≤ l.length ∧ l.length ≤ 1000 ∧ ∀ x ∈ l, x.args.length ≤ 1000
theorem may_args {p : List FunV} {f : FunV} {x : InsV} (hp : ∀ f ∈ p, funOkB p f = true) (h : mayB4 p f x = true) : x.args.length ≤ 4 := by
  obtain ⟨h1, h2, h3, h4, h5⟩ := may_parts h
  have hr := op_range h1
  by_cases h19 : x.op = 19
  · unfold numsB at h5
    rw [if_neg (by omega), if_neg (by omega), if_neg (by omega), if_neg (by omega), if_pos h19] at h5
    have := callee_args hp h5
    omega
  · unfold onlyB4 checksL at h2
    simp only [List.all_cons, List.all_nil, Bool.and_eq_true, Bool.or_eq_true, Bool.not_eq_true', bne_eq_false_iff_eq, Bool.and_true] at h2
    obtain ⟨-, -, -, -, -, g6⟩ := h2
    unfold hasB4 at g6
    simp only [decide_eq_true_eq, decide_eq_false_iff_not] at g6
    rcases g6 with g6 | g6
    · omega
    · have hj := parts_has g6 (fun j => j == 19) (by decide)
      simp at hj
      omega
theorem eOk_of {p : List FunV} (h : progB4 p = true) : ∀ f ∈ p, EOk p f := fun f hm => by
  obtain ⟨-, -, -, hall⟩ := prog_parts h
  obtain ⟨⟨h1, h2, h3⟩, -, -, ⟨-, -, h4⟩, hmay⟩ := fun_parts (hall f hm)
  refine ⟨(flowOk_of h f hm).1, (flowOk_of h f hm).2, h2, h1, fun l hl => ⟨(h4 l hl).1, by have := (h4 l hl).2.1; omega, fun x hx => by have := may_args hall (hmay l hl x hx); omega⟩⟩
end Go.Proofs.Ytnoknodijombpaa

/- Layer 13: what was split is split: no edge of it is critical. -/
set_option linter.unusedSimpArgs false
set_option linter.unusedVariables false
namespace Go.Proofs.Ytnoknodijombpaa
open Go.RowKit

theorem nextL_in {x : InsV} {y : Int} : y ∈ nextL x ↔ (x.op = 21 ∧ y = x.n) ∨ (x.op = 22 ∧ (y = x.n ∨ y = x.m)) := by
  unfold nextL
  split
  · rename_i h
    rw [List.mem_singleton]
    rcases h with h | ⟨h, h2⟩
    · simp [h]
    · rw [h2]; simp [h]
  · split <;> simp_all <;> omega
theorem nextL_jump (t : Int) : nextL (jumpI t) = [t] := by simp [nextL, jumpI]
theorem nextL_tgt {L b : Nat} {es : List (Int × Int)} {x : InsV} {y : Int} (h : y ∈ nextL (tgI L es b x)) : ∃ t, t ∈ nextL x ∧ y = tgt L es b t := by
  rcases nextL_in.1 h with ⟨h1, h2⟩ | ⟨h1, h2⟩
  · exact ⟨x.n, nextL_in.2 (.inl ⟨h1, rfl⟩), h2⟩
  · rcases h2 with h2 | h2
    · exact ⟨x.n, nextL_in.2 (.inr ⟨h1, .inl rfl⟩), h2⟩
    · exact ⟨x.m, nextL_in.2 (.inr ⟨h1, .inr rfl⟩), h2⟩
section
variable {f : FunV}
theorem split_len (hok : FlowOk f) : (splitF f).blocks.length = f.blocks.length + (critN f).length := (SpI.all hok).len
theorem split_new (hok : FlowOk f) {j : Nat} {e : Int × Int} (h : (critN f)[j]? = some e) : (splitF f).blocks[f.blocks.length + j]? = some [jumpI e.2] := (SpI.all hok).new j e (List.getElem?_eq_some_iff.1 h).1 h
theorem split_old (hok : FlowOk f) {b : Nat} {l : List InsV} (h : f.blocks[b]? = some l) : (splitF f).blocks[b]? = some (bentB f.blocks.length (critN f) b l) := by
  have t := (SpI.all hok).old b l h
  rw [List.take_length] at t
  exact t
theorem nxt_new (hok : FlowOk f) {j : Nat} {e : Int × Int} (h : (critN f)[j]? = some e) : nxt (splitF f) (f.blocks.length + j) = [e.2] := by
  rw [nxt_last (split_new hok h) (mp := 0) rfl rfl, nextL_jump]
theorem nxt_old (hok : FlowOk f) {b : Nat} {l : List InsV} {x : InsV} (h : f.blocks[b]? = some l) (hx : l[l.length - 1]? = some x) : nxt (splitF f) b = nextL (tgI f.blocks.length (critN f) b x) ∧ nxt f b = nextL x := by
  have hlt := (List.getElem?_eq_some_iff.1 hx).1
  exact ⟨nxt_last (split_old hok h) (mp := l.length - 1) (by rw [bentB_len]; omega) (by have t := bentB_last (L := f.blocks.length) (es := critN f) (b := b) hx; exact t), nxt_last h (mp := l.length - 1) (by omega) hx⟩
/-- Where a block of what was split leads. -/
theorem nxt_split (hok : FlowOk f) {a : Nat} {y : Int} (ha : a < (splitF f).blocks.length) (hy : y ∈ nxt (splitF f) a) :
    (a < f.blocks.length ∧ ∃ t, t ∈ nxt f a ∧ y = tgt f.blocks.length (critN f) a t) ∨ ∃ j e, a = f.blocks.length + j ∧ (critN f)[j]? = some e ∧ y = e.2 := by
  rw [split_len hok] at ha
  by_cases hL : a < f.blocks.length
  · refine .inl ⟨hL, ?_⟩
    obtain ⟨l, hl⟩ : ∃ l, f.blocks[a]? = some l := ⟨_, List.getElem?_eq_getElem hL⟩
    cases hx : l[l.length - 1]? with
    | none =>
      have h0 : l.length = 0 := by
        have := List.getElem?_eq_none_iff.1 hx
        omega
      rw [nxt_none (split_old hok hl) (by rw [bentB_len]; exact h0)] at hy
      cases hy
    | some x =>
      obtain ⟨e1, e2⟩ := nxt_old hok hl hx
      rw [e1] at hy
      rw [e2]
      exact nextL_tgt hy
  · obtain ⟨e, he⟩ : ∃ e, (critN f)[a - f.blocks.length]? = some e := ⟨_, List.getElem?_eq_getElem (by omega)⟩
    have ea : a = f.blocks.length + (a - f.blocks.length) := by omega
    refine .inr ⟨_, e, ea, he, ?_⟩
    rw [ea, nxt_new hok he] at hy
    simpa using hy
theorem crit_rng (hok : FlowOk f) {e : Int × Int} (h : e ∈ critN f) : 0 ≤ e.2 ∧ e.2 < (f.blocks.length : Int) := by
  obtain ⟨h1, -, -⟩ := mem_critN.1 h
  obtain ⟨a, -, -, hm⟩ := edgesN_mem h1
  exact hok.2.2 a e.2 hm
theorem tgt_in {L b : Nat} {es : List (Int × Int)} {t : Int} (h : ((b : Int), t) ∈ es) : tgt L es b t = ((L + es.idxOf ((b : Int), t) : Nat) : Int) := by unfold tgt; rw [if_pos h]
theorem nxt_split_rng (hok : FlowOk f) (k : Nat) (v : Int) (hv : v ∈ nxt (splitF f) k) : 0 ≤ v ∧ v < ((splitF f).blocks.length : Int) := by
  have hk : k < (splitF f).blocks.length := by
    apply Classical.byContradiction
    intro hc
    unfold nxt at hv
    rw [List.getElem?_eq_none_iff.2 (by omega)] at hv
    cases hv
  rw [split_len hok]
  rcases nxt_split hok hk hv with ⟨hL, t, ht, rfl⟩ | ⟨j, e, rfl, he, rfl⟩
  · have := hok.2.2 k t ht
    by_cases hc : ((k : Int), t) ∈ critN f
    · have h2 := List.idxOf_lt_length_of_mem hc
      rw [tgt_in hc]
      omega
    · rw [tgt_not hc]
      omega
  · have := crit_rng hok (List.mem_of_getElem? he)
    omega
/-- A block of what was split: as long as it was, with the arguments that were there; or a jump. -/
theorem split_code (hok : FlowOk f) {l : List InsV} (h : l ∈ (splitF f).blocks) : (∃ l0 ∈ f.blocks, l.length = l0.length ∧ ∀ x ∈ l, ∃ y ∈ l0, x.args = y.args) ∨ ∃ t, l = [jumpI t] := by
  obtain ⟨k, hk, rfl⟩ := List.getElem_of_mem h
  have hk' := hk
  rw [split_len hok] at hk'
  by_cases hL : k < f.blocks.length
  · have t := split_old hok (List.getElem?_eq_getElem hL)
    rw [List.getElem?_eq_getElem hk] at t
    injection t with t
    rw [t]
    refine .inl ⟨_, List.getElem_mem hL, bentB_len _ _ _ _, fun x hx => ?_⟩
    unfold bentB at hx
    split at hx
    · rename_i x0 hx0
      rcases List.mem_or_eq_of_mem_set hx with h1 | rfl
      · exact ⟨x, h1, rfl⟩
      · exact ⟨x0, List.mem_of_getElem? hx0, rfl⟩
    · exact ⟨x, hx, rfl⟩
  · obtain ⟨e, he⟩ : ∃ e, (critN f)[k - f.blocks.length]? = some e := ⟨_, List.getElem?_eq_getElem (by omega)⟩
    have t := split_new hok he
    rw [show f.blocks.length + (k - f.blocks.length) = k by omega, List.getElem?_eq_getElem hk] at t
    injection t with t
    exact .inr ⟨_, t⟩
theorem split_flow (hok : FlowOk f) (hf : fitsB f = true) : FlowOk (splitF f) := by
  refine ⟨by rw [split_len hok]; exact of_decide_eq_true hf, fun b hb => ?_, fun k v hv => nxt_split_rng hok k v hv⟩
  rcases split_code hok hb with ⟨l0, h0, h1, -⟩ | ⟨t, rfl⟩
  · rw [h1]; exact hok.2.1 l0 h0
  · simp
end
end Go.Proofs.Ytnoknodijombpaa
