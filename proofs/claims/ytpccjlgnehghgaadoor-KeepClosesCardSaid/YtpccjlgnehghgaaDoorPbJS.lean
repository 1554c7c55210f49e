/- The statement LiveOuts, walked: it answers true. Condition: the table of parts reads as listed; no slice of the program is longer than any machine's memory. -/
import Derived.Test.YtpccjlgnehghgaaDoorPbJR
set_option linter.unusedSimpArgs false
set_option linter.unusedVariables false
namespace Go.Proofs.YtpccjlgnehghgaaDoor
open Go.RowKit

/-- What layer 11 asks of a function of a program that may be. -/
structure LOk (p : List FunV) (f : FunV) : Prop where
  flow : FlowOk f
  one : 1 ≤ f.blocks.length
  ne : ∀ c, c < f.blocks.length → codeOf f c ≠ []
  few : ∀ l ∈ f.blocks, ∀ x ∈ l, x.args.length ≤ 1099511627000
  kinds : f.kinds.length ≤ 48
  bl : f.base.length = f.kinds.length
  base : ∀ kb ∈ f.kinds.zip f.base, baseB4 f.kinds kb.1 kb.2 = true
  may : ∀ l ∈ f.blocks, ∀ x ∈ l, mayB4 p f x = true
theorem lOk_of {p : List FunV} (h : progB4 p = true) (hf : progFew p) : ∀ f ∈ p, LOk p f := fun f hm => by
  obtain ⟨-, -, -, hall⟩ := prog_parts h
  obtain ⟨⟨h1, h2, h3⟩, -, -, ⟨-, -, h4⟩, hmay⟩ := fun_parts (hall f hm)
  refine ⟨(flowOk_of h f hm).1, (flowOk_of h f hm).2, fun c hc => ?_, hf f hm, h2, h1, h3, hmay⟩
  obtain ⟨l, hl⟩ : ∃ l, f.blocks[c]? = some l := ⟨_, List.getElem?_eq_getElem hc⟩
  have := (h4 l (List.mem_of_getElem? hl)).1
  unfold codeOf
  rw [hl]
  intro e
  simp at e
  subst e
  simp at this
/-- The set of what is live at the beginning of one of l. -/
structure JnS (f : FunV) (l : List Int) (s : List Nat) : Prop where
  tidy : Tidy s
  ok : SetOk s
  has : ∀ v : Nat, hasB s (v : Int) = true ↔ ∃ n ∈ l, Lv f n.toNat v
theorem JnS.nil (f : FunV) : JnS f [] [] := ⟨tidy_nil, ⟨by simp, fun x hx => by cases hx⟩, fun v => by simp [hasB]⟩
theorem JnS.one {f : FunV} {l : List Int} {s t : List Nat} (h1 : JnS f l s) (h2 : JnS f l t) : s = t := has_ext h1.tidy h2.tidy h1.ok.2 h2.ok.2 fun v => (h1.has v).trans (h2.has v).symm
end Go.Proofs.YtpccjlgnehghgaaDoor
