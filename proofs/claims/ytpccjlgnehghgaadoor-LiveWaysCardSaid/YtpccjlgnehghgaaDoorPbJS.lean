/- The statement LiveOuts, walked: it answers true. Condition: the table of parts reads as listed; no slice of the program is longer than any machine's memory. -/
import Derived.Test.YtpccjlgnehghgaaDoorPbJR
set_option linter.unusedSimpArgs false
set_option linter.unusedVariables false
namespace Go.Proofs.YtpccjlgnehghgaaDoor
open Go.RowKit

/-- What layer 11 asks of a function of a program that may be. -/
structure LOk (p : List FunV) (f : FunV) : Prop where
  flow : FlowOk f
  one : 1 ≤ f.blocks.length
  ne : ∀ c, c < f.blocks.length → codeOf f c ≠ []
  few : ∀ l ∈ f.blocks, ∀ x ∈ l, x.args.length ≤ 1099511627000
  kinds : f.kinds.length ≤ 48
  bl : f.base.length = f.kinds.length
  base : ∀ kb ∈ f.kinds.zip f.base, baseB4 f.kinds kb.1 kb.2 = true
  may : ∀ l ∈ f.blocks, ∀ x ∈ l, mayB4 p f x = true
theorem lOk_of {p : List FunV} (h : progB4 p = true) (hf : progFew p) : ∀ f ∈ p, LOk p f := fun f hm => by
  obtain ⟨-, -, -, hall⟩ := prog_parts h
  obtain ⟨⟨h1, h2, h3⟩, -, -, ⟨-, -, h4⟩, hmay⟩ := fun_parts (hall f hm)
  refine ⟨(flowOk_of h f hm).1, (flowOk_of h f hm).2, fun c hc => ?_, hf f hm, h2, h1, h3, hmay⟩
  obtain ⟨l, hl⟩ : ∃ l, f.blocks[c]? = some l := ⟨_, List.getElem?_eq_getElem hc⟩
  have := (h4 l (List.mem_of_getElem? hl)).1
  unfold codeOf
  rw [hl]
  intro e
  simp at e
  subst e
  simp at this
/-- The set of what is live at the beginning of one of l. -/
structure JnS (f : FunV) (l : List Int) (s : List Nat) : Prop where
  tidy : Tidy s
  ok : SetOk s
  has : ∀ v : Nat, hasB s (v : Int) = true ↔ ∃ n ∈ l, Lv f n.toNat v
theorem JnS.nil (f : FunV) : JnS f [] [] := ⟨tidy_nil, ⟨by simp, fun x hx => by cases hx⟩, fun v => by simp [hasB]⟩
theorem JnS.snoc {f : FunV} {l : List Int} {s t : List Nat} {n : Int} (h : JnS f l s) (ht : LvS f n.toNat t) : JnS f (l ++ [n]) (joinL [s, t]) :=
  ⟨neat_tidy _, join_ok h.ok ht.ok, fun v => by
    rw [join_has, h.has, ht.has]
    constructor
    · rintro (⟨m, hm, h1⟩ | h1)
      · exact ⟨m, List.mem_append_left _ hm, h1⟩
      · exact ⟨n, by simp, h1⟩
    · rintro ⟨m, hm, h1⟩
      rcases List.mem_append.1 hm with hm | hm
      · exact .inl ⟨m, hm, h1⟩
      · simp at hm
        subst hm
        exact .inr h1⟩
theorem JnS.one {f : FunV} {l : List Int} {s t : List Nat} (h1 : JnS f l s) (h2 : JnS f l t) : s = t := has_ext h1.tidy h2.tidy h1.ok.2 h2.ok.2 fun v => (h1.has v).trans (h2.has v).symm
theorem EndS.jn {f : FunV} (hok : FlowOk f) {b : Nat} {s : List Nat} (h : EndS f b s) : JnS f (nxt f b) s := by
  refine ⟨h.tidy, h.ok hok, fun v => ?_⟩
  obtain ⟨σ, hσ, rfl⟩ := h
  rw [hasB_join]
  constructor
  · rintro ⟨l, hl, h1⟩
    obtain ⟨n, hn, rfl⟩ := List.mem_map.1 hl
    exact ⟨n, hn, ((hσ n.toNat (by have := hok.2.2 b n hn; omega)).has v).1 h1⟩
  · rintro ⟨n, hn, h1⟩
    exact ⟨_, List.mem_map.2 ⟨n, hn, rfl⟩, ((hσ n.toNat (by have := hok.2.2 b n hn; omega)).has v).2 h1⟩
/-- What is live ahead of a block's first instruction. -/
theorem LvQ.inS {f : FunV} (hok : FlowOk f) {n : Nat} (hn : n < f.blocks.length) (hne : codeOf f n ≠ []) {s : List Nat} (h : LvQ f 0 (n : Int) 0 s) : LvS f n s := by
  obtain ⟨l, hl⟩ : ∃ l, f.blocks[n]? = some l := ⟨_, List.getElem?_eq_getElem hn⟩
  have hc : codeOf f n = l := by unfold codeOf; rw [hl]; rfl
  have hlen : 0 < l.length := by
    rw [hc] at hne
    exact List.length_pos_iff.2 hne
  unfold LvQ at h
  rw [if_pos (by unfold hereB; rw [sizeN_nat hl]; simp; omega)] at h
  obtain ⟨t, ⟨σ, hσ, rfl⟩, rfl⟩ := h
  have e := LvS.fix hσ hok hn hne
  simp only [Int.toNat_natCast]
  show LvS f n (thrS ((codeOf f n).drop 0) _)
  rw [List.drop_zero, e]
  exact hσ n hn
end Go.Proofs.YtpccjlgnehghgaaDoor
