/- Layer 11, mathematics: what is live at a block's beginning, as the least telling; a set of it is one alone. No condition. -/
import Derived.Test.YteoopilmdlhkhaaDoorPaJA
set_option linter.unusedSimpArgs false
set_option linter.unusedVariables false
namespace Go.Proofs.YteoopilmdlhkhaaDoor
open Go.RowKit

/-- A list of instructions sets v. -/
def setB (l : List InsV) (v : Nat) : Prop := ∃ x ∈ l, hasB4 x.op 68 = true ∧ x.d = (v : Int)
theorem hasB_join (ls : List (List Nat)) (v : Nat) : hasB (joinL ls) (v : Int) = true ↔ ∃ l ∈ ls, hasB l (v : Int) = true := by
  rw [hasB_nat, joinL_getD]
  unfold orAll
  suffices h : ∀ (ls : List (List Nat)) (x : Nat), (ls.foldl (fun x l => x ||| l.getD (v / 64) 0) x).testBit (v % 64) = true ↔ (x.testBit (v % 64) = true ∨ ∃ l ∈ ls, hasB l (v : Int) = true) by
    rw [h ls 0]
    simp
  intro ls
  induction ls with
  | nil => intro x; simp
  | cons l ls ih =>
    intro x
    rw [List.foldl_cons, ih, Nat.testBit_or, Bool.or_eq_true, ← hasB_nat]
    constructor
    · rintro ((h | h) | ⟨m, hm, h⟩)
      · exact .inl h
      · exact .inr ⟨l, List.mem_cons_self, h⟩
      · exact .inr ⟨m, List.mem_cons_of_mem _ hm, h⟩
    · rintro (h | ⟨m, hm, h⟩)
      · exact .inl (.inl h)
      · rcases List.mem_cons.1 hm with rfl | hm
        · exact .inl (.inr h)
        · exact .inr ⟨m, hm, h⟩
theorem maxLenL_le {ls : List (List Nat)} {n : Nat} (h : ∀ l ∈ ls, l.length ≤ n) : maxLenL ls ≤ n := by
  unfold maxLenL
  suffices h2 : ∀ (ls : List (List Nat)) (m : Nat), (∀ l ∈ ls, l.length ≤ n) → m ≤ n → ls.foldl (fun m l => max m l.length) m ≤ n from h2 ls 0 h (Nat.zero_le _)
  intro ls
  induction ls with
  | nil => intro m _ hm; exact hm
  | cons l ls ih =>
    intro m hl hm
    rw [List.foldl_cons]
    have := hl l List.mem_cons_self
    exact ih _ (fun x hx => hl x (List.mem_cons_of_mem _ hx)) (by omega)
def codeOf (f : FunV) (b : Nat) : List InsV := (f.blocks[b]?).getD []
/-- v is live at the beginning of block b: the least telling. -/
def Lv (f : FunV) (b v : Nat) : Prop := ∀ P : Nat → Prop, (∀ b, b < f.blocks.length → hasB (thrS (codeOf f b) []) (v : Int) = true → P b) → (∀ b c : Nat, b < f.blocks.length → c < f.blocks.length → (c : Int) ∈ nxt f b → P c → ¬ setB (codeOf f b) v → P b) → P b
theorem Lv.here {f : FunV} {b v : Nat} (hb : b < f.blocks.length) (h : hasB (thrS (codeOf f b) []) (v : Int) = true) : Lv f b v := fun P h1 _ => h1 b hb h
theorem Lv.on {f : FunV} {b c v : Nat} (hb : b < f.blocks.length) (hc : c < f.blocks.length) (he : (c : Int) ∈ nxt f b) (h : Lv f c v) (hs : ¬ setB (codeOf f b) v) : Lv f b v := fun P h1 h2 => h2 b c hb hc he (h P h1 h2) hs
theorem Lv.cases {f : FunV} {b v : Nat} (h : Lv f b v) : b < f.blocks.length ∧ (hasB (thrS (codeOf f b) []) (v : Int) = true ∨ (¬ setB (codeOf f b) v ∧ ∃ c : Nat, c < f.blocks.length ∧ (c : Int) ∈ nxt f b ∧ Lv f c v)) :=
  h (fun b => b < f.blocks.length ∧ (hasB (thrS (codeOf f b) []) (v : Int) = true ∨ (¬ setB (codeOf f b) v ∧ ∃ c : Nat, c < f.blocks.length ∧ (c : Int) ∈ nxt f b ∧ Lv f c v)))
    (fun b hb h => ⟨hb, .inl h⟩) (fun b c hb hc he ⟨_, hp⟩ hs => ⟨hb, .inr ⟨hs, c, hc, he, by
      rcases hp with hp | ⟨hp, d, hd, hde, hdl⟩
      · exact Lv.here hc hp
      · exact Lv.on hc hd hde hdl hp⟩⟩)
/-- The set of what is live at the beginning of b. -/
structure LvS (f : FunV) (b : Nat) (s : List Nat) : Prop where
  tidy : Tidy s
  ok : SetOk s
  has : ∀ v : Nat, hasB s (v : Int) = true ↔ Lv f b v
theorem has_ext {s t : List Nat} (h1 : Tidy s) (h2 : Tidy t) (k1 : W64 s) (k2 : W64 t) (h : ∀ v : Nat, hasB s (v : Int) = true ↔ hasB t (v : Int) = true) : s = t := by
  refine tidy_ext h1 h2 fun i => ?_
  refine Nat.eq_of_testBit_eq fun j => ?_
  by_cases hj : j < 64
  · have := h (64 * i + j)
    rw [hasB_nat, hasB_nat] at this
    rw [show (64 * i + j) / 64 = i by omega, show (64 * i + j) % 64 = j by omega] at this
    exact Bool.eq_iff_iff.2 this
  · rw [Nat.testBit_lt_two_pow (Nat.lt_of_lt_of_le (k1.getD i) (Nat.pow_le_pow_right (n := 2) (by omega) (by omega : 64 ≤ j))), Nat.testBit_lt_two_pow (Nat.lt_of_lt_of_le (k2.getD i) (Nat.pow_le_pow_right (n := 2) (by omega) (by omega : 64 ≤ j)))]
theorem LvS.one {f : FunV} {b : Nat} {s t : List Nat} (h1 : LvS f b s) (h2 : LvS f b t) : s = t := has_ext h1.tidy h2.tidy h1.ok.2 h2.ok.2 fun v => (h1.has v).trans (h2.has v).symm
/-- The worklist: what is told so far, what is due. -/
structure LI (f : FunV) (σ : Nat → List Nat) (due : List Nat) : Prop where
  tidy : ∀ b, b < f.blocks.length → Tidy (σ b)
  ok : ∀ b, b < f.blocks.length → SetOk (σ b)
  ask : ∀ b, b < f.blocks.length → ∀ v : Nat, hasB (thrS (codeOf f b) []) (v : Int) = true → hasB (σ b) (v : Int) = true
  lv : ∀ b, b < f.blocks.length → ∀ v : Nat, hasB (σ b) (v : Int) = true → Lv f b v
  clo : ∀ p b : Nat, p < f.blocks.length → b < f.blocks.length → (b : Int) ∈ nxt f p → b ∉ due → ∀ v : Nat, hasB (σ b) (v : Int) = true → ¬ setB (codeOf f p) v → hasB (σ p) (v : Int) = true
theorem LI.done {f : FunV} {σ : Nat → List Nat} (h : LI f σ []) {b : Nat} (hb : b < f.blocks.length) : LvS f b (σ b) :=
  ⟨h.tidy b hb, h.ok b hb, fun v => ⟨h.lv b hb v, fun hl => (hl (fun b => b < f.blocks.length ∧ hasB (σ b) (v : Int) = true) (fun b hb h1 => ⟨hb, h.ask b hb v h1⟩) (fun b c hb hc he hp hs => ⟨hb, h.clo b c hb hc he (by simp) v hp.2 hs⟩)).2⟩⟩
end Go.Proofs.YteoopilmdlhkhaaDoor
