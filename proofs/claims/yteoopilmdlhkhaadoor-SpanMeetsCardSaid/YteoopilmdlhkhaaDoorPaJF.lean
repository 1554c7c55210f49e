/- Layer 11, mathematics of the worklist of live.begins: a step keeps its invariant, and it ends. No condition. -/
import Derived.Test.YteoopilmdlhkhaaDoorPaJE
set_option linter.unusedSimpArgs false
set_option linter.unusedVariables false
namespace Go.Proofs.YteoopilmdlhkhaaDoor
open Go.RowKit

/-- The worklist while the k first ones ahead of b have been gone through. -/
structure LIk (f : FunV) (σ : Nat → List Nat) (due : List Nat) (b k : Nat) : Prop where
  tidy : ∀ c, c < f.blocks.length → Tidy (σ c)
  ok : ∀ c, c < f.blocks.length → SetOk (σ c)
  ask : ∀ c, c < f.blocks.length → ∀ v : Nat, hasB (thrS (codeOf f c) []) (v : Int) = true → hasB (σ c) (v : Int) = true
  lv : ∀ c, c < f.blocks.length → ∀ v : Nat, hasB (σ c) (v : Int) = true → Lv f c v
  clo : ∀ p c : Nat, p < f.blocks.length → c < f.blocks.length → (c : Int) ∈ nxt f p → c ∉ due → (c ≠ b ∨ (p : Int) ∈ (prevN f (b : Int)).take k) → ∀ v : Nat, hasB (σ c) (v : Int) = true → ¬ setB (codeOf f p) v → hasB (σ p) (v : Int) = true
section
variable {f : FunV} {σ : Nat → List Nat} {due : List Nat} {b k p : Nat}
/-- The last one that is due is taken. -/
theorem LI.pop (h : LI f σ (due ++ [b])) : LIk f σ due b 0 :=
  ⟨h.tidy, h.ok, h.ask, h.lv, fun p c hp hc he hd hk v hv hs => by
    rcases hk with hk | hk
    · exact h.clo p c hp hc he (by simp [hd, hk]) v hv hs
    · simp at hk⟩
/-- All that lead to b have been gone through. -/
theorem LIk.all (h : LIk f σ due b k) (hk : (prevN f (b : Int)).length ≤ k) (hp : ∀ p : Nat, p < f.blocks.length → (b : Int) ∈ nxt f p → (p : Int) ∈ prevN f (b : Int)) : LI f σ due :=
  ⟨h.tidy, h.ok, h.ask, h.lv, fun p c hpl hc he hd v hv hs => h.clo p c hpl hc he hd (by
    by_cases e : c = b
    · subst e
      rw [List.take_of_length_le hk]
      exact .inr (hp p hpl he)
    · exact .inl e) v hv hs⟩
/-- Nothing more comes to p. -/
theorem LIk.skip (h : LIk f σ due b k) (hpk : (prevN f (b : Int))[k]? = some (p : Int)) (hm : ∀ v : Nat, hasB (σ b) (v : Int) = true → ¬ setB (codeOf f p) v → hasB (σ p) (v : Int) = true) : LIk f σ due b (k + 1) :=
  ⟨h.tidy, h.ok, h.ask, h.lv, fun q c hq hc he hd hk v hv hs => by
    by_cases e : c = b
    · rcases hk with hk | hk
      · exact absurd e hk
      · rw [List.take_add_one, hpk] at hk
        rcases List.mem_append.1 hk with hk | hk
        · exact h.clo q c hq hc he hd (.inr hk) v hv hs
        · simp at hk
          subst e
          have : q = p := by omega
          subst this
          exact hm v hv hs
    · exact h.clo q c hq hc he hd (.inl e) v hv hs⟩
/-- More comes to p: it is due again. -/
theorem LIk.grow (h : LIk f σ due b k) (hpk : (prevN f (b : Int))[k]? = some (p : Int)) (hp : p < f.blocks.length) (hb : b < f.blocks.length) (he : (b : Int) ∈ nxt f p) {t : List Nat} (ht : Tidy t) (hok : SetOk t)
    (hm : ∀ v : Nat, hasB t (v : Int) = true ↔ (hasB (σ p) (v : Int) = true ∨ (hasB (σ b) (v : Int) = true ∧ ¬ setB (codeOf f p) v))) : LIk f (fun x => if x = p then t else σ x) (due ++ [p]) b (k + 1) := by
  refine ⟨fun c hc => ?_, fun c hc => ?_, fun c hc v hv => ?_, fun c hc v hv => ?_, fun q c hq hc he' hd hk v hv hs => ?_⟩
  · by_cases e : c = p
    · simp only [if_pos e]; exact ht
    · simp only [if_neg e]; exact h.tidy c hc
  · by_cases e : c = p
    · simp only [if_pos e]; exact hok
    · simp only [if_neg e]; exact h.ok c hc
  · by_cases e : c = p
    · simp only [if_pos e]; subst e; exact (hm v).2 (.inl (h.ask c hc v hv))
    · simp only [if_neg e]; exact h.ask c hc v hv
  · by_cases e : c = p
    · simp only [if_pos e] at hv
      subst e
      rcases (hm v).1 hv with h1 | ⟨h1, h2⟩
      · exact h.lv c hc v h1
      · exact Lv.on hc hb he (h.lv b hb v h1) h2
    · simp only [if_neg e] at hv; exact h.lv c hc v hv
  · have hcp : c ≠ p := fun e => hd (by simp [e])
    have hcd : c ∉ due := fun e => hd (by simp [e])
    simp only [if_neg hcp] at hv
    have up : hasB (σ q) (v : Int) = true → hasB (if q = p then t else σ q) (v : Int) = true := fun h1 => by
      by_cases e : q = p
      · rw [if_pos e]; subst e; exact (hm v).2 (.inl h1)
      · rw [if_neg e]; exact h1
    by_cases e : c = b
    · rcases hk with hk | hk
      · exact absurd e hk
      · rw [List.take_add_one, hpk] at hk
        rcases List.mem_append.1 hk with hk | hk
        · exact up (h.clo q c hq hc he' hcd (.inr hk) v hv hs)
        · simp at hk
          have : q = p := by omega
          subst this
          rw [if_pos rfl]
          subst e
          exact (hm v).2 (.inr ⟨hv, hs⟩)
    · exact up (h.clo q c hq hc he' hcd (.inl e) v hv hs)
/-- The beginning: what each block asks for; all are due. -/
theorem LI.start (hne : ∀ c, c < f.blocks.length → codeOf f c ≠ []) : LI f (fun c => thrS (codeOf f c) []) (List.range f.blocks.length) :=
  ⟨fun c hc => by
    cases h : codeOf f c with
    | nil => exact absurd h (hne c hc)
    | cons x l => exact neat_tidy _, fun c hc => thrS_ok ⟨by simp, fun x hx => by cases hx⟩, fun c hc v hv => hv, fun c hc v hv => Lv.here hc hv, fun p c hp hc he hd => absurd (List.mem_range.2 hc) hd⟩
end
/-- How many numbers a set lacks. -/
def lackL (s : List Nat) : Nat := (List.range 4096).countP fun v : Nat => !hasB s (v : Int)
def lackT (σ : Nat → List Nat) (n : Nat) : Nat := ((List.range n).map fun b => lackL (σ b)).sum
theorem countP_lt {l : List Nat} {p q : Nat → Bool} (h : ∀ x ∈ l, p x = true → q x = true) {y : Nat} (hy : y ∈ l) (h1 : q y = true) (h2 : p y = false) : l.countP p < l.countP q := by
  induction l with
  | nil => cases hy
  | cons x l ih =>
    rw [List.countP_cons, List.countP_cons]
    have hle : l.countP p ≤ l.countP q := List.countP_mono_left (fun z hz => h z (List.mem_cons_of_mem _ hz))
    rcases List.mem_cons.1 hy with rfl | hy
    · simp only [h1, h2, if_true, Bool.false_eq_true, if_false]
      omega
    · have h3 := ih (fun z hz => h z (List.mem_cons_of_mem _ hz)) hy
      by_cases hx : p x = true
      · simp only [hx, h x List.mem_cons_self hx, if_true]
        omega
      · simp only [hx, Bool.false_eq_true, if_false]
        omega
theorem lackL_lt {s t : List Nat} (h : ∀ v : Nat, hasB s (v : Int) = true → hasB t (v : Int) = true) {v : Nat} (hv : v < 4096) (h1 : hasB t (v : Int) = true) (h2 : hasB s (v : Int) = false) : lackL t < lackL s :=
  countP_lt (fun x _ hx => by
    simp only [Bool.not_eq_true'] at hx ⊢
    cases hs : hasB s (x : Int) with
    | false => rfl
    | true => rw [h x hs] at hx; cases hx) (List.mem_range.2 hv) (by simp [h2]) (by simp [h1])
theorem sum_set {n p : Nat} {g h : Nat → Nat} (hp : p < n) (hgt : g p < h p) (he : ∀ x, x ≠ p → g x = h x) : ((List.range n).map g).sum < ((List.range n).map h).sum := by
  induction n with
  | zero => omega
  | succ n ih =>
    rw [List.range_succ, List.map_append, List.map_append, List.sum_append, List.sum_append]
    simp only [List.map_cons, List.map_nil, List.sum_cons, List.sum_nil]
    by_cases e : p = n
    · subst e
      have : (List.range p).map g = (List.range p).map h := List.map_congr_left fun x hx => he x (by have := List.mem_range.1 hx; omega)
      rw [this]
      omega
    · have := ih (by omega)
      have := he n (fun h => e h.symm)
      omega
theorem lackT_lt {σ : Nat → List Nat} {n p : Nat} {t : List Nat} (hp : p < n) (h : lackL t < lackL (σ p)) : lackT (fun x => if x = p then t else σ x) n < lackT σ n :=
  sum_set hp (by simp only [if_true]; exact h) (fun x hx => by simp only [if_neg hx])
theorem hasB_lt {s : List Nat} (h : s.length ≤ 64) {v : Nat} (hv : hasB s (v : Int) = true) : v < 4096 := by
  apply Classical.byContradiction
  intro hn
  rw [hasB_out (.inr (by omega))] at hv
  cases hv
end Go.Proofs.YteoopilmdlhkhaaDoor
