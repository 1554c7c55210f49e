/- A law of the walk: the operations of one statement are walked in two parts, with a relation of frame and world between them. No condition. -/
import Derived.WalkKit
import Derived.Orders
set_option linter.unusedSimpArgs false
set_option linter.unusedVariables false
namespace Go.Proofs.Ytkpikgakphdjjaa
open Go.RowKit

theorem oper_then {P : Program} {o : Oper} {a : Act} {w : World} {K K' R : Act → World → Prop} {Q : Exit → Act → World → Prop} (hk : ∀ a w, K a w → K' a w) (h : o.wp P a w K (Exit.then R Q)) : o.wp P a w K' Q := by
  unfold Oper.wp at *
  generalize (execOp a.eval o).run P w = r at *
  cases r with
  | ok n w' =>
    cases n <;> simp only [Oper.upon] at h ⊢ <;>
      first
        | exact hk _ _ h
        | exact Calls.mono h (fun e w'' he => by cases e <;> first | exact hk _ _ he | exact he)
        | exact Rows.mono h (fun _ _ he => hk _ _ he)
  | halt x w' => cases x <;> simp only [Oper.upon] at h ⊢ <;> exact h
theorem wpList_cut {P : Program} {ops : Array Oper} {Q : Exit → Act → World → Prop} (R : Act → World → Prop) (l2 : List Oper) (hr : ∀ a w, R a w → wpList P ops Q l2 a w) : ∀ (l1 : List Oper) (a : Act) (w : World), wpList P ops (Exit.then R Q) l1 a w → wpList P ops Q (l1 ++ l2) a w
  | [], a, w, h => hr a w h
  | o :: l1, a, w, h => by
    have ih := wpList_cut R l2 hr l1
    rw [List.cons_append]
    unfold wpList at h ⊢
    split at h
    · rename_i hg
      rw [if_pos hg]
      rcases h with h | ⟨h1, h2⟩
      · exact .inl (oper_then ih h)
      · exact .inr ⟨h1, h2⟩
    · rename_i hg
      rw [if_neg hg]
      exact ih _ _ h
/-- The first n operations, then the others. -/
theorem wpList_at {P : Program} {ops : Array Oper} {Q : Exit → Act → World → Prop} {l : List Oper} {a : Act} {w : World} (n : Nat) (R : Act → World → Prop) (h : wpList P ops (Exit.then R Q) (l.take n) a w) (hr : ∀ a w, R a w → wpList P ops Q (l.drop n) a w) : wpList P ops Q l a w := by
  have := wpList_cut R (l.drop n) hr (l.take n) a w h
  rwa [List.take_append_drop] at this
end Go.Proofs.Ytkpikgakphdjjaa
