/- A law of the walk: the operations of one statement are walked in two parts, with a relation of frame and world between them. No condition. -/
import Derived.WalkKit
import Derived.Orders
import Derived.Test.YtjlndibeaklcdaaTA
import Derived.Test.YtjlndibeaklcdaaNG
import Derived.StillTailTactics
set_option linter.unusedSimpArgs false
set_option linter.unusedVariables false
namespace Go.Proofs.Ytjlndibeaklcdaa
open Go.RowKit

theorem oper_then {P : Program} {o : Oper} {a : Act} {w : World} {K K' R : Act → World → Prop} {Q : Exit → Act → World → Prop} (hk : ∀ a w, K a w → K' a w) (h : o.wp P a w K (Exit.then R Q)) : o.wp P a w K' Q := by
  unfold Oper.wp at *
  generalize (execOp a.eval o).run P w = r at *
  cases r with
  | ok n w' =>
    cases n <;> simp only [Oper.upon] at h ⊢ <;>
      first
        | exact hk _ _ h
        | exact Calls.mono h (fun e w'' he => by cases e <;> first | exact hk _ _ he | exact he)
        | exact Rows.mono h (fun _ _ he => hk _ _ he)
  | halt x w' => cases x <;> simp only [Oper.upon] at h ⊢ <;> exact h
theorem wpList_cut {P : Program} {ops : Array Oper} {Q : Exit → Act → World → Prop} (R : Act → World → Prop) (l2 : List Oper) (hr : ∀ a w, R a w → wpList P ops Q l2 a w) : ∀ (l1 : List Oper) (a : Act) (w : World), wpList P ops (Exit.then R Q) l1 a w → wpList P ops Q (l1 ++ l2) a w
  | [], a, w, h => hr a w h
  | o :: l1, a, w, h => by
    have ih := wpList_cut R l2 hr l1
    rw [List.cons_append]
    unfold wpList at h ⊢
    split at h
    · rename_i hg
      rw [if_pos hg]
      rcases h with h | ⟨h1, h2⟩
      · exact .inl (oper_then ih h)
      · exact .inr ⟨h1, h2⟩
    · rename_i hg
      rw [if_neg hg]
      exact ih _ _ h
/-- The first n operations, then the others. -/
theorem wpList_at {P : Program} {ops : Array Oper} {Q : Exit → Act → World → Prop} {l : List Oper} {a : Act} {w : World} (n : Nat) (R : Act → World → Prop) (h : wpList P ops (Exit.then R Q) (l.take n) a w) (hr : ∀ a w, R a w → wpList P ops Q (l.drop n) a w) : wpList P ops Q l a w := by
  have := wpList_cut R (l.drop n) hr (l.take n) a w h
  rwa [List.take_append_drop] at this
end Go.Proofs.Ytjlndibeaklcdaa
namespace Go.Proofs.Ytjlndibeaklcdaa
open Go.RowKit

theorem hasP_two (op : Int) (c d : Nat) : hasP op [c, d] = (hasB4 op c || hasB4 op d) := by
  rw [Bool.eq_iff_iff]
  unfold hasP hasB4
  simp only [List.any_eq_true, decide_eq_true_eq, Bool.or_eq_true, List.mem_cons, List.not_mem_nil, or_false]
  constructor
  · rintro ⟨z, hz, rfl | rfl⟩
    · exact .inl hz
    · exact .inr hz
  · rintro (h | h)
    · exact ⟨c, h, .inl rfl⟩
    · exact ⟨d, h, .inr rfl⟩
theorem only_eq (x : InsV) : onlyB4 x = ((x.d == 0 || hasB4 x.op 68) && ((x.a == 0 || hasB4 x.op 65) && ((x.b == 0 || hasB4 x.op 66) && ((x.n == 0 || (hasB4 x.op 78 || hasB4 x.op 110)) && ((x.m == 0 || hasB4 x.op 77) && ((x.args.length : Int) == 0 || hasB4 x.op 76)))))) := by
  have hl : (!decide (0 < x.args.length)) = ((x.args.length : Int) == 0) := by
    rw [Bool.eq_iff_iff]; simp
  unfold onlyB4 checksL
  simp only [List.all_cons, List.all_nil, Bool.and_true, hasP_two, hl]
  simp [bne]
end Go.Proofs.Ytjlndibeaklcdaa
namespace Go.Proofs.Ytjlndibeaklcdaa
open Go.RowKit

theorem numsR_at {p : List FunV} {x : InsV} {j : Int} (h : x.op = j) : numsR p x = (if j = 19 then calleeB p x.n x.args.length else if j = 1 then inB (-2147483648) 2147483648 x.n else if j = 16 then inB (-8) 8 x.n else if j = 10 then inB 0 8 x.n && inB 0 8 x.m
  else if j = 11 ∨ j = 12 ∨ j = 13 ∨ j = 14 ∨ j = 15 then inB 0 7 x.n else true) := by subst h; rfl
end Go.Proofs.Ytjlndibeaklcdaa
namespace Go.Proofs.Ytjlndibeaklcdaa
open Go.RowKit

theorem ret_nat {a b : Nat} (h : a = b) : Ending.returned (.int .i64 (a : Int)) = .returned (.int .i64 (b : Int)) := by rw [h]
end Go.Proofs.Ytjlndibeaklcdaa
