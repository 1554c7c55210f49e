/- Layer 13: the fixed fact; which programs aren't asked about; what a function of a program that may be has. Condition: no slice of the program is longer than any machine's memory. -/
import Derived.Test.YtnoknodijombpaaDoorPhDK
import Derived.Test.YtnoknodijombpaaDoorPhSW
import Derived.Test.YtnoknodijombpaaDoorPhG2
set_option linter.unusedSimpArgs false
set_option linter.unusedVariables false
namespace Go.Proofs.YtnoknodijombpaaDoor
open Go.RowKit

def P13 : FunV := ⟨[0], [-1], 0, 0, [[⟨22, 0, 0, 0, 1, 2, []⟩], [⟨21, 0, 0, 0, 2, 0, []⟩], [⟨23, 0, 0, 0, 0, 0, []⟩]]⟩
def WP13 (w : World) (h : Nat) : World := (((((((w.alloc (.cells #[.int .i64 0] 3)).alloc (.cells #[.int .i64 (-1)] 3)).alloc (.cells #[.int .i64 22, .int .i64 0, .int .i64 0, .int .i64 0, .int .i64 1, .int .i64 2, .slice none 0 0] 38)).alloc (.cells #[.int .i64 21, .int .i64 0, .int .i64 0, .int .i64 0, .int .i64 2, .int .i64 0, .slice none 0 0] 38)).alloc (.cells #[.int .i64 23, .int .i64 0, .int .i64 0, .int .i64 0, .int .i64 0, .int .i64 0, .slice none 0 0] 38)).alloc (.cells #[.slice (some ⟨h + 1 + 1, 0, none⟩) 1 1, .slice (some ⟨h + 1 + 1 + 1, 0, none⟩) 1 1, .slice (some ⟨h + 1 + 1 + 1 + 1, 0, none⟩) 1 1] 41)).alloc (.cells #[.slice (some ⟨h, 0, none⟩) 1 1, .slice (some ⟨h + 1, 0, none⟩) 1 1, .int .i64 0, .int .i64 0, .slice (some ⟨h + 1 + 1 + 1 + 1 + 1, 0, none⟩) 3 3] 34))
theorem P13_of (w : World) : Box (WP13 w w.heap.size) (w.heap.size + 1 + 1 + 1 + 1 + 1 + 1) #[.slice (some ⟨w.heap.size, 0, none⟩) 1 1, .slice (some ⟨w.heap.size + 1, 0, none⟩) 1 1, .int .i64 0, .int .i64 0, .slice (some ⟨w.heap.size + 1 + 1 + 1 + 1 + 1, 0, none⟩) 3 3] 34 ∧ FunI (WP13 w w.heap.size) (· < (WP13 w w.heap.size).heap.size) (.slice (some ⟨w.heap.size, 0, none⟩) 1 1) (.slice (some ⟨w.heap.size + 1, 0, none⟩) 1 1) (.slice (some ⟨w.heap.size + 1 + 1 + 1 + 1 + 1, 0, none⟩) 3 3) P13 ∧ Below w.heap.size w (WP13 w w.heap.size) := by
  unfold WP13
  obtain ⟨h, hh⟩ : ∃ h, w.heap.size = h := ⟨_, rfl⟩
  rw [hh]
  obtain ⟨w0, hw0⟩ : ∃ w0, w.alloc (.cells #[.int .i64 0] 3) = w0 := ⟨_, rfl⟩
  have b0 : Box w0 h #[.int .i64 0] 3 := by rw [← hw0, ← hh]; exact Box.new _ _ _
  have z0 : w0.heap.size = h + 1 := by rw [← hw0, World.size_alloc, hh]
  have l0 : Below h w w0 := by rw [← hw0, ← hh]; exact alloc1 w _
  rw [hw0]
  obtain ⟨w1, hw1⟩ : ∃ w1, w0.alloc (.cells #[.int .i64 (-1)] 3) = w1 := ⟨_, rfl⟩
  have b1 : Box w1 (h + 1) #[.int .i64 (-1)] 3 := by rw [← hw1, ← z0]; exact Box.new _ _ _
  have z1 : w1.heap.size = h + 1 + 1 := by rw [← hw1, World.size_alloc, z0]
  have l1 : Below h w w1 := by rw [← hw1]; exact l0.alloc (by omega) _
  replace b0 : Box w1 (h) #[.int .i64 0] 3 := by rw [← hw1]; exact b0.alloc _
  rw [hw1]
  obtain ⟨w2, hw2⟩ : ∃ w2, w1.alloc (.cells #[.int .i64 22, .int .i64 0, .int .i64 0, .int .i64 0, .int .i64 1, .int .i64 2, .slice none 0 0] 38) = w2 := ⟨_, rfl⟩
  have b2 : Box w2 (h + 1 + 1) #[.int .i64 22, .int .i64 0, .int .i64 0, .int .i64 0, .int .i64 1, .int .i64 2, .slice none 0 0] 38 := by rw [← hw2, ← z1]; exact Box.new _ _ _
  have z2 : w2.heap.size = h + 1 + 1 + 1 := by rw [← hw2, World.size_alloc, z1]
  have l2 : Below h w w2 := by rw [← hw2]; exact l1.alloc (by omega) _
  replace b0 : Box w2 (h) #[.int .i64 0] 3 := by rw [← hw2]; exact b0.alloc _
  replace b1 : Box w2 (h + 1) #[.int .i64 (-1)] 3 := by rw [← hw2]; exact b1.alloc _
  rw [hw2]
  obtain ⟨w3, hw3⟩ : ∃ w3, w2.alloc (.cells #[.int .i64 21, .int .i64 0, .int .i64 0, .int .i64 0, .int .i64 2, .int .i64 0, .slice none 0 0] 38) = w3 := ⟨_, rfl⟩
  have b3 : Box w3 (h + 1 + 1 + 1) #[.int .i64 21, .int .i64 0, .int .i64 0, .int .i64 0, .int .i64 2, .int .i64 0, .slice none 0 0] 38 := by rw [← hw3, ← z2]; exact Box.new _ _ _
  have z3 : w3.heap.size = h + 1 + 1 + 1 + 1 := by rw [← hw3, World.size_alloc, z2]
  have l3 : Below h w w3 := by rw [← hw3]; exact l2.alloc (by omega) _
  replace b0 : Box w3 (h) #[.int .i64 0] 3 := by rw [← hw3]; exact b0.alloc _
  replace b1 : Box w3 (h + 1) #[.int .i64 (-1)] 3 := by rw [← hw3]; exact b1.alloc _
  replace b2 : Box w3 (h + 1 + 1) #[.int .i64 22, .int .i64 0, .int .i64 0, .int .i64 0, .int .i64 1, .int .i64 2, .slice none 0 0] 38 := by rw [← hw3]; exact b2.alloc _
  rw [hw3]
  obtain ⟨w4, hw4⟩ : ∃ w4, w3.alloc (.cells #[.int .i64 23, .int .i64 0, .int .i64 0, .int .i64 0, .int .i64 0, .int .i64 0, .slice none 0 0] 38) = w4 := ⟨_, rfl⟩
  have b4 : Box w4 (h + 1 + 1 + 1 + 1) #[.int .i64 23, .int .i64 0, .int .i64 0, .int .i64 0, .int .i64 0, .int .i64 0, .slice none 0 0] 38 := by rw [← hw4, ← z3]; exact Box.new _ _ _
  have z4 : w4.heap.size = h + 1 + 1 + 1 + 1 + 1 := by rw [← hw4, World.size_alloc, z3]
  have l4 : Below h w w4 := by rw [← hw4]; exact l3.alloc (by omega) _
  replace b0 : Box w4 (h) #[.int .i64 0] 3 := by rw [← hw4]; exact b0.alloc _
  replace b1 : Box w4 (h + 1) #[.int .i64 (-1)] 3 := by rw [← hw4]; exact b1.alloc _
  replace b2 : Box w4 (h + 1 + 1) #[.int .i64 22, .int .i64 0, .int .i64 0, .int .i64 0, .int .i64 1, .int .i64 2, .slice none 0 0] 38 := by rw [← hw4]; exact b2.alloc _
  replace b3 : Box w4 (h + 1 + 1 + 1) #[.int .i64 21, .int .i64 0, .int .i64 0, .int .i64 0, .int .i64 2, .int .i64 0, .slice none 0 0] 38 := by rw [← hw4]; exact b3.alloc _
  rw [hw4]
  obtain ⟨w5, hw5⟩ : ∃ w5, w4.alloc (.cells #[.slice (some ⟨h + 1 + 1, 0, none⟩) 1 1, .slice (some ⟨h + 1 + 1 + 1, 0, none⟩) 1 1, .slice (some ⟨h + 1 + 1 + 1 + 1, 0, none⟩) 1 1] 41) = w5 := ⟨_, rfl⟩
  have b5 : Box w5 (h + 1 + 1 + 1 + 1 + 1) #[.slice (some ⟨h + 1 + 1, 0, none⟩) 1 1, .slice (some ⟨h + 1 + 1 + 1, 0, none⟩) 1 1, .slice (some ⟨h + 1 + 1 + 1 + 1, 0, none⟩) 1 1] 41 := by rw [← hw5, ← z4]; exact Box.new _ _ _
  have z5 : w5.heap.size = h + 1 + 1 + 1 + 1 + 1 + 1 := by rw [← hw5, World.size_alloc, z4]
  have l5 : Below h w w5 := by rw [← hw5]; exact l4.alloc (by omega) _
  replace b0 : Box w5 (h) #[.int .i64 0] 3 := by rw [← hw5]; exact b0.alloc _
  replace b1 : Box w5 (h + 1) #[.int .i64 (-1)] 3 := by rw [← hw5]; exact b1.alloc _
  replace b2 : Box w5 (h + 1 + 1) #[.int .i64 22, .int .i64 0, .int .i64 0, .int .i64 0, .int .i64 1, .int .i64 2, .slice none 0 0] 38 := by rw [← hw5]; exact b2.alloc _
  replace b3 : Box w5 (h + 1 + 1 + 1) #[.int .i64 21, .int .i64 0, .int .i64 0, .int .i64 0, .int .i64 2, .int .i64 0, .slice none 0 0] 38 := by rw [← hw5]; exact b3.alloc _
  replace b4 : Box w5 (h + 1 + 1 + 1 + 1) #[.int .i64 23, .int .i64 0, .int .i64 0, .int .i64 0, .int .i64 0, .int .i64 0, .slice none 0 0] 38 := by rw [← hw5]; exact b4.alloc _
  rw [hw5]
  obtain ⟨w6, hw6⟩ : ∃ w6, w5.alloc (.cells #[.slice (some ⟨h, 0, none⟩) 1 1, .slice (some ⟨h + 1, 0, none⟩) 1 1, .int .i64 0, .int .i64 0, .slice (some ⟨h + 1 + 1 + 1 + 1 + 1, 0, none⟩) 3 3] 34) = w6 := ⟨_, rfl⟩
  have b6 : Box w6 (h + 1 + 1 + 1 + 1 + 1 + 1) #[.slice (some ⟨h, 0, none⟩) 1 1, .slice (some ⟨h + 1, 0, none⟩) 1 1, .int .i64 0, .int .i64 0, .slice (some ⟨h + 1 + 1 + 1 + 1 + 1, 0, none⟩) 3 3] 34 := by rw [← hw6, ← z5]; exact Box.new _ _ _
  have z6 : w6.heap.size = h + 1 + 1 + 1 + 1 + 1 + 1 + 1 := by rw [← hw6, World.size_alloc, z5]
  have l6 : Below h w w6 := by rw [← hw6]; exact l5.alloc (by omega) _
  replace b0 : Box w6 (h) #[.int .i64 0] 3 := by rw [← hw6]; exact b0.alloc _
  replace b1 : Box w6 (h + 1) #[.int .i64 (-1)] 3 := by rw [← hw6]; exact b1.alloc _
  replace b2 : Box w6 (h + 1 + 1) #[.int .i64 22, .int .i64 0, .int .i64 0, .int .i64 0, .int .i64 1, .int .i64 2, .slice none 0 0] 38 := by rw [← hw6]; exact b2.alloc _
  replace b3 : Box w6 (h + 1 + 1 + 1) #[.int .i64 21, .int .i64 0, .int .i64 0, .int .i64 0, .int .i64 2, .int .i64 0, .slice none 0 0] 38 := by rw [← hw6]; exact b3.alloc _
  replace b4 : Box w6 (h + 1 + 1 + 1 + 1) #[.int .i64 23, .int .i64 0, .int .i64 0, .int .i64 0, .int .i64 0, .int .i64 0, .slice none 0 0] 38 := by rw [← hw6]; exact b4.alloc _
  replace b5 : Box w6 (h + 1 + 1 + 1 + 1 + 1) #[.slice (some ⟨h + 1 + 1, 0, none⟩) 1 1, .slice (some ⟨h + 1 + 1 + 1, 0, none⟩) 1 1, .slice (some ⟨h + 1 + 1 + 1 + 1, 0, none⟩) 1 1] 41 := by rw [← hw6]; exact b5.alloc _
  rw [hw6]
  clear hw0 hw1 hw2 hw3 hw4 hw5 hw6 z0 z1 z2 z3 z4 z5 l0 l1 l2 l3 l4 l5
  have r0 : i64R 0 := by unfold i64R; omega
  refine ⟨b6, ⟨?_, ?_, ?_, r0, r0⟩, l6⟩
  · refine ⟨_, 1, rfl, Nat.le_refl _, by omega, fun _ => ⟨_, 0, rfl, b0.lt, fun j y hj => ?_⟩⟩
    have hj4 : j < 1 := (List.getElem?_eq_some_iff.1 hj).1
    obtain rfl : j = 0 := by omega
    injection hj with hj
    subst hj
    exact ⟨(b0.cell 0 (v := .int .i64 0) rfl).1, by unfold i64R; omega⟩
  · refine ⟨_, 1, rfl, Nat.le_refl _, by omega, fun _ => ⟨_, 0, rfl, b1.lt, fun j y hj => ?_⟩⟩
    have hj4 : j < 1 := (List.getElem?_eq_some_iff.1 hj).1
    obtain rfl : j = 0 := by omega
    injection hj with hj
    subst hj
    exact ⟨(b1.cell 0 (v := .int .i64 (-1)) rfl).1, by unfold i64R; omega⟩
  · refine ⟨_, 3, rfl, Nat.le_refl _, by omega, fun _ => ⟨_, 0, rfl, b5.lt, fun j y hj => ?_⟩⟩
    have hj4 : j < 3 := (List.getElem?_eq_some_iff.1 hj).1
    rcases (show j = 0 ∨ j = 1 ∨ j = 2 by omega) with rfl | rfl | rfl
    · injection hj with hj
      subst hj
      refine ⟨_, (b5.cell 0 rfl).1, _, 1, rfl, Nat.le_refl _, by omega, fun _ => ⟨_, 0, rfl, b2.lt, fun j y hj => ?_⟩⟩
      have hj5 : j < 1 := (List.getElem?_eq_some_iff.1 hj).1
      obtain rfl : j = 0 := by omega
      injection hj with hj
      subst hj
      exact ⟨.slice none 0 0, ⟨(b2.cell 0 (v := .int .i64 22) rfl).1, (b2.cell 1 (v := .int .i64 0) rfl).1, (b2.cell 2 (v := .int .i64 0) rfl).1, (b2.cell 3 (v := .int .i64 0) rfl).1, (b2.cell 4 (v := .int .i64 1) rfl).1, (b2.cell 5 (v := .int .i64 2) rfl).1, (b2.cell 6 (v := .slice none 0 0) rfl).1⟩, Vec.nil _ _ _, by unfold InsR i64R; simp⟩
    · injection hj with hj
      subst hj
      refine ⟨_, (b5.cell 1 rfl).1, _, 1, rfl, Nat.le_refl _, by omega, fun _ => ⟨_, 0, rfl, b3.lt, fun j y hj => ?_⟩⟩
      have hj5 : j < 1 := (List.getElem?_eq_some_iff.1 hj).1
      obtain rfl : j = 0 := by omega
      injection hj with hj
      subst hj
      exact ⟨.slice none 0 0, ⟨(b3.cell 0 (v := .int .i64 21) rfl).1, (b3.cell 1 (v := .int .i64 0) rfl).1, (b3.cell 2 (v := .int .i64 0) rfl).1, (b3.cell 3 (v := .int .i64 0) rfl).1, (b3.cell 4 (v := .int .i64 2) rfl).1, (b3.cell 5 (v := .int .i64 0) rfl).1, (b3.cell 6 (v := .slice none 0 0) rfl).1⟩, Vec.nil _ _ _, by unfold InsR i64R; simp⟩
    · injection hj with hj
      subst hj
      refine ⟨_, (b5.cell 2 rfl).1, _, 1, rfl, Nat.le_refl _, by omega, fun _ => ⟨_, 0, rfl, b4.lt, fun j y hj => ?_⟩⟩
      have hj5 : j < 1 := (List.getElem?_eq_some_iff.1 hj).1
      obtain rfl : j = 0 := by omega
      injection hj with hj
      subst hj
      exact ⟨.slice none 0 0, ⟨(b4.cell 0 (v := .int .i64 23) rfl).1, (b4.cell 1 (v := .int .i64 0) rfl).1, (b4.cell 2 (v := .int .i64 0) rfl).1, (b4.cell 3 (v := .int .i64 0) rfl).1, (b4.cell 4 (v := .int .i64 0) rfl).1, (b4.cell 5 (v := .int .i64 0) rfl).1, (b4.cell 6 (v := .slice none 0 0) rfl).1⟩, Vec.nil _ _ _, by unfold InsR i64R; simp⟩

theorem p13_ok : FlowOk P13 := by
  refine ⟨by decide, by decide, fun k v hv => ?_⟩
  rcases (show k = 0 ∨ k = 1 ∨ k = 2 ∨ 3 ≤ k by omega) with rfl | rfl | rfl | h
  · have : v ∈ [1, 2] := hv
    simp at this
    show 0 ≤ v ∧ v < (3 : Int)
    omega
  · have : v ∈ [2] := hv
    simp at this
    show 0 ≤ v ∧ v < (3 : Int)
    omega
  · have : v ∈ ([] : List Int) := hv
    cases this
  · unfold nxt at hv
    rw [List.getElem?_eq_none (show P13.blocks.length ≤ k from h)] at hv
    cases hv
theorem p13_crit : critN P13 = [(0, 2)] := by decide
theorem p13_fit : fitsB P13 = true := by decide
def G13 : FunV := splitF P13
theorem g13_ok : FlowOk G13 := by
  refine ⟨by decide, by decide, fun k v hv => ?_⟩
  rcases (show k = 0 ∨ k = 1 ∨ k = 2 ∨ k = 3 ∨ 4 ≤ k by omega) with rfl | rfl | rfl | rfl | h
  · have : v ∈ [1, 3] := hv
    simp at this
    show 0 ≤ v ∧ v < (4 : Int)
    omega
  · have : v ∈ [2] := hv
    simp at this
    show 0 ≤ v ∧ v < (4 : Int)
    omega
  · have : v ∈ ([] : List Int) := hv
    cases this
  · have : v ∈ [2] := hv
    simp at this
    show 0 ≤ v ∧ v < (4 : Int)
    omega
  · unfold nxt at hv
    rw [List.getElem?_eq_none (show G13.blocks.length ≤ k from h)] at hv
    cases hv
theorem g13_crit : critN G13 = [] := by decide
/-- What Split asks of a function of a program that may be. -/
structure EOk (p : List FunV) (f : FunV) : Prop where
  flow : FlowOk f
  one : 1 ≤ f.blocks.length
  kinds : f.kinds.length ≤ 48
  bl : f.base.length = f.kinds.length
  code : ∀ l ∈ f.blocks, 1 ≤ l.length ∧ l.length ≤ 1000 ∧ ∀ x ∈ l, x.args.length ≤ 1000
theorem may_args {p : List FunV} {f : FunV} {x : InsV} (hp : ∀ f ∈ p, funOkB p f = true) (h : mayB4 p f x = true) : x.args.length ≤ 4 := by
  obtain ⟨h1, h2, h3, h4, h5⟩ := may_parts h
  have hr := op_range h1
  by_cases h19 : x.op = 19
  · unfold numsB at h5
    rw [if_neg (by omega), if_neg (by omega), if_neg (by omega), if_neg (by omega), if_pos h19] at h5
    have := callee_args hp h5
    omega
  · unfold onlyB4 checksL at h2
    simp only [List.all_cons, List.all_nil, Bool.and_eq_true, Bool.or_eq_true, Bool.not_eq_true', bne_eq_false_iff_eq, Bool.and_true] at h2
    obtain ⟨-, -, -, -, -, g6⟩ := h2
    unfold hasB4 at g6
    simp only [decide_eq_true_eq, decide_eq_false_iff_not] at g6
    rcases g6 with g6 | g6
    · omega
    · have hj := parts_has g6 (fun j => j == 19) (by decide)
      simp at hj
      omega
theorem eOk_of {p : List FunV} (h : progB4 p = true) : ∀ f ∈ p, EOk p f := fun f hm => by
  obtain ⟨-, -, -, hall⟩ := prog_parts h
  obtain ⟨⟨h1, h2, h3⟩, -, -, ⟨-, -, h4⟩, hmay⟩ := fun_parts (hall f hm)
  refine ⟨(flowOk_of h f hm).1, (flowOk_of h f hm).2, h2, h1, fun l hl => ⟨(h4 l hl).1, by have := (h4 l hl).2.1; omega, fun x hx => by have := may_args hall (hmay l hl x hx); omega⟩⟩
set_option maxHeartbeats 1000000 in
set_option maxRecDepth 100000 in
theorem out13_any (vp : Value) (p : List FunV) (w : World) (B : Nat) (hB : B ≤ w.heap.size) (hp : FunsV w (· < B) vp p) (hsz : progSize p) :
    Calls Tryd.prog 5 #[.agg #[vp]] w fun e w' => ∃ b : Bool, e = .returned (.bool b) ∧ Hid (b = false → progB4 p = true ∧ progFew p) ∧ Below w.heap.size w w' := by
  have HG := hide (fun (W : World) (hW : Below w.heap.size w W) => great2_any vp p W B (by have := hW.size; omega) (hp.keep (up hW hB) (fun _ h => h)) hsz)
  have HCK := hide (fun (W : World) (hW : Below w.heap.size w W) (hf : progFew p) => check4_any vp p W B (by have := hW.size; omega) (hp.keep (up hW hB) (fun _ h => h)) hf)
  have HFEW := hide (fun h : ∀ f ∈ p, smallF f => smallF.few h)
  obtain ⟨A, c, rfl, hpc, hpm⟩ := hp.open'
  have HTWO := hide (two_chk p)
  generalize chkN4 p = ck at *
  obtain ⟨lp, hlp⟩ : ∃ lp, p.length = lp := ⟨_, rfl⟩
  rw [hlp] at HG HCK hpc ⊢
  clear hp hsz hlp
  go_enter Tryd.func5, Tryd.ntmps5
  go_upto_region 1 with (fail)
  obtain ⟨w0, hw0⟩ : ∃ w0, w0 = w.alloc (.cells #[.slice A lp c] 24) := ⟨_, rfl⟩
  have HX0 := hide (show Box w0 w.heap.size #[.slice A lp c] 24 by rw [hw0]; exact Box.new w _ _)
  have HB0 := hide (show Below w.heap.size w w0 by rw [hw0]; exact alloc1 w _)
  have hl0 := HX0.out.lt
  rw [← hw0]
  clear hw0
  have x0 := (HX0.out.cell 0 (v := .slice A lp c) rfl).1
  rcases HTWO.out with ⟨rfl, hpb⟩ | rfl
  · have HPB := hide hpb
    clear hpb
    go_wp2_with (first
      | (go_at_call 12; refine (HCK.out w2 HB2.out (HFEW.out (HS2.out (by first | assumption | exact Bool.eq_false_iff.2 (by assumption))))).mono ?_; rintro e w3 ⟨rfl, hb3⟩; have HB3 := hide (HB2.out.trans (hb3.mono HB2.out.size)); clear hb3)
      | (go_at_call 11; refine (HG.out w0 HB0.out).mono ?_; rintro e w2 ⟨b1, rfl, hs2, hb2⟩; have x2 := ((HX0.out.below hb2).cell 0 (v := .slice A lp c) rfl).1; have l2 := (HX0.out.below hb2).lt; have HB2 := hide (HB0.out.trans (hb2.mono HB0.out.size)); have HS2 := hide hs2; clear hb2 hs2))
    all_goals
      go_ret
      first
        | exact ⟨_, rfl, hide (fun h => ⟨HPB.out, HFEW.out (HS2.out (by first | assumption | exact h | exact Bool.eq_false_iff.2 (by assumption)))⟩), HB3.out⟩
        | exact ⟨_, rfl, hide (fun h => by cases h), HB2.out⟩
        | exact ⟨true, rfl, hide (fun h => by cases h), HB2.out⟩
  · go_wp2_with (first
      | (go_at_call 12; refine (HCK.out w2 HB2.out (HFEW.out (HS2.out (by first | assumption | exact Bool.eq_false_iff.2 (by assumption))))).mono ?_; rintro e w3 ⟨rfl, hb3⟩; have HB3 := hide (HB2.out.trans (hb3.mono HB2.out.size)); clear hb3)
      | (go_at_call 11; refine (HG.out w0 HB0.out).mono ?_; rintro e w2 ⟨b1, rfl, hs2, hb2⟩; have x2 := ((HX0.out.below hb2).cell 0 (v := .slice A lp c) rfl).1; have l2 := (HX0.out.below hb2).lt; have HB2 := hide (HB0.out.trans (hb2.mono HB0.out.size)); have HS2 := hide hs2; clear hb2 hs2))
    all_goals
      go_ret
      first
        | exact ⟨true, rfl, hide (fun h => by cases h), HB3.out⟩
        | exact ⟨true, rfl, hide (fun h => by cases h), HB2.out⟩
end Go.Proofs.YtnoknodijombpaaDoor
