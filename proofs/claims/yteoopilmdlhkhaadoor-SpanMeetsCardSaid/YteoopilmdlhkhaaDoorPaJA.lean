/- Layer 11, the program: slices.Backward over instructions, and live.through. Condition: the table of parts reads as listed. -/
import Derived.Test.YteoopilmdlhkhaaDoorPaKSX
import Derived.RangeFuncNested
import Derived.RangeFuncBound
import Derived.RangeFuncCalls
import Derived.RangeFuncLeaves
import Derived.Shelf.Abstract
import Derived.Shelf.RegionOpen
import Derived.WalkKit
import Derived.OwnWalkIn
import Derived.TacticsInMore
import Derived.LoopNIn
import Derived.LoopIn
set_option linter.unusedSimpArgs false
set_option linter.unusedVariables false
namespace Go.Proofs.YteoopilmdlhkhaaDoor
open Go.RowKit Go.Shelf
attribute [local go_sem] Oper.semAt_some

/-- What an instruction that is gone through against the way leaves of a set. -/
def insS (x : InsV) (s : List Nat) : List Nat := joinL [if hasB4 x.op 68 = true then withoutL s [x.d] else s, ofL (usesL x)]
def thrS (l : List InsV) (s : List Nat) : List Nat := l.foldr insS s
/-- A set that is no longer than a set may be. -/
def SetOk (s : List Nat) : Prop := s.length ≤ 64 ∧ W64 s
theorem joinL_lenM (ls : List (List Nat)) : (joinL ls).length ≤ maxLenL ls := by
  have := neat_le (joinTo (maxLenL ls) ls)
  simpa [joinL, joinTo, mapR] using this
theorem insS_ok {x : InsV} {s : List Nat} (h : SetOk s) : SetOk (insS x s) := by
  have h1 : (if hasB4 x.op 68 = true then withoutL s [x.d] else s).length ≤ 64 ∧ W64 (if hasB4 x.op 68 = true then withoutL s [x.d] else s) := by
    split
    · exact ⟨by have := withoutL_len s [x.d]; have := h.1; omega, withoutL_w64 h.2 _⟩
    · exact h
  have h2 := ofL_len (usesL x)
  refine ⟨?_, ?_⟩
  · have h3 := joinL_lenM [if hasB4 x.op 68 = true then withoutL s [x.d] else s, ofL (usesL x)]
    have h4 : maxLenL [if hasB4 x.op 68 = true then withoutL s [x.d] else s, ofL (usesL x)] ≤ 64 := by
      simp only [maxLenL, List.foldl_cons, List.foldl_nil]
      omega
    exact Nat.le_trans h3 h4
  · exact joinL_w64 (by intro l hl; simp at hl; rcases hl with rfl | rfl; exact h1.2; exact ofL_w64 _)
theorem thrS_ok {l : List InsV} {s : List Nat} (h : SetOk s) : SetOk (thrS l s) := by
  induction l with
  | nil => exact h
  | cons x l ih => exact insS_ok ih
/-- An element that comes: its number, the instruction, its arguments' slice; in blocks below B of w. -/
abbrev BkT (w : World) (B : Nat) := { x : Int × InsV × Value // InsI w (· < B) x.2.2 x.2.1 ∧ x.2.1.args.length ≤ 1099511627000 }
def bkE {w : World} {B : Nat} (x : BkT w B) : Array Value := #[.int .i64 x.1.1, .agg #[.int .i64 x.1.2.1.op, .int .i64 x.1.2.1.d, .int .i64 x.1.2.1.a, .int .i64 x.1.2.1.b, .int .i64 x.1.2.1.n, .int .i64 x.1.2.1.m, x.1.2.2]]
def bkL {w : World} {B : Nat} (l : List (BkT w B)) : List InsV := l.map fun x => x.1.2.1
/-- What a round keeps: what lay below h, and the box of the slice. -/
def KpB (h Bs : Nat) (t : TypeId) (vs : Value) (W W' : World) : Prop := Below h W W' ∧ (Boxed W Bs t vs → Boxed W' Bs t vs)
theorem KpB.t {h Bs : Nat} {t : TypeId} {vs : Value} {A B C : World} (x : KpB h Bs t vs A B) (y : KpB h Bs t vs B C) : KpB h Bs t vs A C := ⟨x.1.trans y.1, fun k => y.2 (x.2 k)⟩
theorem KpB.b {h Bs : Nat} {t : TypeId} {vs : Value} {w : World} (hn : h ≤ w.heap.size) (hBs : Bs < w.heap.size) (W : World) (l : Nat) (o o' : Obj) (hl : w.heap.size ≤ l) (hk : W.heap[l]? = some o) (h1 : o.isCells = false) (h2 : o.isWalk = false) : KpB h Bs t vs W (W.putObj l o') :=
  ⟨belowK_b hn W l o o' hl hk h1 h2, fun k => k.kept (grownBy_putObj' W l o') (fun e => by cases e; omega)⟩

set_option maxRecDepth 100000 in
set_option maxHeartbeats 2000000 in
theorem back1_in (n l Bs h : Nat) (w0 : World) (A : Option Addr) (len cap : Nat) (ls : List InsV) (hls : InssV w0 (· < h) (.slice A len cap) ls) (hlen : ls.length = len) (hu : ∀ x ∈ ls, x.args.length ≤ 1099511627000) (hn : 1 ≤ n) (J Jx : List (BkT w0 h) → World → Prop)
    (hY : ∀ pre x W, J pre W → pre.length < len → YieldAt Fence.wide (n - 1) Tryd.prog l (bkE x) W fun e W' =>
      (e = .returned (.bool true) ∧ J (pre ++ [x]) W' ∧ KpB h Bs 29 (.slice A len cap) W W') ∨ (e = .returned (.bool false) ∧ Jx (pre ++ [x]) W'))
    (W : World) (hW : Below h w0 W) (hB : Boxed W Bs 29 (.slice A len cap)) (h0 : J [] W) (hm4 : len ≤ 4611686018427387904) :
    CallsIn Fence.wide n Tryd.prog 54 #[.func (.yield l) #[] #[], .pointer (some ⟨Bs, 0, none⟩)] W fun e W' => (∃ v, e = .returned v) ∧
      ((∃ ys, bkL ys = ls.reverse ∧ J ys W') ∨ (∃ pre, True ∧ Jx pre W')) := by
  refine callsIn_of_wp Tryd.func54 rfl trivial ?_ rfl
  simp only [Tryd.ntmps54, List.size_toArray, List.length_cons, List.length_nil, Nat.reduceAdd, Nat.reduceSub, Array.replicate_succ, Array.replicate_zero, List.push_toArray, List.append_toArray, List.nil_append, List.cons_append]
  have c0 := hB.cell
  gi_wp2
  gi_loopw [3] (fun i wr => ∃ (k : Nat) (z : Int) (pre : List (BkT w0 h)), k ≤ len ∧ i = .int .i64 z ∧ z = (k : Int) - 1 ∧ pre.length = len - k ∧ bkL pre = (ls.drop k).reverse ∧ J pre wr ∧ Below h w0 wr ∧ Boxed wr Bs 29 (.slice A len cap)) (fun i _ => (intOf i + 1).toNat)
  case atStart => exact ⟨len, _, [], Nat.le_refl _, rfl, rfl, by simp, by rw [← hlen]; simp [bkL], h0, hW, hB⟩
  case round =>
    obtain ⟨k, z, pre, hk, rfl, hz, hpl, hpr, hJ, hWr, hBr⟩ := hrel
    have c1 := hBr.cell
    cases k with
    | zero =>
      have hz0 : ¬ z ≥ 0 := by omega
      have HPR := hide hpr
      clear hz hpr hpl
      gi_wp2
      go_end0
      exact ⟨⟨_, rfl⟩, .inl ⟨pre, by simpa using HPR.out, hJ⟩⟩
    | succ j =>
      obtain rfl : z = (j : Int) := by omega
      obtain ⟨x, hx⟩ : ∃ x, ls[j]? = some x := ⟨_, List.getElem?_eq_getElem (by omega)⟩
      obtain ⟨b, o, Ay, cy, hA, hb, ⟨z0, z1, z2, z3, z4, z5, z6⟩, hxi⟩ := hls.get hx
      subst hA
      have q0 := (hWr.cell (p := ⟨b, o + j * 7, none⟩) hb).trans z0
      have q1 := (hWr.cell (p := ⟨b, o + j * 7 + 1, none⟩) hb).trans z1
      have q2 := (hWr.cell (p := ⟨b, o + j * 7 + 2, none⟩) hb).trans z2
      have q3 := (hWr.cell (p := ⟨b, o + j * 7 + 3, none⟩) hb).trans z3
      have q4 := (hWr.cell (p := ⟨b, o + j * 7 + 4, none⟩) hb).trans z4
      have q5 := (hWr.cell (p := ⟨b, o + j * 7 + 5, none⟩) hb).trans z5
      have q6 := (hWr.cell (p := ⟨b, o + j * 7 + 6, none⟩) hb).trans z6
      obtain ⟨fn, tmps, assign, body, hy, hR⟩ := hY pre ⟨((j : Int), x, .slice Ay x.args.length cy), hxi, hu x (List.mem_of_getElem? hx)⟩ wr hJ (by omega)
      dsimp only [bkE] at hy
      have hj0 : (0 : Int) ≤ (j : Int) := by omega
      have hj1 : (j : Int) < (len : Int) := by omega
      have hdr : (ls.drop j).reverse = (ls.drop (j + 1)).reverse ++ [x] := by
        rw [List.drop_eq_getElem_cons (by omega), List.reverse_cons]
        have : ls[j]'(by omega) = x := by
          have := hx
          rw [List.getElem?_eq_getElem (by omega)] at this
          exact Option.some.inj this
        rw [this]
      have HDR := hide hdr
      have HPR := hide hpr
      have HPL := hide hpl
      have HX := hide hx
      have HLEN := hide hlen
      clear hdr hpr hz hpl
      gi_wp2
      refine hR.mono ?_
      rintro e W3 (⟨rfl, hJ3, hk3⟩ | ⟨rfl, hJx3⟩)
      · gi_wp2
        go_roundw
        case rel => exact ⟨j, _, pre ++ [⟨((j : Int), x, .slice Ay x.args.length cy), hxi, hu x (List.mem_of_getElem? hx)⟩], by omega, rfl, by omega, by have := HPL.out; simp; omega, by rw [HDR.out, ← HPR.out]; simp [bkL], hJ3, hWr.trans hk3.1, hk3.2 hBr⟩
        case measure => simp [intOf] <;> omega
      · gi_wp2
        refine bodyPost_ret (results_none rfl _ _ _) rfl ?_
        exact ⟨⟨_, rfl⟩, .inr ⟨_, trivial, hJx3⟩⟩
theorem back_stops (n Bs h : Nat) (w0 : World) (A : Option Addr) (len cap : Nat) (ls : List InsV) (hls : InssV w0 (· < h) (.slice A len cap) ls) (hlen : ls.length = len) (hu : ∀ x ∈ ls, x.args.length ≤ 1099511627000) (hn : 1 ≤ n) (hh : h ≤ w0.heap.size) (hm4 : len ≤ 4611686018427387904) (hB : Boxed w0 Bs 29 (.slice A len cap)) :
    SeqStopsK Fence.wide n Tryd.prog 54 #[.pointer (some ⟨Bs, 0, none⟩)] (bkE (w := w0) (B := h)) (KpB h Bs 29 (.slice A len cap)) (fun ys => bkL ys = ls.reverse) (fun _ => True) len w0 := fun l J Jx W hW _ _ hY h0 =>
  back1_in n l Bs h w0 A len cap ls hls hlen hu hn J Jx hY W (hW.mono hh) ((hW.block Bs hB.lt).trans hB) h0 hm4
set_option maxRecDepth 100000 in
theorem backward_any (A : Option Addr) (len cap : Nat) (w : World) :
    Calls Tryd.prog 32 #[.slice A len cap] w fun e w' => e = .returned (.func (.func 54) #[] #[.pointer (some ⟨w.heap.size, 0, none⟩)]) ∧ w' = w.alloc (.cells #[.slice A len cap] 29) := by
  go_enter Tryd.func32, Tryd.ntmps32
  go_wp2
  go_ret
  exact ⟨rfl, rfl⟩
end Go.Proofs.YteoopilmdlhkhaaDoor
