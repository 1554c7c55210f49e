/- Texts of several names, of which only what the statement needs is kept. -/
import Derived.Test.YteoopilmdlhkhaaDoorPaWD
import Derived.Test.YteoopilmdlhkhaaDoorPaTIL
/- Layer 15, the program: slices.Backward over instructions and their numbers. No condition. -/
set_option linter.unusedSimpArgs false
set_option linter.unusedVariables false
namespace Go.Proofs.YteoopilmdlhkhaaDoor
open Go.RowKit Go.Shelf
attribute [local go_sem] Oper.semAt_some

/-- An element that comes: its number, the instruction there, its arguments' slice. -/
abbrev BkT15 (ls : List InsV) (w : World) (B : Nat) := { x : Nat × InsV × Value // ls[x.1]? = some x.2.1 ∧ InsI w (· < B) x.2.2 x.2.1 ∧ x.2.1.args.length ≤ 1099511627000 }
def bkE15 {ls : List InsV} {w : World} {B : Nat} (x : BkT15 ls w B) : Array Value := #[.int .i64 ((x.1.1 : Nat) : Int), .agg #[.int .i64 x.1.2.1.op, .int .i64 x.1.2.1.d, .int .i64 x.1.2.1.a, .int .i64 x.1.2.1.b, .int .i64 x.1.2.1.n, .int .i64 x.1.2.1.m, x.1.2.2]]
def bkN15 {ls : List InsV} {w : World} {B : Nat} (l : List (BkT15 ls w B)) : List Nat := l.map fun x => x.1.1
def bkP15 {ls : List InsV} {w : World} {B : Nat} (l : List (BkT15 ls w B)) : List (Nat × InsV) := l.map fun x => (x.1.1, x.1.2.1)
/-- One instruction gone through against the way: what is live, and the spans. -/
def stp15 (f : FunV) (p0 : Int) (a : List Nat × SpF15) (x : Nat × InsV) : List Nat × SpF15 :=
  (insS x.2 a.1, len15 (p0 + 2 * (x.1 : Int)) (ins15 x.2 (closeL f a.1) (p0 + 2 * (x.1 : Int) + 1) a.2) (listL (closeL f (insS x.2 a.1))))
def blk15 (f : FunV) (p0 : Int) (l : List (Nat × InsV)) (a : List Nat × SpF15) : List Nat × SpF15 := l.foldl (stp15 f p0) a
theorem blk15_snoc (f : FunV) (p0 : Int) (l : List (Nat × InsV)) (x : Nat × InsV) (a : List Nat × SpF15) : blk15 f p0 (l ++ [x]) a = stp15 f p0 (blk15 f p0 l a) x := by simp [blk15, List.foldl_append]
theorem blk15_ok (f : FunV) (p0 : Int) : ∀ (l : List (Nat × InsV)) {a : List Nat × SpF15}, SetOk a.1 → SetOk (blk15 f p0 l a).1
  | [], a, h => h
  | x :: l, a, h => blk15_ok f p0 l (a := stp15 f p0 a x) (insS_ok h)
theorem pairs15 {ls : List InsV} {w : World} {B : Nat} {ys : List (BkT15 ls w B)} {len : Nat} (hy : bkN15 ys = (List.range len).reverse) : bkP15 ys = ((List.range len).map (fun j => (j, ls.getD j ⟨0, 0, 0, 0, 0, 0, []⟩))).reverse := by
  have e : bkP15 ys = (bkN15 ys).map (fun j => (j, ls.getD j ⟨0, 0, 0, 0, 0, 0, []⟩)) := by
    unfold bkN15 bkP15
    rw [List.map_map]
    refine List.map_congr_left fun x _ => ?_
    obtain ⟨⟨j, y, v⟩, h, -⟩ := x
    simp only [Function.comp]
    rw [List.getD_eq_getElem?_getD, h]
    rfl
  rw [e, hy, List.map_reverse]
set_option maxRecDepth 100000 in
set_option maxHeartbeats 2000000 in
theorem back1_in15 (n l Bs h : Nat) (w0 : World) (A : Option Addr) (len cap : Nat) (ls : List InsV) (hls : InssV w0 (· < h) (.slice A len cap) ls) (hlen : ls.length = len) (hu : ∀ x ∈ ls, x.args.length ≤ 1099511627000) (hn : 1 ≤ n) (J Jx : List (BkT15 ls w0 h) → World → Prop)
    (hY : ∀ pre x W, J pre W → pre.length < len → YieldAt Fence.wide (n - 1) Tryd.prog l (bkE15 x) W fun e W' =>
      (e = .returned (.bool true) ∧ J (pre ++ [x]) W' ∧ KpB h Bs 29 (.slice A len cap) W W') ∨ (e = .returned (.bool false) ∧ Jx (pre ++ [x]) W'))
    (W : World) (hW : Below h w0 W) (hB : Boxed W Bs 29 (.slice A len cap)) (h0 : J [] W) (hm4 : len ≤ 4611686018427387904) :
    CallsIn Fence.wide n Tryd.prog 54 #[.func (.yield l) #[] #[], .pointer (some ⟨Bs, 0, none⟩)] W fun e W' => (∃ v, e = .returned v) ∧
      ((∃ ys, bkN15 ys = (List.range len).reverse ∧ J ys W') ∨ (∃ pre, True ∧ Jx pre W')) := by
  refine callsIn_of_wp Tryd.func54 rfl trivial ?_ rfl
  simp only [Tryd.ntmps54, List.size_toArray, List.length_cons, List.length_nil, Nat.reduceAdd, Nat.reduceSub, Array.replicate_succ, Array.replicate_zero, List.push_toArray, List.append_toArray, List.nil_append, List.cons_append]
  have c0 := hB.cell
  gi_wp2
  gi_loopw [3] (fun i wr => ∃ (k : Nat) (z : Int) (pre : List (BkT15 ls w0 h)), k ≤ len ∧ i = .int .i64 z ∧ z = (k : Int) - 1 ∧ pre.length = len - k ∧ bkN15 pre = ((List.range len).drop k).reverse ∧ J pre wr ∧ Below h w0 wr ∧ Boxed wr Bs 29 (.slice A len cap)) (fun i _ => (intOf i + 1).toNat)
  case atStart => exact ⟨len, _, [], Nat.le_refl _, rfl, rfl, by simp, by rw [List.drop_of_length_le (by simp)]; simp [bkN15], h0, hW, hB⟩
  case round =>
    obtain ⟨k, z, pre, hk, rfl, hz, hpl, hpr, hJ, hWr, hBr⟩ := hrel
    have c1 := hBr.cell
    cases k with
    | zero =>
      have hz0 : ¬ z ≥ 0 := by omega
      have HPR := hide hpr
      clear hz hpr hpl
      gi_wp2
      go_end0
      exact ⟨⟨_, rfl⟩, .inl ⟨pre, by simpa using HPR.out, hJ⟩⟩
    | succ j =>
      obtain rfl : z = (j : Int) := by omega
      obtain ⟨x, hx⟩ : ∃ x, ls[j]? = some x := ⟨_, List.getElem?_eq_getElem (by omega)⟩
      obtain ⟨b, o, Ay, cy, hA, hb, ⟨z0, z1, z2, z3, z4, z5, z6⟩, hxi⟩ := hls.get hx
      subst hA
      have q0 := (hWr.cell (p := ⟨b, o + j * 7, none⟩) hb).trans z0
      have q1 := (hWr.cell (p := ⟨b, o + j * 7 + 1, none⟩) hb).trans z1
      have q2 := (hWr.cell (p := ⟨b, o + j * 7 + 2, none⟩) hb).trans z2
      have q3 := (hWr.cell (p := ⟨b, o + j * 7 + 3, none⟩) hb).trans z3
      have q4 := (hWr.cell (p := ⟨b, o + j * 7 + 4, none⟩) hb).trans z4
      have q5 := (hWr.cell (p := ⟨b, o + j * 7 + 5, none⟩) hb).trans z5
      have q6 := (hWr.cell (p := ⟨b, o + j * 7 + 6, none⟩) hb).trans z6
      obtain ⟨fn, tmps, assign, body, hy, hR⟩ := hY pre ⟨(j, x, .slice Ay x.args.length cy), hx, hxi, hu x (List.mem_of_getElem? hx)⟩ wr hJ (by omega)
      dsimp only [bkE15] at hy
      have hj0 : (0 : Int) ≤ (j : Int) := by omega
      have hj1 : (j : Int) < (len : Int) := by omega
      have hdr : ((List.range len).drop j).reverse = ((List.range len).drop (j + 1)).reverse ++ [j] := by
        rw [List.drop_eq_getElem_cons (by simp; omega), List.reverse_cons]
        simp
      have HDR := hide hdr
      have HPR := hide hpr
      have HPL := hide hpl
      clear hdr hpr hz hpl
      gi_wp2
      refine hR.mono ?_
      rintro e W3 (⟨rfl, hJ3, hk3⟩ | ⟨rfl, hJx3⟩)
      · gi_wp2
        go_roundw
        case rel => exact ⟨j, _, pre ++ [⟨(j, x, .slice Ay x.args.length cy), hx, hxi, hu x (List.mem_of_getElem? hx)⟩], by omega, rfl, by omega, by have := HPL.out; simp; omega, by rw [HDR.out, ← HPR.out]; simp [bkN15], hJ3, hWr.trans hk3.1, hk3.2 hBr⟩
        case measure => simp [intOf] <;> omega
      · gi_wp2
        refine bodyPost_ret (results_none rfl _ _ _) rfl ?_
        exact ⟨⟨_, rfl⟩, .inr ⟨_, trivial, hJx3⟩⟩
theorem back_stops15 (n Bs h : Nat) (w0 : World) (A : Option Addr) (len cap : Nat) (ls : List InsV) (hls : InssV w0 (· < h) (.slice A len cap) ls) (hlen : ls.length = len) (hu : ∀ x ∈ ls, x.args.length ≤ 1099511627000) (hn : 1 ≤ n) (hh : h ≤ w0.heap.size) (hm4 : len ≤ 4611686018427387904) (hB : Boxed w0 Bs 29 (.slice A len cap)) :
    SeqStopsK Fence.wide n Tryd.prog 54 #[.pointer (some ⟨Bs, 0, none⟩)] (bkE15 (ls := ls) (w := w0) (B := h)) (KpB h Bs 29 (.slice A len cap)) (fun ys => bkN15 ys = (List.range len).reverse) (fun _ => True) len w0 := fun l J Jx W hW _ _ hY h0 =>
  back1_in15 n l Bs h w0 A len cap ls hls hlen hu hn J Jx hY W (hW.mono hh) ((hW.block Bs hB.lt).trans hB) h0 hm4
end Go.Proofs.YteoopilmdlhkhaaDoor

/- A region that draws its order and holds calls, by hand, in a round of a range over a function. No condition. -/
set_option linter.unusedSimpArgs false
set_option linter.unusedVariables false
namespace Go.Proofs.YteoopilmdlhkhaaDoor
open Go.RowKit

section
variable {P : Program} {n l : Nat} {ops : Array Oper} {Q : Exit → Act → World → Prop}
def onlyN15 (Q : Exit → Act → World → Prop) : Exit → Act → World → Prop
  | .normal, a, w => Q .normal a w
  | _, _, _ => False
def calm15 : Op → Bool
  | .defer _ => false
  | _ => true
theorem upon15 {o : Oper} {a : Act} {K K' : Act → World → Prop} (h : ∀ a w, K a w → K' a w) : ∀ r : Result Next, o.upon P a K (onlyN15 Q) r → o.uponIn (Fence.wide.inRound l) n P a K' Q r := by
  intro r hr
  cases r with
  | ok x w' =>
    cases x with
    | value v => exact h _ _ hr
    | skip => exact h _ _ hr
    | defer d => exact h _ _ hr
    | enter f args =>
      refine ⟨fun e => (by cases e), CallsIn.inRound l (callsIn_wide.2 (Calls.mono hr fun e w'' he => ?_))⟩
      cases e with
      | returned v => exact h _ _ he
      | panicked c => exact False.elim he
      | outgrown =>
        obtain ⟨a', w2, e⟩ := he
        exact False.elim e
    | row row args =>
      refine ⟨fun e => (by cases e), fun c cs hroom => ?_⟩
      obtain ⟨v, w2, h1, h2⟩ := hr c cs
      exact ⟨v, w2, h _ _ h1, stepsIn_wide.2 h2⟩
    | _ => exact False.elim hr
  | halt x w' =>
    cases x <;> exact False.elim hr
theorem wpOpIn15 {i : Nat} (hp : ∀ o, ops[i]? = some o → calm15 o.op = true) {K K' : Act → World → Prop} (h : ∀ a w, K a w → K' a w) {a : Act} {w : World} (hh : wpOp P ops (onlyN15 Q) i K a w) : wpOpIn (Fence.wide.inRound l) n P ops Q i K' a w := by
  unfold wpOpIn
  unfold wpOp at hh
  cases ho : ops[i]? with
  | none => rw [ho] at hh; exact h _ _ hh
  | some o =>
    rw [ho] at hh
    simp only at hh ⊢
    have hpo := hp o ho
    split
    · rename_i hw
      rw [if_pos hw] at hh
      rcases hh with hh | ⟨-, a', w', e⟩
      · refine ⟨fun f hf => trivial, ?_⟩
        rw [Oper.semAt_eq _ _ _ (fun c e => by rw [e] at hpo; cases hpo)]
        exact upon15 h _ hh
      · exact False.elim e
    · rename_i hw
      rw [if_neg hw] at hh
      exact ⟨fun f hf => trivial, h _ _ hh⟩
theorem wpAnyIn15 (hp : ∀ (i : Nat) (o : Oper), ops[i]? = some o → calm15 o.op = true) {md : Region.Mode} : ∀ (fuel : Nat) (listed : Array Bool) (a : Act) (w : World), wpAny P md ops (onlyN15 Q) fuel listed a w → wpAnyIn (Fence.wide.inRound l) n P md ops Q fuel listed a w := by
  intro fuel
  induction fuel with
  | zero => intro listed a w h; exact ⟨h.1, h.2⟩
  | succ fuel ih =>
    intro listed a w h
    exact ⟨fun hr => h.1 hr, fun i hi => wpOpIn15 (hp i) (fun a w => ih _ a w) (h.2 i hi)⟩
/-- A region that draws its order, by hand, in a round: calls may stand in it. -/
theorem wpIn_region15 {id : Nat} {a : Act} {w : World} (S : World → Prop) (z : Nat) (hp : (ops.toList.all fun o => calm15 o.op) = true) (hm : P.follows .mixedOrders = true) (hS : S w.drew)
    (h : wpTil P .any ops (onlyN15 Q) S z ops.size (Array.replicate ops.size false) a w.drew) : (Code.region id ops true).wpIn (Fence.wide.inRound l) n P Q a w :=
  wpIn_region_any hm (wpAnyIn15 (fun i o ho => List.all_eq_true.1 hp o (by simpa using Array.mem_of_getElem? ho)) _ _ _ _ (wpAny_til _ _ _ _ h))
end
end Go.Proofs.YteoopilmdlhkhaaDoor
