/- Layer 17: slices.Backward over locations. No condition. -/
import Derived.Test.YtkilfejcohnceaaPaIJ
import Derived.Test.YtkilfejcohnceaaPaJA
set_option linter.unusedSimpArgs false
set_option linter.unusedVariables false
namespace Go.Proofs.Ytkilfejcohnceaa
open Go.RowKit Go.Shelf

attribute [local go_sem] Oper.semAt_some
/-- An element that comes: its number and the location there. -/
abbrev BkT17 (ls : List LcV) := { x : Nat × LcV // ls[x.1]? = some x.2 }
def bkE17 {ls : List LcV} (x : BkT17 ls) : Array Value := #[.int .i64 ((x.1.1 : Nat) : Int), .agg #[.int .i64 x.1.2.k, .int .i64 x.1.2.n]]
def bkN17 {ls : List LcV} (l : List (BkT17 ls)) : List Nat := l.map fun x => x.1.1
theorem LcsV.at0 {w : World} {h b o n c : Nat} {ls : List LcV} (hl : LcsV w (· < h) (.slice (some ⟨b, o, none⟩) n c) ls) {W : World} (hW : Below h w W) {j : Nat} {y : LcV} (hy : ls[j]? = some y) :
    W.cell? ⟨b, o + j * 2, none⟩ = some (.int .i64 y.k) ∧ W.cell? ⟨b, o + j * 2 + 1, none⟩ = some (.int .i64 y.n) := by
  obtain ⟨b', o', e, hb, ⟨⟨h0, h1⟩, -⟩⟩ := hl.get hy
  injection e with e
  injection e with e1 e2 _
  subst e1
  subst e2
  exact ⟨(hW.cell (p := ⟨b, _, none⟩) hb).trans h0, (hW.cell (p := ⟨b, _, none⟩) hb).trans h1⟩
set_option maxRecDepth 100000 in
set_option maxHeartbeats 2000000 in
theorem iback1_in (n l Bs h : Nat) (w0 : World) (A : Option Addr) (len cap : Nat) (ls : List LcV) (hls : LcsV w0 (· < h) (.slice A len cap) ls) (hlen : ls.length = len) (hn : 1 ≤ n) (J Jx : List (BkT17 ls) → World → Prop)
    (hY : ∀ pre x W, J pre W → pre.length < len → YieldAt Fence.wide (n - 1) Try.prog l (bkE17 x) W fun e W' =>
      (e = .returned (.bool true) ∧ J (pre ++ [x]) W' ∧ KpB h Bs 32 (.slice A len cap) W W') ∨ (e = .returned (.bool false) ∧ Jx (pre ++ [x]) W'))
    (W : World) (hW : Below h w0 W) (hB : Boxed W Bs 32 (.slice A len cap)) (h0 : J [] W) (hm4 : len ≤ 4611686018427387904) :
    CallsIn Fence.wide n Try.prog 36 #[.func (.yield l) #[] #[], .pointer (some ⟨Bs, 0, none⟩)] W fun e W' => (∃ v, e = .returned v) ∧
      ((∃ ys, bkN17 ys = (List.range len).reverse ∧ J ys W') ∨ (∃ pre, True ∧ Jx pre W')) := by
  refine callsIn_of_wp Try.func36 rfl trivial ?_ rfl
  simp only [Try.ntmps36, List.size_toArray, List.length_cons, List.length_nil, Nat.reduceAdd, Nat.reduceSub, Array.replicate_succ, Array.replicate_zero, List.push_toArray, List.append_toArray, List.nil_append, List.cons_append]
  have c0 := hB.cell
  gi_wp2
  gi_loopw [3] (fun i wr => ∃ (k : Nat) (z : Int) (pre : List (BkT17 ls)), k ≤ len ∧ i = .int .i64 z ∧ z = (k : Int) - 1 ∧ pre.length = len - k ∧ bkN17 pre = ((List.range len).drop k).reverse ∧ J pre wr ∧ Below h w0 wr ∧ Boxed wr Bs 32 (.slice A len cap)) (fun i _ => (intOf i + 1).toNat)
  case atStart => exact ⟨len, _, [], Nat.le_refl _, rfl, rfl, by simp, by rw [List.drop_of_length_le (by simp)]; simp [bkN17], h0, hW, hB⟩
  case round =>
    obtain ⟨k, z, pre, hk, rfl, hz, hpl, hpr, hJ, hWr, hBr⟩ := hrel
    have c1 := hBr.cell
    cases k with
    | zero =>
      have hz0 : ¬ z ≥ 0 := by omega
      have HPR := hide hpr
      clear hz hpr hpl
      gi_wp2
      go_end0
      exact ⟨⟨_, rfl⟩, .inl ⟨pre, by simpa using HPR.out, hJ⟩⟩
    | succ j =>
      obtain rfl : z = (j : Int) := by omega
      obtain ⟨x, hx⟩ : ∃ x, ls[j]? = some x := ⟨_, List.getElem?_eq_getElem (by omega)⟩
      obtain ⟨b, o, hA, -⟩ := hls.get hx
      subst hA
      obtain ⟨q0, q1⟩ := hls.at0 hWr hx
      obtain ⟨fn, tmps, assign, body, hy, hR⟩ := hY pre ⟨(j, x), hx⟩ wr hJ (by omega)
      dsimp only [bkE17] at hy
      have hj0 : (0 : Int) ≤ (j : Int) := by omega
      have hj1 : (j : Int) < (len : Int) := by omega
      have hdr : ((List.range len).drop j).reverse = ((List.range len).drop (j + 1)).reverse ++ [j] := by
        rw [List.drop_eq_getElem_cons (by simp; omega), List.reverse_cons]
        simp
      have HDR := hide hdr
      have HPR := hide hpr
      have HPL := hide hpl
      have HX := hide hx
      have HLEN := hide hlen
      obtain ⟨xk, xn⟩ := x
      simp only at q0 q1
      clear hdr hpr hz hpl
      gi_wp2
      refine hR.mono ?_
      rintro e W3 (⟨rfl, hJ3, hk3⟩ | ⟨rfl, hJx3⟩)
      · gi_wp2
        go_roundw
        case rel => exact ⟨j, _, pre ++ [⟨(j, ⟨xk, xn⟩), hx⟩], by omega, rfl, by omega, by have := HPL.out; simp; omega, by rw [HDR.out, ← HPR.out]; simp [bkN17], hJ3, hWr.trans hk3.1, hk3.2 hBr⟩
        case measure => simp [intOf] <;> omega
      · gi_wp2
        refine bodyPost_ret (results_none rfl _ _ _) rfl ?_
        exact ⟨⟨_, rfl⟩, .inr ⟨_, trivial, hJx3⟩⟩
theorem iback_stops (n Bs h : Nat) (w0 : World) (A : Option Addr) (len cap : Nat) (ls : List LcV) (hls : LcsV w0 (· < h) (.slice A len cap) ls) (hlen : ls.length = len) (hn : 1 ≤ n) (hh : h ≤ w0.heap.size) (hm4 : len ≤ 4611686018427387904) (hB : Boxed w0 Bs 32 (.slice A len cap)) :
    SeqStopsK Fence.wide n Try.prog 36 #[.pointer (some ⟨Bs, 0, none⟩)] (bkE17 (ls := ls)) (KpB h Bs 32 (.slice A len cap)) (fun ys => bkN17 ys = (List.range len).reverse) (fun _ => True) len w0 := fun l J Jx W hW _ _ hY h0 =>
  iback1_in n l Bs h w0 A len cap ls hls hlen hn J Jx hY W (hW.mono hh) ((hW.block Bs hB.lt).trans hB) h0 hm4
set_option maxRecDepth 100000 in
theorem ibackward_any (A : Option Addr) (len cap : Nat) (w : World) :
    Calls Try.prog 27 #[.slice A len cap] w fun e w' => e = .returned (.func (.func 36) #[] #[.pointer (some ⟨w.heap.size, 0, none⟩)]) ∧ w' = w.alloc (.cells #[.slice A len cap] 32) := by
  go_enter Try.func27, Try.ntmps27
  go_wp2
  go_ret
  exact ⟨rfl, rfl⟩
end Go.Proofs.Ytkilfejcohnceaa
