/- Layer 5: the blocks that follow one another, in plain lists; the contracts of flow.there, flow.Next and of the reference's Next. Condition: what comes next is there. -/
import Derived.Test.YtkpikgakphdjjaaSFirst
import Derived.Test.YtkpikgakphdjjaaTA
set_option linter.unusedSimpArgs false
set_option linter.unusedVariables false
namespace Go.Proofs.Ytkpikgakphdjjaa
open Go.RowKit

def nextB (b : List InsV) : List Int := match b.getLast? with | some x => nextL x | none => []
def nxt (f : FunV) (k : Nat) : List Int := match f.blocks[k]? with | some b => nextB b | none => []
def nxtI (f : FunV) (z : Int) : List Int := if inB 0 ((f.blocks.length : Int) - 1) z = true then nxt f z.toNat else []
def FlowOk (f : FunV) : Prop := f.blocks.length ≤ 40 ∧ (∀ b ∈ f.blocks, b.length ≤ 40) ∧ ∀ k v, v ∈ nxt f k → 0 ≤ v ∧ v < f.blocks.length
theorem nextL_len (x : InsV) : (nextL x).length ≤ 2 := by unfold nextL; split <;> (try split) <;> simp
theorem nextL_nodup (x : InsV) : (nextL x).Nodup := by
  unfold nextL
  split
  · simp
  · split
    · rename_i h1 h2
      have : x.n ≠ x.m := fun h => h1 (.inr ⟨h2, h⟩)
      simp; omega
    · simp
theorem nxt_len (f : FunV) (k : Nat) : (nxt f k).length ≤ 2 := by
  unfold nxt nextB
  split
  · split
    · exact nextL_len _
    · simp
  · simp
theorem nxt_nodup (f : FunV) (k : Nat) : (nxt f k).Nodup := by
  unfold nxt nextB
  split
  · split
    · exact nextL_nodup _
    · simp
  · simp
theorem nxt_last {f : FunV} {k mp : Nat} {b : List InsV} {x : InsV} (hb : f.blocks[k]? = some b) (hm : b.length = mp + 1) (hx : b[mp]? = some x) : nxt f k = nextL x := by
  unfold nxt nextB
  rw [hb]
  show (match b.getLast? with | some x => nextL x | none => []) = _
  rw [List.getLast?_eq_getElem?, hm, Nat.add_sub_cancel, hx]
theorem nxt_none {f : FunV} {k : Nat} {b : List InsV} (hb : f.blocks[k]? = some b) (hm : b.length = 0) : nxt f k = [] := by
  unfold nxt nextB
  rw [hb, List.eq_nil_of_length_eq_zero hm]
  rfl
theorem nxtI_nat {f : FunV} {k : Nat} (h : k < f.blocks.length) : nxtI f (k : Int) = nxt f k := by
  unfold nxtI
  rw [if_pos (by rw [inB_iff]; omega), Int.toNat_natCast]
theorem flowOk_of {p : List FunV} (h : progB4 p = true) : ∀ f ∈ p, FlowOk f ∧ 1 ≤ f.blocks.length := by
  intro f hf
  obtain ⟨-, -, -, hall⟩ := prog_parts h
  obtain ⟨-, -, -, ⟨hb1, hb40, hbl⟩, hmay⟩ := fun_parts (hall f hf)
  refine ⟨⟨hb40, fun b hb => (hbl b hb).2.1, fun k v hv => ?_⟩, hb1⟩
  unfold nxt nextB at hv
  split at hv
  · rename_i b hbk
    split at hv
    · rename_i x hx
      have := next_blk (hmay b (List.mem_of_getElem? hbk) x (List.mem_of_getLast? hx)) v hv
      omega
    · cases hv
  · cases hv

set_option maxRecDepth 100000 in
theorem there_any (z : Int) (Ak Ab As : Option Addr) (lk ck lb cb ls cs : Nat) (fp fr : Int) (w : World) :
    Calls Try.prog 35 #[.agg #[.slice Ak lk ck, .slice Ab lb cb, .int .i64 fp, .int .i64 fr, .slice As ls cs], .int .i64 z] w fun e w' => e = .returned (.bool (inB 0 ((ls : Int) - 1) z)) ∧ Below w.heap.size w w' := by
  have e : inB 0 ((ls : Int) - 1) z = (decide (0 ≤ z) && decide (z < (ls : Int))) := by
    unfold inB
    rw [Bool.eq_iff_iff]; simp; omega
  rw [e]
  clear e
  by_cases h : 0 ≤ z
  · have hd : decide (0 ≤ z) = true := by simpa using h
    rw [hd]
    go_enter Try.func35, Try.ntmps35
    go_wp2
    go_ret
    exact ⟨by simp, alloc1 w _⟩
  · have hd : decide (0 ≤ z) = false := by simpa using h
    rw [hd]
    go_enter Try.func35, Try.ntmps35
    go_wp2
    go_ret
    exact ⟨by simp, alloc1 w _⟩

/-- A function boxed at h: what the closure of flow.Next is told. -/
def FunBox (w : World) (h : Nat) (ls : Nat) : Prop := ∃ Ak Ab As lk ck lb cb cs fp fr, Box w h #[.slice Ak lk ck, .slice Ab lb cb, .int .i64 fp, .int .i64 fr, .slice As ls cs] 30
theorem FunBox.below {w w' : World} {h ls : Nat} (hb : FunBox w h ls) (hw : Below w.heap.size w w') : FunBox w' h ls := by
  obtain ⟨Ak, Ab, As, lk, ck, lb, cb, cs, fp, fr, hx⟩ := hb
  exact ⟨Ak, Ab, As, lk, ck, lb, cb, cs, fp, fr, hx.below hw⟩
set_option maxRecDepth 100000 in
theorem next1_any (z : Int) (h ls : Nat) (w : World) (hb : FunBox w h ls) (hz : inB 0 ((ls : Int) - 1) z = true) :
    Calls Try.prog 55 #[.int .i64 z, .pointer (some ⟨h, 0, none⟩)] w fun e w' => e = .returned (.bool false) ∧ Below w.heap.size w w' := by
  obtain ⟨Ak, Ab, As, lk, ck, lb, cb, cs, fp, fr, hx⟩ := hb
  have c0 := (hx.cell 0 (v := .slice Ak lk ck) rfl).1
  have c1 := (hx.cell 1 (v := .slice Ab lb cb) rfl).1
  have c2 := (hx.cell 2 (v := .int .i64 fp) rfl).1
  have c3 := (hx.cell 3 (v := .int .i64 fr) rfl).1
  have c4 := (hx.cell 4 (v := .slice As ls cs) rfl).1
  have hl := hx.lt
  have HT := hide (fun W => (show Calls Try.prog 35 #[.agg #[.slice Ak lk ck, .slice Ab lb cb, .int .i64 fp, .int .i64 fr, .slice As ls cs], .int .i64 z] W fun e w' => e = .returned (.bool true) ∧ Below W.heap.size W w' by have h := there_any z Ak Ab As lk ck lb cb ls cs fp fr W; rw [hz] at h; exact h))
  clear hx hz
  go_enter Try.func55, Try.ntmps55
  go_wp2_with (go_at_call 35; refine (HT.out w).mono ?_; rintro e w1 ⟨rfl, hb1⟩)
  go_ret
  exact ⟨rfl, hb1⟩
set_option maxRecDepth 100000 in
theorem idxFunc_next (zs : List Int) (va : Value) (h ls : Nat) (w : World) (B : Nat) (hB : B ≤ w.heap.size) (hx : IntsV w (· < B) va zs) (hb : FunBox w h ls) (hz : ∀ z ∈ zs, inB 0 ((ls : Int) - 1) z = true) :
    Calls Try.prog 77 #[va, .func (.func 55) #[] #[.pointer (some ⟨h, 0, none⟩)]] w fun e w' => e = .returned (.int .i64 (-1)) ∧ Below w.heap.size w w' := by
  have HC := hide (fun (z : Int) (hm : z ∈ zs) (W : World) (hW : Below w.heap.size w W) => next1_any z h ls W (hb.below hW) (hz z hm))
  have HK := hide (fun (W : World) (hW : Below w.heap.size w W) => hx.keep (up hW hB) (fun _ h => h))
  obtain ⟨A, c, rfl, hc, hm⟩ := hx.open'
  obtain ⟨n, hn⟩ : ∃ n, zs.length = n := ⟨_, rfl⟩
  rw [hn] at hc HK ⊢
  have HN := hide hn
  clear hn hx hb hz
  go_enter Try.func77, Try.ntmps77
  go_wp2
  go_loopw [8] (fun i wr => ∃ k : Nat, k ≤ n ∧ i = .int .i64 k ∧ Below w.heap.size w wr) (fun i _ => n - (intOf i).toNat)
  case atStart => exact ⟨0, Nat.zero_le _, rfl, Below.refl _ _⟩
  case round =>
    obtain ⟨k, hk, rfl, hb⟩ := hrel
    have hsz := hb.size
    have HB := hide hb
    clear hb
    by_cases hlt : k < n
    · obtain ⟨y, hy⟩ : ∃ y, zs[k]? = some y := ⟨_, List.getElem?_eq_getElem (by have := HN.out; omega)⟩
      obtain ⟨b, o, rfl, hbb, e0, hR⟩ := (HK.out wr HB.out).get hy
      have hbs : b < wr.heap.size := by omega
      have HY := hide (List.mem_of_getElem? hy)
      clear hy
      go_wp2_with (go_at_call 55; refine (HC.out _ HY.out wr HB.out).mono ?_; rintro e w3 ⟨rfl, hb3⟩)
      go_roundw
      case rel => exact ⟨k + 1, by omega, by go_num, HB.out.trans (hb3.mono hsz)⟩
      case measure => simp [intOf]; omega
    · go_wp2
      go_ret
      exact ⟨rfl, HB.out⟩
set_option maxRecDepth 100000 in
theorem delFunc_next (zs : List Int) (va : Value) (h ls : Nat) (w : World) (B : Nat) (hB : B ≤ w.heap.size) (hx : IntsV w (· < B) va zs) (hb : FunBox w h ls) (hz : ∀ z ∈ zs, inB 0 ((ls : Int) - 1) z = true) :
    Calls Try.prog 56 #[va, .func (.func 55) #[] #[.pointer (some ⟨h, 0, none⟩)]] w fun e w' => e = .returned va ∧ Below w.heap.size w w' := by
  have HI := hide (idxFunc_next zs va h ls w B hB hx hb hz)
  obtain ⟨A, c, rfl, hc, hm⟩ := hx.open'
  generalize zs.length = n at *
  clear hx hb hz
  go_enter Try.func56, Try.ntmps56
  go_wp2_with (go_at_call 77; refine HI.out.mono ?_; rintro e w3 ⟨rfl, hb3⟩)
  go_ret
  exact ⟨rfl, hb3⟩
end Go.Proofs.Ytkpikgakphdjjaa
