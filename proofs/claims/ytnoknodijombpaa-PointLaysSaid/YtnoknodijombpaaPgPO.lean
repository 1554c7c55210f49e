/- Layer 14, the program: whether a block is too long; Lay. Condition: the function is one that may be. -/
import Derived.Test.YtnoknodijombpaaPgPN
set_option linter.unusedSimpArgs false
set_option linter.unusedVariables false
namespace Go.Proofs.Ytnoknodijombpaa
open Go.RowKit

def longB (l : List InsV) : Bool := decide (40 < l.length)
set_option maxHeartbeats 1000000 in
set_option maxRecDepth 100000 in
theorem plong_any (A : Option Addr) (n c : Nat) (w : World) :
    Calls Try.prog 45 #[.agg #[.slice A n c]] w fun e w' => e = .returned (.bool (decide (40 < n))) ∧ Below w.heap.size w w' := by
  have HB := hide (alloc1 w (.cells #[.slice A n c] 53))
  by_cases h : 40 < n
  · rw [decide_eq_true h]
    have h' : (n : Int) > 40 := by omega
    clear h
    go_enter Try.func45, Try.ntmps45
    go_wp2
    go_ret
    exact ⟨rfl, HB.out⟩
  · rw [decide_eq_false h]
    have h' : ¬ ((n : Int) > 40) := by omega
    clear h
    go_enter Try.func45, Try.ntmps45
    go_wp2
    go_ret
    exact ⟨rfl, HB.out⟩
set_option maxHeartbeats 1000000 in
set_option maxRecDepth 100000 in
theorem pidxLong_any (v : Value) (xs : List (List InsV)) (w : World) (B : Nat) (hB : B ≤ w.heap.size) (hx : BlksV w (· < B) v xs) (hl : xs.length ≤ 1000) :
    Calls Try.prog 61 #[v, .func (.func 45) #[] #[]] w fun e w' => ∃ i : Int, e = .returned (.int .i64 i) ∧ decide (i ≥ 0) = xs.any longB ∧ Below w.heap.size w w' := by
  have HX := hide (fun (W : World) (hW : Below w.heap.size w W) => (hx.keep (up hW hB) (fun _ h => h) : BlksV W (· < B) v xs))
  have HBB := hide hB
  obtain ⟨n, hn⟩ : ∃ n, xs.length = n := ⟨_, rfl⟩
  have HN := hide hn
  obtain ⟨A, c, rfl, hc, hm⟩ := hx.open'
  rw [hn] at HX hc hl ⊢
  clear hx hn hB
  go_enter Try.func61, Try.ntmps61
  go_wp2
  go_loopw [8] (fun i wr => ∃ k : Nat, k ≤ n ∧ i = .int .i64 k ∧ Below w.heap.size w wr ∧ Hid ((xs.take k).any longB = false)) (fun i _ => n - (intOf i).toNat)
  case atStart => exact ⟨0, Nat.zero_le _, rfl, Below.refl _ _, hide (by simp)⟩
  case round =>
    obtain ⟨k, hk, rfl, hb, HT⟩ := hrel
    obtain ⟨wo, rfl⟩ : ∃ wo, wo = wr := ⟨_, rfl⟩
    have HBW := hide hb
    clear hb
    by_cases hlt : k < n
    case neg =>
      have HE := hide (show xs.any longB = false by have t := HT.out; rwa [List.take_of_length_le (by have := HN.out; omega)] at t)
      go_wp2
      go_ret
      exact ⟨-1, rfl, by rw [HE.out]; rfl, HBW.out⟩
    have HLT := hide hlt
    obtain ⟨l, hl'⟩ : ∃ l, xs[k]? = some l := ⟨_, List.getElem?_eq_getElem (by have := HN.out; omega)⟩
    obtain ⟨b, o, A1, c1, hA, hb, d0, -⟩ := (HX.out wo HBW.out).get hl'
    subst hA
    have hb2 : b < wo.heap.size := by have := HBB.out; have := HBW.out.size; omega
    have HTK := hide (show xs.take (k + 1) = xs.take k ++ [l] by rw [List.take_add_one, hl']; rfl)
    have HMM := hide (List.mem_of_getElem? hl')
    obtain ⟨ln, hln⟩ : ∃ ln, l.length = ln := ⟨_, rfl⟩
    have HLN := hide hln
    rw [hln] at d0
    have hki : (0 : Int) ≤ (k : Int) := by omega
    have hkl : (k : Int) < (n : Int) := by omega
    have HPL := hide (plong_any A1 ln c1 wo)
    clear hl' hln
    cases hq : decide (40 < ln) with
    | true =>
      rw [hq] at HPL
      have HE := hide (show xs.any longB = true by rw [List.any_eq_true]; exact ⟨l, HMM.out, by unfold longB; rw [HLN.out]; exact hq⟩)
      clear hq
      go_wp2_with (go_at_call 45; refine HPL.out.mono ?_; rintro e w3 ⟨rfl, hb3⟩; have HB3 := hide (HBW.out.trans (hb3.mono HBW.out.size)); clear hb3 d0)
      go_ret
      exact ⟨(k : Int), rfl, by rw [HE.out]; simp, HB3.out⟩
    | false =>
      rw [hq] at HPL
      have HE := hide (show (xs.take (k + 1)).any longB = false by rw [HTK.out, List.any_append, HT.out]; simp only [List.any_cons, List.any_nil, Bool.or_false, Bool.false_or]; unfold longB; rw [HLN.out]; exact hq)
      clear hq
      go_wp2_with (go_at_call 45; refine HPL.out.mono ?_; rintro e w3 ⟨rfl, hb3⟩; have HB3 := hide (HBW.out.trans (hb3.mono HBW.out.size)); clear hb3 d0)
      go_roundw
      case rel => exact ⟨k + 1, by have := HLT.out; omega, by go_num, HB3.out, HE⟩
      case measure => have := HLT.out; simp [intOf]; omega
set_option maxHeartbeats 1000000 in
set_option maxRecDepth 100000 in
theorem pcontLong_any (v : Value) (xs : List (List InsV)) (w : World) (B : Nat) (hB : B ≤ w.heap.size) (hx : BlksV w (· < B) v xs) (hl : xs.length ≤ 1000) :
    Calls Try.prog 46 #[v, .func (.func 45) #[] #[]] w fun e w' => e = .returned (.bool (xs.any longB)) ∧ Below w.heap.size w w' := by
  have HI := hide (pidxLong_any v xs w B hB hx hl)
  obtain ⟨A, c, rfl, -, -⟩ := hx.open'
  clear hx hl hB
  generalize xs.length = n, xs.any longB = q at *
  go_enter Try.func46, Try.ntmps46
  cases q with
  | true =>
    go_wp2_with (go_at_call 61; refine HI.out.mono ?_; rintro e w3 ⟨i, rfl, hi, hb3⟩; have hi' : i ≥ 0 := (by simpa using hi); have HB3 := hide hb3; clear hb3 hi)
    go_ret
    exact ⟨rfl, HB3.out⟩
  | false =>
    go_wp2_with (go_at_call 61; refine HI.out.mono ?_; rintro e w3 ⟨i, rfl, hi, hb3⟩; have hi' : ¬ i ≥ 0 := (by simpa using hi); have HB3 := hide hb3; clear hb3 hi)
    go_ret
    exact ⟨by first | rfl | (show Ending.returned (Value.bool (decide (0 ≤ i))) = _; rw [decide_eq_false (by omega)]), HB3.out⟩
end Go.Proofs.Ytnoknodijombpaa
