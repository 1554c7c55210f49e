/- The contracts of shape.Ins and of the reference's Ins at whatever number of a function. Conditions: the table of parts reads as listed; no instruction has more arguments than any machine's memory holds. -/
import Derived.Test.YtckpaikppgjfnaaGreatDoorNC
import Derived.Test.YtckpaikppgjfnaaGreatDoorSW
import Derived.Test.YtckpaikppgjfnaaGreatDoorMR
set_option linter.unusedSimpArgs false
set_option linter.unusedVariables false
namespace Go.Proofs.YtckpaikppgjfnaaGreatDoor
open Go.RowKit

theorem Sl.intsV {w : World} {B c : Nat} {A : Option Addr} {zs : List Int} (h : Sl w B .i64 A zs) (hc : zs.length ≤ c) (hm : c ≤ 9223372036854775807) (hr : ∀ z ∈ zs, i64R z) : IntsV w (· < B) (.slice A zs.length c) zs := by
  refine ⟨A, c, rfl, hc, hm, fun hp => ?_⟩
  obtain ⟨b, o, e2, hb, hcc⟩ := h hp
  refine ⟨b, o, e2, hb, fun j x hj => ⟨?_, hr x (List.mem_of_getElem? hj)⟩⟩
  have := hcc j (List.getElem?_eq_some_iff.1 hj).1
  rw [Nat.mul_one, this]
  simp [List.getD, hj]
theorem nextL_R {x : InsV} (h : InsR x) : ∀ z ∈ nextL x, i64R z := by
  obtain ⟨-, -, -, -, h1, h2⟩ := h
  intro z hz
  unfold nextL at hz
  split at hz
  · simp at hz; subst hz; exact h1
  · split at hz
    · unfold i64R at *
      simp at hz; omega
    · cases hz
def mayI (p : List FunV) (z : Int) (x : InsV) : Bool := if inB 0 ((p.length : Int) - 1) z = true then (match p[z.toNat]? with | some f => mayB4 p f x | none => false) else false
theorem mayI_out {p : List FunV} {z : Int} {x : InsV} (h : inB 0 ((p.length : Int) - 1) z = false) : mayI p z x = false := by unfold mayI; rw [h]; rfl
theorem mayI_in {p : List FunV} {k : Nat} {f : FunV} {x : InsV} (hf : p[k]? = some f) : mayI p (k : Int) x = mayB4 p f x := by
  have hk := (List.getElem?_eq_some_iff.1 hf).1
  unfold mayI
  rw [if_pos (inB4_iff.2 (by omega)), Int.toNat_natCast, hf]
set_option maxHeartbeats 2000000 in
set_option maxRecDepth 100000 in
theorem rins4_any (vp : Value) (p : List FunV) (z : Int) (x : InsV) (va : Value) (w : World) (B : Nat) (hB : B ≤ w.heap.size) (hp : FunsV w (· < B) vp p) (hx : InsI w (· < B) va x) (hlen : x.args.length ≤ 17592186044000) :
    Calls Tryz.prog 35 #[.agg #[vp], .int .i64 z, .agg #[.int .i64 x.op, .int .i64 x.d, .int .i64 x.a, .int .i64 x.b, .int .i64 x.n, .int .i64 x.m, va]] w fun e w' => e = .returned (.bool (mayI p z x)) ∧ Below w.heap.size w w' := by
  by_cases hin : inB 0 ((p.length : Int) - 1) z = true
  · have hin2 := inB4_iff.1 hin
    obtain ⟨k, hk⟩ : ∃ k : Nat, z = k := ⟨z.toNat, by omega⟩
    subst hk
    obtain ⟨f, hf⟩ : ∃ f, p[k]? = some f := ⟨_, List.getElem?_eq_getElem (by omega)⟩
    rw [mayI_in hf]
    exact ins4_any vp p k f x va w B hB hp hf hx hlen
  · have hin' := Bool.eq_false_iff.2 hin
    have HF0 := hide (@mayI_out p z x hin')
    obtain ⟨A, c, rfl, hc, hm⟩ := hp.open'
    obtain ⟨Aa, ca, rfl⟩ := hx.open'
    obtain ⟨np, hnp⟩ : ∃ np, p.length = np := ⟨_, rfl⟩
    rw [hnp] at hc hin' ⊢
    have e3 : IntKind.i64.wrap ((np : Int) - 1) = (np : Int) - 1 := IntWalk.i64_in _ ⟨by omega, by omega⟩
    have HW := hide (fun W => (show Calls Tryz.prog 33 #[.int .i64 z, .int .i64 0, .int .i64 ((np : Int) - 1)] W fun e w' => e = .returned (.bool false) ∧ W = w' by have h := within4_any z 0 ((np : Int) - 1) W; rw [hin'] at h; exact h))
    generalize mayI p z x = R at *
    generalize x.args.length = la at *
    generalize x.op = xop, x.d = xd, x.a = xa, x.b = xb, x.n = xn, x.m = xm at *
    clear hp hx hnp hin hin'
    go_enter Tryz.func35, Tryz.ntmps35
    go_wp2_with (go_at_call 33; refine (HW.out _).mono ?_; rintro e w' ⟨rfl, rfl⟩)
    go_ret
    exact ⟨ret_bool HF0.out.symm, alloc2 w _ _⟩
end Go.Proofs.YtckpaikppgjfnaaGreatDoor
