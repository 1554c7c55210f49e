/- The contracts of shape.Ins and of the reference's Ins at whatever number of a function. Conditions: the table of parts reads as listed; no instruction has more arguments than any machine's memory holds. -/
import Derived.Test.YtpggjolbohffjaaDoorTC
import Derived.Test.YtpggjolbohffjaaDoorSW
import Derived.Test.YtpggjolbohffjaaDoorRSame
set_option linter.unusedSimpArgs false
set_option linter.unusedVariables false
namespace Go.Proofs.YtpggjolbohffjaaDoor
open Go.RowKit

theorem Sl.intsV {w : World} {B c : Nat} {A : Option Addr} {zs : List Int} (h : Sl w B .i64 A zs) (hc : zs.length ≤ c) (hm : c ≤ 9223372036854775807) (hr : ∀ z ∈ zs, i64R z) : IntsV w (· < B) (.slice A zs.length c) zs := by
  refine ⟨A, c, rfl, hc, hm, fun hp => ?_⟩
  obtain ⟨b, o, e2, hb, hcc⟩ := h hp
  refine ⟨b, o, e2, hb, fun j x hj => ⟨?_, hr x (List.mem_of_getElem? hj)⟩⟩
  have := hcc j (List.getElem?_eq_some_iff.1 hj).1
  rw [Nat.mul_one, this]
  simp [List.getD, hj]
theorem nextL_R {x : InsV} (h : InsR x) : ∀ z ∈ nextL x, i64R z := by
  obtain ⟨-, -, -, -, h1, h2⟩ := h
  intro z hz
  unfold nextL at hz
  split at hz
  · simp at hz; subst hz; exact h1
  · split at hz
    · unfold i64R at *
      simp at hz; omega
    · cases hz
def mayI (p : List FunV) (z : Int) (x : InsV) : Bool := if inB 0 ((p.length : Int) - 1) z = true then (match p[z.toNat]? with | some f => mayB4 p f x | none => false) else false
theorem mayI_out {p : List FunV} {z : Int} {x : InsV} (h : inB 0 ((p.length : Int) - 1) z = false) : mayI p z x = false := by unfold mayI; rw [h]; rfl
theorem mayI_in {p : List FunV} {k : Nat} {f : FunV} {x : InsV} (hf : p[k]? = some f) : mayI p (k : Int) x = mayB4 p f x := by
  have hk := (List.getElem?_eq_some_iff.1 hf).1
  unfold mayI
  rw [if_pos (inB4_iff.2 (by omega)), Int.toNat_natCast, hf]
set_option maxHeartbeats 2000000 in
set_option maxRecDepth 100000 in
theorem sins_any (vp : Value) (p : List FunV) (z : Int) (x : InsV) (va : Value) (w : World) (B : Nat) (hB : B ≤ w.heap.size) (hT : TabP w) (hp : FunsV w (· < B) vp p) (hx : InsI w (· < B) va x) (hlen : x.args.length ≤ 1099511627000) :
    Calls Tryd.prog 20 #[.agg #[vp], .int .i64 z, .agg #[.int .i64 x.op, .int .i64 x.d, .int .i64 x.a, .int .i64 x.b, .int .i64 x.n, .int .i64 x.m, va]] w fun e w' => e = .returned (.bool (mayI p z x)) ∧ Below w.heap.size w w' := by
  have HSc := hide (fun (W : World) (hW : Below w.heap.size w W) (k : Nat) (f : FunV) (hf : p[k]? = some f) => scopeOf_any vp p k f W B (by have := hW.size; omega) (hp.keep (up hW hB) (fun _ h => h)) hf)
  have HM := hide (fun (W : World) (hW : Below w.heap.size w W) (hf hp : Nat) (f : FunV) (hs : ScopeP W B hf hp p f) => may_any x va W B hf hp p f (by have := hW.size; omega) (hT.below hW hT.1) hs (hx.keep (up hW hB) (fun b h => by have := hW.size; omega)) hlen)
  have HOUT := hide (fun h => @mayI_out p z x h)
  have HIN := hide (fun (k : Nat) (f : FunV) (hf : p[k]? = some f) => @mayI_in p k f x hf)
  obtain ⟨A, c, rfl, hc, hm⟩ := hp.open'
  obtain ⟨Aa, ca, rfl⟩ := hx.open'
  unfold scopeVal at HSc HM
  obtain ⟨np, hnp⟩ : ∃ np, p.length = np := ⟨_, rfl⟩
  have HNP := hide hnp
  rw [hnp] at hc HSc HOUT ⊢
  have e3 : IntKind.i64.wrap ((np : Int) - 1) = (np : Int) - 1 := IntWalk.i64_in _ ⟨by omega, by omega⟩
  have hxr := hx.2
  unfold InsR at hxr
  generalize x.args.length = la at *
  obtain ⟨R, hR⟩ : ∃ R, mayI p z x = R := ⟨_, rfl⟩
  rw [hR] at HOUT ⊢
  have HR := hide hR
  obtain ⟨mb, hmb⟩ : ∃ mb : FunV → Bool, (fun f => mayB4 p f x) = mb := ⟨_, rfl⟩
  have hmb' : ∀ f, mayB4 p f x = mb f := fun f => by rw [← hmb]
  simp only [hmb'] at HM HIN
  generalize x.op = xop, x.d = xd, x.a = xa, x.b = xb, x.n = xn, x.m = xm at *
  clear hp hx hT hnp hR hmb hmb'
  go_enter Tryd.func20, Tryd.ntmps20
  go_upto_region 1 with (fail)
  obtain ⟨w1, hw1⟩ : ∃ w1, w1 = (w.alloc (.cells #[.slice A np c] 26)).alloc (.cells #[.int .i64 xop, .int .i64 xd, .int .i64 xa, .int .i64 xb, .int .i64 xn, .int .i64 xm, .slice Aa la ca] 41) := ⟨_, rfl⟩
  obtain ⟨h2, hh2⟩ : ∃ h2, w.heap.size + 1 = h2 := ⟨_, rfl⟩
  have HBP := hide (show Box w1 w.heap.size #[.slice A np c] 26 by rw [hw1]; exact (Box.new w _ _).alloc _)
  have HBX := hide (show Box w1 h2 #[.int .i64 xop, .int .i64 xd, .int .i64 xa, .int .i64 xb, .int .i64 xn, .int .i64 xm, .slice Aa la ca] 41 by
    have h := Box.new (w.alloc (.cells #[.slice A np c] 26)) #[.int .i64 xop, .int .i64 xd, .int .i64 xa, .int .i64 xb, .int .i64 xn, .int .i64 xm, .slice Aa la ca] 41
    rw [World.size_alloc, hh2] at h
    rw [hw1]; exact h)
  have HB1 := hide (show Below w.heap.size w w1 by rw [hw1]; exact alloc2 w _ _)
  have hl1 := HBP.out.lt
  have hl2 := HBX.out.lt
  rw [← hw1, hh2]
  have hwh2 : w.heap.size < h2 := by omega
  clear hw1 hh2
  have p0 := (HBP.out.cell 0 (v := .slice A np c) rfl).1
  by_cases hin : inB 0 ((np : Int) - 1) z = true
  case neg =>
    have hin' := Bool.eq_false_iff.2 hin
    have HW := hide (fun W => (show Calls Tryd.prog 45 #[.int .i64 z, .int .i64 0, .int .i64 ((np : Int) - 1)] W fun e w' => e = .returned (.bool false) ∧ W = w' by have h := within_any z 0 ((np : Int) - 1) W; rw [hin'] at h; exact h))
    have HF0 := hide (HOUT.out hin')
    clear hin hin'
    go_wp2_with (go_at_call 45; refine (HW.out _).mono ?_; rintro e w' ⟨rfl, rfl⟩)
    go_ret
    exact ⟨ret_bool HF0.out.symm, HB1.out⟩
  have HW := hide (fun W => (show Calls Tryd.prog 45 #[.int .i64 z, .int .i64 0, .int .i64 ((np : Int) - 1)] W fun e w' => e = .returned (.bool true) ∧ W = w' by have h := within_any z 0 ((np : Int) - 1) W; rw [hin] at h; exact h))
  have hin2 := inB4_iff.1 hin
  obtain ⟨k, hk⟩ : ∃ k : Nat, z = k := ⟨z.toNat, by omega⟩
  subst hk
  obtain ⟨f, hf⟩ : ∃ f, p[k]? = some f := ⟨_, List.getElem?_eq_getElem (by have := HNP.out; omega)⟩
  have HF := hide hf
  have HF0 := hide (show R = mb f by rw [← HR.out]; exact HIN.out k f hf)
  clear hin hin2 hf
  go_wp2_with (go_at_call 45; refine (HW.out _).mono ?_; rintro e w' ⟨rfl, rfl⟩)
  clear p0
  obtain ⟨x0, x1, x2, x3, x4, x5, x6⟩ := SBoxR.of HBX.out
  have p0 := (HBP.out.cell 0 (v := .slice A np c) rfl).1
  have HKX := hide (fun (W : World) (hW : Below w1.heap.size w1 W) => And.intro ((HBP.out.below hW).cell 0 (v := .slice A np c) rfl).1 (SBoxR.of (HBX.out.below hW)))
  go_region_held3 (fun w' => w'.cell? ⟨w.heap.size, 0, none⟩ = some (.slice A np c) ∧ w'.cell? ⟨h2, 0, none⟩ = some (.int .i64 xop) ∧ w'.cell? ⟨h2, 1, none⟩ = some (.int .i64 xd) ∧ w'.cell? ⟨h2, 2, none⟩ = some (.int .i64 xa) ∧ w'.cell? ⟨h2, 3, none⟩ = some (.int .i64 xb) ∧ w'.cell? ⟨h2, 4, none⟩ = some (.int .i64 xn) ∧ w'.cell? ⟨h2, 5, none⟩ = some (.int .i64 xm) ∧ w'.cell? ⟨h2, 6, none⟩ = some (.slice Aa la ca)) (first | go_keep | (exact q5) | (exact q4))
    (first
      | (go_at_call 47; refine (HM.out w4 HB4.out _ _ f hsc4).mono ?_; rintro e w5 ⟨rfl, hb5⟩; have hc5 := HC4.out.trans (hb5.mono HC4.out.size); have q5 := HKX.out w5 hc5; have HB5 := hide (HB4.out.trans (hb5.mono HB4.out.size)); clear hb5 hc5)
      | (go_at_call 46; refine (HSc.out _ (below_drewN HB1.out 1) k f HF.out).mono ?_; rintro e w4 ⟨sf, sp, rfl, hsc4, hb4⟩; have hc4 : Below w1.heap.size w1 w4 := ⟨hb4.os, hb4.tape, hb4.output, hb4.size, hb4.block⟩; have q4 := HKX.out w4 hc4; have HC4 := hide hc4; have HB4 := hide (HB1.out.trans (hc4.mono HB1.out.size)); clear hb4 hc4))
  all_goals
    go_wp2
    go_ret
    exact ⟨ret_bool HF0.out.symm, HB5.out⟩
set_option maxHeartbeats 2000000 in
set_option maxRecDepth 100000 in
theorem rins4_any (vp : Value) (p : List FunV) (z : Int) (x : InsV) (va : Value) (w : World) (B : Nat) (hB : B ≤ w.heap.size) (hp : FunsV w (· < B) vp p) (hx : InsI w (· < B) va x) (hlen : x.args.length ≤ 1099511627000) :
    Calls Tryd.prog 21 #[.agg #[vp], .int .i64 z, .agg #[.int .i64 x.op, .int .i64 x.d, .int .i64 x.a, .int .i64 x.b, .int .i64 x.n, .int .i64 x.m, va]] w fun e w' => e = .returned (.bool (mayI p z x)) ∧ Below w.heap.size w w' := by
  by_cases hin : inB 0 ((p.length : Int) - 1) z = true
  · have hin2 := inB4_iff.1 hin
    obtain ⟨k, hk⟩ : ∃ k : Nat, z = k := ⟨z.toNat, by omega⟩
    subst hk
    obtain ⟨f, hf⟩ : ∃ f, p[k]? = some f := ⟨_, List.getElem?_eq_getElem (by omega)⟩
    rw [mayI_in hf]
    exact ins4_any vp p k f x va w B hB hp hf hx hlen
  · have hin' := Bool.eq_false_iff.2 hin
    have HF0 := hide (@mayI_out p z x hin')
    obtain ⟨A, c, rfl, hc, hm⟩ := hp.open'
    obtain ⟨Aa, ca, rfl⟩ := hx.open'
    obtain ⟨np, hnp⟩ : ∃ np, p.length = np := ⟨_, rfl⟩
    rw [hnp] at hc hin' ⊢
    have e3 : IntKind.i64.wrap ((np : Int) - 1) = (np : Int) - 1 := IntWalk.i64_in _ ⟨by omega, by omega⟩
    have HW := hide (fun W => (show Calls Tryd.prog 41 #[.int .i64 z, .int .i64 0, .int .i64 ((np : Int) - 1)] W fun e w' => e = .returned (.bool false) ∧ W = w' by have h := within4_any z 0 ((np : Int) - 1) W; rw [hin'] at h; exact h))
    generalize mayI p z x = R at *
    generalize x.args.length = la at *
    generalize x.op = xop, x.d = xd, x.a = xa, x.b = xb, x.n = xn, x.m = xm at *
    clear hp hx hnp hin hin'
    go_enter Tryd.func21, Tryd.ntmps21
    go_wp2_with (go_at_call 41; refine (HW.out _).mono ?_; rintro e w' ⟨rfl, rfl⟩)
    go_ret
    exact ⟨ret_bool HF0.out.symm, alloc2 w _ _⟩
end Go.Proofs.YtpggjolbohffjaaDoor
