/- Layer 8, the program: contracts of come, Contains, begins, Set, Fresh. Condition: the table of parts reads as listed; the function is .. -/
import Derived.Test.YthbnbaikdcfbmaaGreatDoorPmKG
set_option linter.unusedSimpArgs false
set_option linter.unusedVariables false
set_option maxHeartbeats 4000000
set_option maxRecDepth 100000
namespace Go.Proofs.YthbnbaikdcfbmaaGreatDoor
open Go.RowKit Go.Maps
def LZ (L : Nat -> Option KSt) (z : Int) : Option KSt := if 0 <= z then L z.toNat else none
theorem jnx (L : Nat -> Option KSt) (c : Nat) : LZ L (c : Int) = L c := by unfold LZ; rw [if_pos (by omega), Int.toNat_natCast]
section
variable {w w' : World} {M M' : Nat -> Prop} {b : Nat} {f : FunV} {L : Nat -> Option KSt}
theorem MapK.lookH (h : MapK w M b f L) (z : Int) (hz : i64R z) : ∃ v es clock, w.heap[b]? = some (.map es clock) /\ (∀ W : World, W.heap[b]? = some (.map es clock) -> (Instr.lookup 137 (.map (some b)) (.int .i64 z) true).run Tryz.prog W = .ok (.tuple #[v, .bool (LZ L z).isSome]) W) /\
  (∀ W : World, W.heap[b]? = some (.map es clock) -> (Instr.lookup 137 (.map (some b)) (.int .i64 z) false).run Tryz.prog W = .ok v W) /\
  ((LZ L z = none /\ v = .agg #[.slice none 0 0, .slice none 0 0]) \/ ∃ s v1 v2, LZ L z = some s /\ v = .agg #[v1, v2] /\ SetM w M v1 s.1 /\ SetM w M v2 s.2) := by
 obtain ⟨D, n, ⟨es, clock, g1, g2, g3, g4⟩, hn, hh, hL, ho, hv⟩ := h
 have hown : ∀ W : World, W.heap[b]? = some (.map es clock) -> W.ownsMap Tryz.prog 3 RH b n D := fun W hW => ⟨es, clock, hW, g2, g3, g4⟩
 have hwf : (Lit.int .i64 z).wf = true := WalkArith.wf_i64 (by unfold i64R at hz; omega)
 have hkey : keyOf Tryz.prog 3 (.int .i64 z) = some (.int .i64 z) := keyOf_int_mk (q := .i64) (by kernel_rfl) hwf
 have hhas : Maps.has D (.int .i64 z) = (LZ L z).isSome := by
  by_cases h0 : 0 <= z
  ·obtain ⟨c, rfl⟩ : ∃ c : Nat, z = c := ⟨z.toNat, by omega⟩
   rw [jnx]
   by_cases hcl : c < f.blocks.length
   ·exact hL c hcl
   ·rw [ho c (by omega)]
    cases hx : Maps.has D (.int .i64 (c : Int)) with
    | false => rfl
    | true =>
     obtain ⟨k, hk, e⟩ := hh _ hx
     have := jj4 (j := c) e
     omega
  ·unfold LZ
   rw [if_neg h0]
   cases hx : Maps.has D (.int .i64 z) with
   | false => rfl
   | true =>
    obtain ⟨k, hk, e⟩ := hh _ hx
    unfold litN at e
    injection e with _ e
    omega
 have hlk : ∀ W : World, W.heap[b]? = some (.map es clock) -> ∃ v, (Instr.lookup 137 (.map (some b)) (.int .i64 z) true).run Tryz.prog W = .ok (.tuple #[v, .bool (LZ L z).isSome]) W /\ (.held v : DataW Value) = D.atKey (.int .i64 z) (.held (.agg #[.slice none 0 0, .slice none 0 0])) := fun W hW => by
  obtain ⟨v, ps, hrun, hat⟩ := (hown W hW).look_ok (zd := .held (.agg #[.slice none 0 0, .slice none 0 0])) (zp := []) keyed_int jbe (jhp W) rfl hkey
  rw [hhas] at hrun
  simp only [RH, Option.some.injEq, Prod.mk.injEq] at hat
  exact ⟨v, hrun, hat.1⟩
 have hlf : ∀ W : World, W.heap[b]? = some (.map es clock) -> ∃ v, (Instr.lookup 137 (.map (some b)) (.int .i64 z) false).run Tryz.prog W = .ok v W /\ (.held v : DataW Value) = D.atKey (.int .i64 z) (.held (.agg #[.slice none 0 0, .slice none 0 0])) := fun W hW => by
  obtain ⟨v, ps, hrun, hat⟩ := (hown W hW).lookup (zd := .held (.agg #[.slice none 0 0, .slice none 0 0])) (zp := []) keyed_int jbe (jhp W) rfl hkey
  simp only [RH, Option.some.injEq, Prod.mk.injEq] at hat
  exact ⟨v, hrun, hat.1⟩
 obtain ⟨v, hrun, e1⟩ := hlk w g1
 refine ⟨v, es, clock, g1, fun W hW => ?_, fun W hW => ?_, ?_⟩
 ·obtain ⟨v', hr, e2⟩ := hlk W hW
  have := e2.trans e1.symm
  injection this with e3
  rw [<- e3]
  exact hr
 ·obtain ⟨v', hr, e2⟩ := hlf W hW
  have := e2.trans e1.symm
  injection this with e3
  rw [<- e3]
  exact hr
 ·cases hLc : LZ L z with
  | none =>
   rw [hLc] at hhas
   rw [jpc hhas _ (hown w g1).isMap] at e1
   injection e1 with e1
   exact .inl ⟨rfl, e1⟩
  | some s =>
   have h0 : 0 <= z := by
    unfold LZ at hLc
    split at hLc
    ·assumption
    ·cases hLc
   obtain ⟨c, rfl⟩ : ∃ c : Nat, z = c := ⟨z.toNat, by omega⟩
   rw [jnx] at hLc
   obtain ⟨v1, v2, e, a1, a2⟩ := hv c s hLc
   have e' := e1.trans (e _)
   injection e' with e'
   exact .inr ⟨s, v1, v2, rfl, e', a1, a2⟩
end
theorem But.of_grown {b : Nat} {w w1 : World} (h : w.grownBy w1 (some b)) : But b w w1 := ⟨h.os, h.tape, h.output, h.size, fun k hk hne => h.block k hk (fun e => hne (by injection e))⟩
theorem But.trans' {b : Nat} {w w1 w2 : World} (h : But b w w1) (h' : But b w1 w2) : But b w w2 := ⟨h'.os.trans h.os, h'.tape.trans h.tape, h'.output.trans h.output, Nat.le_trans h.size h'.size, fun k hk hne => (h'.block k (Nat.lt_of_lt_of_le hk h.size) hne).trans (h.block k hk hne)⟩
theorem But.of_bel {b : Nat} {w w1 : World} (h : Below w.heap.size w w1) : But b w w1 := ⟨h.os, h.tape, h.output, h.size, fun k hk _ => h.block k hk⟩
def ComeR (w : World) (M : Nat -> Prop) (b : Nat) (f : FunV) (L : Nat -> Option KSt) (c : Nat) (s : KSt) (r : Bool) (w' : World) : Prop :=
 But b w w' /\ ((r = false /\ (∃ t, L c = some t /\ jbd s t = t) /\ MapK w' M b f L) \/ (r = true /\ ∃ m, ((L c = none /\ m = s) \/ ∃ t, L c = some t /\ m = jbd s t /\ m ≠ t) /\ (potK f (updK L c m) < potK f L -> MapK w' M b f (updK L c m))))
def ComeE (w : World) (M : Nat -> Prop) (b : Nat) (f : FunV) (L : Nat -> Option KSt) (c : Nat) (s : KSt) (e : Ending) (w' : World) : Prop := ∃ r : Bool, e = .returned (.bool r) /\ ComeR w M b f L c s r w'
theorem jns {w w2 w' : World} {M : Nat -> Prop} {b : Nat} {f : FunV} {L : Nat -> Option KSt} {c n : Nat} {D : DataW Value} {s m : KSt} {v1 v2 : Value} (hb : But b w w2) (hMb : M b) (hD : IsMap D) (hn : n + potK f L <= 10000) (hh : ∀ kl, Maps.has D kl = true -> ∃ k : Nat, k < f.blocks.length /\ kl = litN k)
  (hL : ∀ k : Nat, k < f.blocks.length -> Maps.has D (litN k) = (L k).isSome) (ho : ∀ k : Nat, f.blocks.length <= k -> L k = none) (hv : ∀ k s, L k = some s -> ∃ v1 v2, (∀ zd, D.atKey (litN k) zd = .held (.agg #[v1, v2])) /\ SetM w2 M v1 s.1 /\ SetM w2 M v2 s.2)
  (hc : c < f.blocks.length) (hc2 : c <= 1000000) (h1 : SetM w2 M v1 m.1) (h2 : SetM w2 M v2 m.2) (hm : (L c = none /\ m = s) \/ ∃ t, L c = some t /\ m = jbd s t /\ m ≠ t)
  (hown : w'.ownsMap Tryz.prog 3 RH b (n + 1) (D.put (litN c) (.held (.agg #[v1, v2])))) (hg : w2.grownBy w' (some b)) : ComeE w M b f L c s (.returned (.bool true)) w' :=
 ⟨true, rfl, hb.trans' (But.of_grown hg), .inr ⟨rfl, m, hm, fun hp => MapK.put hown hD hg hMb hn hp hh hL ho hv hc hc2 h1 h2⟩⟩
theorem jri (f : FunV) (hk : KOk f) (w : World) (M : Nat -> Prop) (hM : ∀ k, M k -> k < w.heap.size) (b : Nat) (L : Nat -> Option KSt) (hm : MapK w M b f L) (hMb : M b) (c : Nat) (hc : c < f.blocks.length) (v1 v2 : Value) (s : KSt) (hs : GoodK f s) (h1 : SetM w M v1 s.1) (h2 : SetM w M v2 s.2) (hg : ∀ t, L c = some t -> GoodK f t) :
  Calls Tryz.prog 103 #[.map (some b), .int .i64 (c : Int), .agg #[v1, v2]] w (ComeE w M b f L c s) := by
 have hbl : f.blocks.length <= 40 := hk.flow.1
 have hbw := hM b hMb
 obtain ⟨v, es, clock, hhp, hlt, -, hcase⟩ := hm.lookH (c : Int) (by unfold i64R; omega)
 rw [jnx] at hcase hlt
 have HKM := hide (fun (W : World) (hW : Below w.heap.size w W) => hm.keep (M' := M) hW.size (hW.block b hbw) (fun k hk _ => hW.block k hk) (fun _ _ h => h))
 have HV1 := hide (fun (W : World) (hW : Below w.heap.size w W) => h1.below hW)
 have HV2 := hide (fun (W : World) (hW : Below w.heap.size w W) => h2.below hW)
 have HHP := hide (fun (W : World) (hW : Below w.heap.size w W) => hlt W ((hW.block b hbw).trans hhp))
 obtain ⟨A1, d1, rfl, -, -, -, -⟩ := h1
 obtain ⟨A2, d2, rfl, -, -, -, -⟩ := h2
 rcases hcase with ⟨hLc, rfl⟩ | ⟨t, o1, o2, hLc, rfl, g1, g2⟩
 ·rw [hLc] at HHP
  have HLC := hide hLc
  generalize s.1.length = n1, s.2.length = n2 at *
  clear hm hk hs hg hhp hlt hLc
  go_enter Tryz.func103, Tryz.ntmps103
  go_upto_region 1 with (fail)
  obtain ⟨w1, hw1⟩ := zr (w.alloc (.cells #[.slice A1 n1 d1, .slice A2 n2 d2] 119))
  obtain ⟨h5, hh5⟩ := zl w.heap.size
  have HX0 := zx1 hw1 hh5
  have HB1 := zb1 hw1
  have w1s := HB1.out.size
  have w1z := zs1 hw1 hh5
  have HK0 := zk2 HX0
  have lHX0 := HX0.out.lt
  have h5g : w.heap.size <= h5 := by omega
  rw [<- hw1, hh5]
  clear hw1 hh5
  obtain ⟨s0, s1⟩ := HK0.out w1 (Below.refl _ _)
  have hrun := HHP.out w1 HB1.out
  simp only [Option.isSome_none] at hrun
  go_upto_region 2 with (fail)
  clear hrun
  obtain ⟨w2, hw2⟩ := zr (w1.alloc (.cells #[.slice none 0 0, .slice none 0 0] 119))
  obtain ⟨h6, hh6⟩ := zl w1.heap.size
  have HY0 := zx1 hw2 hh6
  have HB2 := zb1 hw2
  have w2s := HB2.out.size
  have w2z := zs1 hw2 hh6
  have HZ0 := zk2 HY0
  have lHY0 := HY0.out.lt
  have h6g : w1.heap.size <= h6 := by omega
  rw [<- hw2, hh6]
  clear hw2 hh6
  have HC2 := hide (HB1.out.trans (HB2.out.mono HB1.out.size))
  obtain ⟨t0, t1⟩ := HK0.out w2 HB2.out
  obtain ⟨D, n, hown, hn, hh, hL, ho, hv⟩ := HKM.out w2 HC2.out
  have HOWN := hide hown
  have HN := hide hn
  have HR := hide (fun w9 => jns (w := w) (w' := w9) (s := s) (But.of_bel HC2.out) hMb hown.isMap hn hh hL ho hv hc (by omega) (HV1.out w2 HC2.out) (HV2.out w2 HC2.out) (.inl ⟨HLC.out, rfl⟩))
  clear hown hn hh hL ho hv s0 s1
  go_wp2_with (first | (at_mapUpdate; refine wpList_mapUpdate_own _ rfl _ _ _ 137 rfl 3 119 keyed_int jbe RH b n D rfl HOWN.out (by simp only [maxLen]; have := HN.out; omega) _ _ (litN c) rfl rfl (jj3 (by omega)) _ [] rfl ?_; intro w9 hown9 hgr9; have HO9 := hide hown9; have HG9 := hide hgr9; clear hown9 hgr9) | go_in)
  go_ret
  exact HR.out _ HO9.out HG9.out
 ·rw [hLc] at HHP
  have HLC := hide hLc
  have hgt := hg t hLc
  have HO1 := hide (fun (W : World) (hW : Below w.heap.size w W) => g1.below hW)
  have HO2 := hide (fun (W : World) (hW : Below w.heap.size w W) => g2.below hW)
  have HME := hide (fun (W : World) (hW : Below w.heap.size w W) => jrf f W _ _ _ _ s t hs hgt (HV1.out W hW).v (HV2.out W hW).v (g1.below hW).v (g2.below hW).v)
  have hgm := hs.meet hgt
  have HSA := hide (fun (W : World) (hW : Below w.heap.size w W) (q1 q2 : Value) (a1 : SetV W q1 (jbd s t).1) (a2 : SetV W q2 (jbd s t).2) => jrd f W q1 q2 o1 o2 (jbd s t) t hgm hgt a1 a2 (g1.below hW).v (g2.below hW).v)
  obtain ⟨O1, e1, rfl, -, -, -, -⟩ := g1
  obtain ⟨O2, e2, rfl, -, -, -, -⟩ := g2
  obtain ⟨m, hmm⟩ := zl (jbd s t)
  have HMM := hide hmm
  rw [hmm] at HME HSA
  obtain ⟨bb, hbb⟩ := zl (decide (m = t))
  have HBB := hide hbb
  rw [hbb] at HSA
  generalize s.1.length = n1, s.2.length = n2, t.1.length = p1, t.2.length = p2 at *
  clear hm hk hs hg hhp hlt hLc hgt hgm hmm hbb
  cases bb
  case true =>
   go_enter Tryz.func103, Tryz.ntmps103
   go_upto_region 1 with (fail)
   obtain ⟨w1, hw1⟩ := zr (w.alloc (.cells #[.slice A1 n1 d1, .slice A2 n2 d2] 119))
   obtain ⟨h5, hh5⟩ := zl w.heap.size
   have HX0 := zx1 hw1 hh5
   have HB1 := zb1 hw1
   have w1s := HB1.out.size
   have w1z := zs1 hw1 hh5
   have HK0 := zk2 HX0
   have lHX0 := HX0.out.lt
   have h5g : w.heap.size <= h5 := by omega
   rw [<- hw1, hh5]
   clear hw1 hh5
   obtain ⟨s0, s1⟩ := HK0.out w1 (Below.refl _ _)
   have hrun := HHP.out w1 HB1.out
   simp only [Option.isSome_some] at hrun
   go_upto_region 2 with (fail)
   clear hrun s0 s1
   obtain ⟨w2, hw2⟩ := zr (w1.alloc (.cells #[.slice O1 p1 e1, .slice O2 p2 e2] 119))
   obtain ⟨h6, hh6⟩ := zl w1.heap.size
   have HY0 := zx1 hw2 hh6
   have HB2 := zb1 hw2
   have w2s := HB2.out.size
   have w2z := zs1 hw2 hh6
   have HZ0 := zk2 HY0
   have lHY0 := HY0.out.lt
   have h6g : w1.heap.size <= h6 := by omega
   rw [<- hw2, hh6]
   clear hw2 hh6
   have HC2 := hide (HB1.out.trans (HB2.out.mono HB1.out.size))
   obtain ⟨t0, t1⟩ := HK0.out w2 HB2.out
   obtain ⟨r0, r1⟩ := HZ0.out w2 (Below.refl _ _)
   have hz12 := HB2.out.size
   go_upto_region 4 with (go_at_call 131; (with_reducible refine (HME.out w2 HC2.out).mono ?_); rintro e w3 ⟨q1, q2, rfl, hn1, hn2, hb3⟩; have HN1 := hide hn1; have HN2 := hide hn2; have HB3 := hide hb3; obtain ⟨Q1, f1, hq1, -, -, -, -⟩ := hn1; obtain ⟨Q2, f2, hq2, -, -, -, -⟩ := hn2; subst hq1; subst hq2; have hx3 := (HX0.out.below HB2.out).below hb3; obtain ⟨k0, fr0⟩ := hx3.cell 0 (v := .slice A1 n1 d1) rfl; obtain ⟨k1, fr1⟩ := hx3.cell 1 (v := .slice A2 n2 d2) rfl; have HX3 := hide hx3; have hz3 := hb3.size; clear hb3 hx3)
   obtain ⟨w4, hw4⟩ := zr ((w3.setCell ⟨h5, 0, none⟩ (.slice Q1 m.1.length f1)).setCell ⟨h5, 1, none⟩ (.slice Q2 m.2.length f2))
   have HBG := hide (show But h5 w3 w4 by rw [hw4]; exact ((But.refl _ _).set).set)
   have HX4 := hide (show Box w4 h5 #[.slice Q1 m.1.length f1, .slice Q2 m.2.length f2] 119 by rw [hw4]; exact (HX3.out.set 0 (.slice Q1 m.1.length f1)).set 1 (.slice Q2 m.2.length f2))
   rw [<- hw4]
   clear hw4 k0 k1 fr0 fr1 t0 t1 r0 r1
   have HC3 := hide (HC2.out.trans (HB3.out.mono HC2.out.size))
   have HC4 := hide (HBG.out.below HC3.out (by omega) (by omega))
   have hlt5 : h5 < w2.heap.size := by have := lHX0; omega
   have HM1 := hide (HN1.out.but HBG.out hlt5)
   have HM2 := hide (HN2.out.but HBG.out hlt5)
   have k0 := (HX4.out.cell 0 (v := .slice Q1 m.1.length f1) rfl).1
   have k1 := (HX4.out.cell 1 (v := .slice Q2 m.2.length f2) rfl).1
   have HY4 := hide (HBG.out.box (HY0.out.below HB3.out) (by omega))
   have r0 := (HY4.out.cell 0 (v := .slice O1 p1 e1) rfl).1
   have r1 := (HY4.out.cell 1 (v := .slice O2 p2 e2) rfl).1
   have lw4 := HX4.out.lt
   have ly4 := HY4.out.lt
   generalize hml1 : m.1.length = ml1 at *
   generalize hml2 : m.2.length = ml2 at *
   clear hml1 hml2
   have hbt2 : decide (m = t) = true := HBB.out
   have HEQ := hide (of_decide_eq_true hbt2)
   clear hbt2
   go_wp2_with (go_at_call 132; (with_reducible refine (HSA.out w4 HC4.out _ _ HM1.out.ws HM2.out.ws).mono ?_); rintro e w5 ⟨rfl, hb5⟩; have HB5 := hide hb5; clear hb5)
   go_ret
   exact ⟨false, rfl, But.of_bel (HC4.out.trans (HB5.out.mono HC4.out.size)), .inl ⟨rfl, ⟨t, HLC.out, HMM.out.trans HEQ.out⟩, HKM.out w5 (HC4.out.trans (HB5.out.mono HC4.out.size))⟩⟩
  case false =>
   go_enter Tryz.func103, Tryz.ntmps103
   go_upto_region 1 with (fail)
   obtain ⟨w1, hw1⟩ := zr (w.alloc (.cells #[.slice A1 n1 d1, .slice A2 n2 d2] 119))
   obtain ⟨h5, hh5⟩ := zl w.heap.size
   have HX0 := zx1 hw1 hh5
   have HB1 := zb1 hw1
   have w1s := HB1.out.size
   have w1z := zs1 hw1 hh5
   have HK0 := zk2 HX0
   have lHX0 := HX0.out.lt
   have h5g : w.heap.size <= h5 := by omega
   rw [<- hw1, hh5]
   clear hw1 hh5
   obtain ⟨s0, s1⟩ := HK0.out w1 (Below.refl _ _)
   have hrun := HHP.out w1 HB1.out
   simp only [Option.isSome_some] at hrun
   go_upto_region 2 with (fail)
   clear hrun s0 s1
   obtain ⟨w2, hw2⟩ := zr (w1.alloc (.cells #[.slice O1 p1 e1, .slice O2 p2 e2] 119))
   obtain ⟨h6, hh6⟩ := zl w1.heap.size
   have HY0 := zx1 hw2 hh6
   have HB2 := zb1 hw2
   have w2s := HB2.out.size
   have w2z := zs1 hw2 hh6
   have HZ0 := zk2 HY0
   have lHY0 := HY0.out.lt
   have h6g : w1.heap.size <= h6 := by omega
   rw [<- hw2, hh6]
   clear hw2 hh6
   have HC2 := hide (HB1.out.trans (HB2.out.mono HB1.out.size))
   obtain ⟨t0, t1⟩ := HK0.out w2 HB2.out
   obtain ⟨r0, r1⟩ := HZ0.out w2 (Below.refl _ _)
   have hz12 := HB2.out.size
   go_upto_region 4 with (go_at_call 131; (with_reducible refine (HME.out w2 HC2.out).mono ?_); rintro e w3 ⟨q1, q2, rfl, hn1, hn2, hb3⟩; have HN1 := hide hn1; have HN2 := hide hn2; have HB3 := hide hb3; obtain ⟨Q1, f1, hq1, -, -, -, -⟩ := hn1; obtain ⟨Q2, f2, hq2, -, -, -, -⟩ := hn2; subst hq1; subst hq2; have hx3 := (HX0.out.below HB2.out).below hb3; obtain ⟨k0, fr0⟩ := hx3.cell 0 (v := .slice A1 n1 d1) rfl; obtain ⟨k1, fr1⟩ := hx3.cell 1 (v := .slice A2 n2 d2) rfl; have HX3 := hide hx3; have hz3 := hb3.size; clear hb3 hx3)
   obtain ⟨w4, hw4⟩ := zr ((w3.setCell ⟨h5, 0, none⟩ (.slice Q1 m.1.length f1)).setCell ⟨h5, 1, none⟩ (.slice Q2 m.2.length f2))
   have HBG := hide (show But h5 w3 w4 by rw [hw4]; exact ((But.refl _ _).set).set)
   have HX4 := hide (show Box w4 h5 #[.slice Q1 m.1.length f1, .slice Q2 m.2.length f2] 119 by rw [hw4]; exact (HX3.out.set 0 (.slice Q1 m.1.length f1)).set 1 (.slice Q2 m.2.length f2))
   rw [<- hw4]
   clear hw4 k0 k1 fr0 fr1 t0 t1 r0 r1
   have HC3 := hide (HC2.out.trans (HB3.out.mono HC2.out.size))
   have HC4 := hide (HBG.out.below HC3.out (by omega) (by omega))
   have hlt5 : h5 < w2.heap.size := by have := lHX0; omega
   have HM1 := hide (HN1.out.but HBG.out hlt5)
   have HM2 := hide (HN2.out.but HBG.out hlt5)
   have k0 := (HX4.out.cell 0 (v := .slice Q1 m.1.length f1) rfl).1
   have k1 := (HX4.out.cell 1 (v := .slice Q2 m.2.length f2) rfl).1
   have HY4 := hide (HBG.out.box (HY0.out.below HB3.out) (by omega))
   have r0 := (HY4.out.cell 0 (v := .slice O1 p1 e1) rfl).1
   have r1 := (HY4.out.cell 1 (v := .slice O2 p2 e2) rfl).1
   have lw4 := HX4.out.lt
   have ly4 := HY4.out.lt
   generalize hml1 : m.1.length = ml1 at *
   generalize hml2 : m.2.length = ml2 at *
   clear hml1 hml2
   have hbt2 : decide (m = t) = false := HBB.out
   have HNE := hide (of_decide_eq_false hbt2)
   clear hbt2
   go_wp2_with (first
    | (at_mapUpdate; refine wpList_mapUpdate_own _ rfl _ _ _ 137 rfl 3 119 keyed_int jbe RH b n D rfl HOWN.out (by simp only [maxLen]; have := HN.out; omega) _ _ (litN c) rfl rfl (jj3 (by omega)) _ [] rfl ?_; intro w9 hown9 hgr9; have HO9 := hide hown9; have HG9 := hide hgr9; clear hown9 hgr9)
    | (go_at_call 132; (with_reducible refine (HSA.out w4 HC4.out _ _ HM1.out.ws HM2.out.ws).mono ?_); rintro e w5 ⟨rfl, hb5⟩; have HB5 := hide hb5; have hx5 := HX4.out.below hb5; obtain ⟨k0, -⟩ := hx5.cell 0 (v := .slice Q1 ml1 f1) rfl; obtain ⟨k1, -⟩ := hx5.cell 1 (v := .slice Q2 ml2 f2) rfl; have HC5 := hide (HC4.out.trans (hb5.mono HC4.out.size)); have lw5 := hx5.lt; obtain ⟨D, n, hown, hn, hh, hL, ho, hv⟩ := HKM.out w5 HC5.out; have HOWN := hide hown; have HN := hide hn; have HR := hide (fun w9 => jns (w := w) (w' := w9) (s := s) (m := m) (But.of_bel HC5.out) hMb hown.isMap hn hh hL ho hv hc (by omega) ((HM1.out.below hb5).setM (fun k hm => by have := hM k hm; have := HC2.out.size; omega)) ((HM2.out.below hb5).setM (fun k hm => by have := hM k hm; have := HC2.out.size; omega)) (.inr ⟨t, HLC.out, HMM.out.symm, HNE.out⟩)); clear hown hn hh hL ho hv hx5; clear hb5)
    | go_in)
   go_ret
   exact HR.out _ HO9.out HG9.out
end Go.Proofs.YthbnbaikdcfbmaaGreatDoor
