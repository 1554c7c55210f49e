/- What dom's tree says: its list is one alone, and what is above is what dominates; what Above and Dominates answer. Condition: the function is one of a program that may be. -/
import Derived.Test.YtlolgahaphmfoaaNY
set_option linter.unusedSimpArgs false
set_option linter.unusedVariables false
namespace Go.Proofs.Ytlolgahaphmfoaa
open Go.RowKit

theorem calls_some {P : Program} {f : FuncId} {args : Array Value} {w : World} {R : Ending → World → Prop} (h : Calls P f args w R) : ∃ e w', R e w' := by
  obtain ⟨e, w', fr, hr, -⟩ := h []
  exact ⟨e, w', hr⟩
/-- The list of next aboves of a function. -/
def AbvOf (f : FunV) (A : List Int) : Prop := ∃ o, OrderOf f o ∧ Rest f.blocks.length (tnO o) (rO o) (fun b => prevN f (b : Int)) (Dmn f) A
/-- The block b is reached. -/
def Rch (f : FunV) (b : Nat) : Prop := ∃ o, OrderOf f o ∧ (b : Int) ∈ o
section
variable {f : FunV} {A : List Int} {a b : Nat}
theorem AbvOf.tr (h : AbvOf f A) : ∃ tn, Tr tn (inA A) (upA A) := by
  obtain ⟨o, -, hr⟩ := h
  exact ⟨_, hr.gi.tr⟩
theorem AbvOf.len (h : AbvOf f A) : A.length = f.blocks.length := by
  obtain ⟨o, -, hr⟩ := h
  exact hr.gi.len
theorem AbvOf.rch (h : AbvOf f A) (b : Nat) : inA A b ↔ Rch f b := by
  obtain ⟨o, ho, hr⟩ := h
  rw [hr.all]
  exact ⟨fun h => ⟨o, ho, h⟩, fun ⟨o', ho', h⟩ => by rw [ho.one ho']; exact h⟩
theorem AbvOf.neg (h : AbvOf f A) (b : Nat) (hb : inA A b) (h0 : b ≠ 0) : A.getD b (-1) = ((upA A b : Nat) : Int) := by
  obtain ⟨o, -, hr⟩ := h
  have := hr.gi.neg b (hb.resolve_left h0)
  unfold upA
  omega
theorem AbvOf.nneg (h : AbvOf f A) : ∀ b, A.getD b (-1) ≠ -1 → 0 ≤ A.getD b (-1) := by
  obtain ⟨o, -, hr⟩ := h
  exact hr.gi.neg
theorem AbvOf.zero (h : AbvOf f A) : A.getD 0 (-1) = -1 := by
  obtain ⟨o, -, hr⟩ := h
  exact hr.gi.z0
theorem AbvOf.lt (h : AbvOf f A) (h1 : 1 ≤ f.blocks.length) (b : Nat) (hb : inA A b) : b < A.length := by
  rw [h.len]
  rcases hb with rfl | hb
  · exact h1
  · rcases Nat.lt_or_ge b f.blocks.length with h4 | h4
    · exact h4
    · exact absurd (by rw [List.getD_eq_getElem?_getD, List.getElem?_eq_none (by rw [h.len]; exact h4)]; rfl) hb
theorem AbvOf.anc (hok : FlowOk f) (h1 : 1 ≤ f.blocks.length) (h : AbvOf f A) (ha : inA A a) (hb : inA A b) : Anc (upA A) a b ↔ Dmn f a b := by
  obtain ⟨o, ho, hr⟩ := h
  have g := gr_of hok h1 ho
  have hro := order_reach hok h1 ho
  constructor
  · intro hab
    by_cases he : a = b
    · exact .inl he
    · refine .inr fun hw => ?_
      have := hw (fun x => rO o x ∧ ¬ Anc (upA A) a x) (fun h0 => ⟨hro.zer, fun hz => h0 hz.zero⟩) (fun x v hx hv hva => by
        obtain ⟨hx1, hx2⟩ := hx
        have hvo : rO o v := hro.fwd x hx1 v (by simpa using hv)
        refine ⟨hvo, fun hav => ?_⟩
        cases hav with
        | refl => exact hva rfl
        | step hv0 hav =>
          have hj := hr.fix v hvo hv0
          have hxr := hro.rng x hx1
          have hxp : (x : Int) ∈ prevN f (v : Int) := (mem_prevN (by omega)).2 (by simpa using hv)
          rcases hj.spec hr.gi.tr (g.pp v) (.inl rfl) with ⟨-, -, hn⟩ | ⟨-, -, hs⟩
          · exact hn _ hxp (by simpa using (hr.all x).2 hx1)
          · have := ((hs (upA A v)).1 (by unfold upA; exact .refl)).2 x hxp (by simpa using (hr.all x).2 hx1)
            exact hx2 (hav.trans (by simpa using this)))
      exact this.2 hab
  · intro hd
    exact anc_of hr.gi.tr (g.d0 a) (fun c hc h0 hdc hne => hr.gi.dom c hc h0 a hdc hne) _ b (Nat.le_refl _) hb hd
theorem AbvOf.one (hok : FlowOk f) (h1 : 1 ≤ f.blocks.length) {A' : List Int} (h : AbvOf f A) (h' : AbvOf f A') : A = A' := by
  have hin : ∀ b, inA A b ↔ inA A' b := fun b => by rw [h.rch, h'.rch]
  have hanc : ∀ a b, inA A a → inA A b → (Anc (upA A) a b ↔ Anc (upA A') a b) := fun a b ha hb => by rw [h.anc hok h1 ha hb, h'.anc hok h1 ((hin a).1 ha) ((hin b).1 hb)]
  apply List.ext_getElem
  · rw [h.len, h'.len]
  · intro b hb hb'
    have e1 : A[b] = A.getD b (-1) := by simp [List.getD, hb]
    have e2 : A'[b] = A'.getD b (-1) := by simp [List.getD, hb']
    rw [e1, e2]
    by_cases h0 : b = 0
    · subst h0; rw [h.zero, h'.zero]
    · by_cases hI : inA A b
      · have hI' := (hin b).1 hI
        rw [h.neg b hI h0, h'.neg b hI' h0]
        obtain ⟨tn, ht⟩ := h.tr
        obtain ⟨tn', ht'⟩ := h'.tr
        have hu := ht.lt b hI h0
        have hu' := ht'.lt b hI' h0
        have k1 : Anc (upA A') (upA A b) b := (hanc _ _ hu.1 hI).1 (.step h0 .refl)
        have k2 : Anc (upA A) (upA A' b) b := (hanc _ _ ((hin _).2 hu'.1) hI).2 (.step h0 .refl)
        have n1 : upA A b ≠ b := fun e => by rw [e] at hu; omega
        have n2 : upA A' b ≠ b := fun e => by rw [e] at hu'; omega
        have k3 : Anc (upA A') (upA A b) (upA A' b) := by
          generalize upA A b = u at *
          cases k1 with
          | refl => exact absurd rfl n1
          | step _ h => exact h
        have k4 : Anc (upA A) (upA A' b) (upA A b) := by
          generalize upA A' b = u at *
          cases k2 with
          | refl => exact absurd rfl n2
          | step _ h => exact h
        have k5 := (hanc _ _ hu.1 ((hin _).2 hu'.1)).2 k3
        have := k5.eq ht ((hin _).2 hu'.1) (k4.le ht hu.1).2
        omega
      · have hI' : ¬ inA A' b := fun h => hI ((hin b).2 h)
        have e3 : A.getD b (-1) = -1 := Classical.byContradiction fun h => hI (.inr h)
        have e4 : A'.getD b (-1) = -1 := Classical.byContradiction fun h => hI' (.inr h)
        rw [e3, e4]
end
theorem AbvOf.ex {vk vb vs : Value} {f : FunV} {w : World} {B : Nat} (hB : B ≤ w.heap.size) (hi : FunI w (· < B) vk vb vs f) (hok : FlowOk f) (h1 : 1 ≤ f.blocks.length) : ∃ A, AbvOf f A := by
  obtain ⟨e, w', ga, gt, o, A, -, ho, -, -, -, -, hr, -⟩ := calls_some (grow_any vk vb vs f w B hB hi hok h1)
  exact ⟨A, o, ho, hr⟩
/-- What grow answers, the list known. -/
theorem dgrow_any (vk vb vs : Value) (f : FunV) (A : List Int) (hAf : AbvOf f A) (w : World) (B : Nat) (hB : B ≤ w.heap.size) (hi : FunI w (· < B) vk vb vs f) (hok : FlowOk f) (h1 : 1 ≤ f.blocks.length) :
    Calls Try.prog 43 #[.agg #[vk, vb, .int .i64 f.params, .int .i64 f.result, vs]] w fun e w' => ∃ ga gt tn, e = .returned (.agg #[.slice (some ⟨ga, 0, none⟩) f.blocks.length f.blocks.length, .slice (some ⟨gt, 0, none⟩) f.blocks.length f.blocks.length]) ∧
      AbW w' ga A ∧ TnW w' gt f.blocks.length tn ∧ w.heap.size ≤ ga ∧ w.heap.size ≤ gt ∧ Tr tn (inA A) (upA A) ∧ Below w.heap.size w w' := by
  refine (grow_any vk vb vs f w B hB hi hok h1).mono ?_
  rintro e w' ⟨ga, gt, o, A', rfl, ho, ha, ht, h2, h3, hr, hb⟩
  obtain rfl := hAf.one hok h1 ⟨o, ho, hr⟩
  exact ⟨ga, gt, _, rfl, ha, ht, h2, h3, hr.gi.tr, hb⟩
theorem field_tree0 (A B : Option Addr) (a b c d : Nat) (W : World) : (Instr.field 62 (.agg #[.slice A a b, .slice B c d]) 0).run Try.prog W = .ok (.slice A a b) W := by kernel_rfl
set_option maxHeartbeats 1000000 in
set_option maxRecDepth 100000 in
theorem dabove_any (vk vb vs : Value) (f : FunV) (A : List Int) (hAf : AbvOf f A) (w : World) (B : Nat) (hB : B ≤ w.heap.size) (hi : FunI w (· < B) vk vb vs f) (hok : FlowOk f) (h1 : 1 ≤ f.blocks.length) :
    Calls Try.prog 35 #[.agg #[vk, vb, .int .i64 f.params, .int .i64 f.result, vs]] w fun e w' => ∃ ga, e = .returned (.slice (some ⟨ga, 0, none⟩) f.blocks.length f.blocks.length) ∧ AbW w' ga A ∧ w.heap.size ≤ ga ∧ Below w.heap.size w w' := by
  have HGR := hide (fun (W : World) (hW : Below w.heap.size w W) => dgrow_any vk vb vs f A hAf W B (by have := hW.size; omega) (hi.keep (up hW hB) (fun _ h => h)) hok h1)
  obtain ⟨Ak, ck, rfl, hck, hmk⟩ := hi.1.open'
  obtain ⟨Ab, cb, rfl, hcb, hmb⟩ := hi.2.1.open'
  obtain ⟨As, cs, rfl, hcs, hms⟩ := hi.2.2.1.open'
  generalize f.kinds.length = lk, f.base.length = lb, f.blocks.length = ls, f.params = fp, f.result = fr at *
  clear hi hok
  have hfd := field_tree0
  go_enter Try.func35, Try.ntmps35
  go_upto_region 1 with (fail)
  obtain ⟨w1, hw1⟩ : ∃ w1, w1 = w.alloc (.cells #[.slice Ak lk ck, .slice Ab lb cb, .int .i64 fp, .int .i64 fr, .slice As ls cs] 30) := ⟨_, rfl⟩
  have HX1 := hide (show Box w1 w.heap.size #[.slice Ak lk ck, .slice Ab lb cb, .int .i64 fp, .int .i64 fr, .slice As ls cs] 30 by rw [hw1]; exact Box.new w _ _)
  have HB1 := hide (show Below w.heap.size w w1 by rw [hw1]; exact alloc1 w _)
  rw [← hw1]
  clear hw1
  have l1 := HX1.out.lt
  have c0 := (HX1.out.cell 0 (v := .slice Ak lk ck) rfl).1
  have c1 := (HX1.out.cell 1 (v := .slice Ab lb cb) rfl).1
  have c2 := (HX1.out.cell 2 (v := .int .i64 fp) rfl).1
  have c3 := (HX1.out.cell 3 (v := .int .i64 fr) rfl).1
  have c4 := (HX1.out.cell 4 (v := .slice As ls cs) rfl).1
  go_wp2_with (go_at_call 43; refine (HGR.out w1 HB1.out).mono ?_; rintro e w2 ⟨ga, gt, tn, rfl, ha, -, h2, -, -, hb2⟩)
  go_ret
  exact ⟨ga, rfl, ha, by have := HB1.out.size; omega, HB1.out.trans (hb2.mono HB1.out.size)⟩
/-- Does a dominate b, by the list? -/
def domQ (A : List Int) (a b : Int) : Prop := hasA A a = true ∧ hasA A b = true ∧ Anc (upA A) a.toNat b.toNat
set_option maxHeartbeats 1000000 in
set_option maxRecDepth 100000 in
theorem ddom_any (vk vb vs : Value) (f : FunV) (A : List Int) (hAf : AbvOf f A) (a b : Int) (w : World) (B : Nat) (hB : B ≤ w.heap.size) (hi : FunI w (· < B) vk vb vs f) (hok : FlowOk f) (h1 : 1 ≤ f.blocks.length) :
    Calls Try.prog 26 #[.agg #[vk, vb, .int .i64 f.params, .int .i64 f.result, vs], .int .i64 a, .int .i64 b] w fun e w' => ∃ d, e = .returned (.bool d) ∧ (d = true ↔ domQ A a b) ∧ Below w.heap.size w w' := by
  have HGR := hide (fun (W : World) (hW : Below w.heap.size w W) => dgrow_any vk vb vs f A hAf W B (by have := hW.size; omega) (hi.keep (up hW hB) (fun _ h => h)) hok h1)
  have HHS := hide (fun (W : World) (z : Int) (ga gt : Nat) (h : AbW W ga A) => dhas_any A z ga gt f.blocks.length W h hAf.len h1)
  have HMT := hide (fun (W : World) (tn : Nat → Nat) (x y m : Nat) (ga gt : Nat) (h : AbW W ga A) (ht : TnW W gt f.blocks.length tn) (htr : Tr tn (inA A) (upA A)) hx hy hm => dmeet_any A tn x y m ga gt f.blocks.length W h hAf.len hok.1 ht htr hAf.nneg (fun b hb => by have := hAf.lt h1 b hb; rw [hAf.len] at this; exact this) hx hy hm)
  have HIF := hide (fun (z : Int) (hz : hasA A z = true) => (show 0 ≤ z ∧ inA A z.toNat by
    have hz0 : 0 ≤ z := by unfold hasA at hz; rw [decide_eq_true_iff] at hz; omega
    exact ⟨hz0, (hasA_iff (by rw [hAf.len]; exact h1) hz0).1 hz⟩))
  obtain ⟨Ak, ck, rfl, hck, hmk⟩ := hi.1.open'
  obtain ⟨Ab, cb, rfl, hcb, hmb⟩ := hi.2.1.open'
  obtain ⟨As, cs, rfl, hcs, hms⟩ := hi.2.2.1.open'
  generalize f.kinds.length = lk, f.base.length = lb, f.blocks.length = ls, f.params = fp, f.result = fr at *
  clear hi hok hAf
  go_enter Try.func26, Try.ntmps26
  go_upto_region 1 with (fail)
  obtain ⟨w1, hw1⟩ : ∃ w1, w1 = w.alloc (.cells #[.slice Ak lk ck, .slice Ab lb cb, .int .i64 fp, .int .i64 fr, .slice As ls cs] 30) := ⟨_, rfl⟩
  have HX1 := hide (show Box w1 w.heap.size #[.slice Ak lk ck, .slice Ab lb cb, .int .i64 fp, .int .i64 fr, .slice As ls cs] 30 by rw [hw1]; exact Box.new w _ _)
  have HB1 := hide (show Below w.heap.size w w1 by rw [hw1]; exact alloc1 w _)
  rw [← hw1]
  clear hw1
  have l1 := HX1.out.lt
  have c0 := (HX1.out.cell 0 (v := .slice Ak lk ck) rfl).1
  have c1 := (HX1.out.cell 1 (v := .slice Ab lb cb) rfl).1
  have c2 := (HX1.out.cell 2 (v := .int .i64 fp) rfl).1
  have c3 := (HX1.out.cell 3 (v := .int .i64 fr) rfl).1
  have c4 := (HX1.out.cell 4 (v := .slice As ls cs) rfl).1
  go_upto_region 2 with (go_at_call 43; refine (HGR.out w1 HB1.out).mono ?_; rintro e w2 ⟨ga, gt, tn, rfl, ha, ht, h2, h3, htr, hb2⟩; have HA2 := hide ha; have HT2 := hide ht; have HTR := hide htr; have HB2 := hide (HB1.out.trans (hb2.mono HB1.out.size)); clear ha ht hb2 htr)
  obtain ⟨w3, hw3⟩ : ∃ w3, w3 = w2.alloc (.cells #[.slice (some ⟨ga, 0, none⟩) ls ls, .slice (some ⟨gt, 0, none⟩) ls ls] 62) := ⟨_, rfl⟩
  obtain ⟨g3, hg3⟩ : ∃ g3, w2.heap.size = g3 := ⟨_, rfl⟩
  have HX3 := hide (show Box w3 g3 #[.slice (some ⟨ga, 0, none⟩) ls ls, .slice (some ⟨gt, 0, none⟩) ls ls] 62 by rw [hw3, ← hg3]; exact Box.new w2 _ _)
  have HA3 := hide (show AbW w3 ga A by rw [hw3]; exact Box.alloc HA2.out _)
  have HT3 := hide (show TnW w3 gt ls tn by rw [hw3]; exact Box.alloc HT2.out _)
  have HB3 := hide (show Below w.heap.size w w3 by rw [hw3]; exact HB2.out.alloc HB2.out.size _)
  rw [← hw3, hg3]
  clear hw3 hg3 c0 c1 c2 c3 c4 l1
  have l3 := HX3.out.lt
  have e0 := (HX3.out.cell 0 (v := .slice (some ⟨ga, 0, none⟩) ls ls) rfl).1
  have e1 := (HX3.out.cell 1 (v := .slice (some ⟨gt, 0, none⟩) ls ls) rfl).1
  have HC1 := hide (HHS.out w3 a ga gt HA3.out)
  have HC2 := hide (fun (W : World) (hW : Below w3.heap.size w3 W) => HHS.out W b ga gt (HA3.out.below hW))
  have HK := hide (fun (W : World) (hW : Below w3.heap.size w3 W) => (HX3.out.below hW))
  cases ha : hasA A a with
  | false =>
    rw [ha] at HC1
    go_wp2_with (go_at_call 44; refine (HC1.out).mono ?_; rintro e w4 ⟨rfl, hb4⟩)
    go_ret
    exact ⟨false, rfl, by simp [domQ, ha], HB3.out.trans (hb4.mono HB3.out.size)⟩
  | true =>
    rw [ha] at HC1
    cases hb : hasA A b with
    | false =>
      rw [hb] at HC2
      go_wp2_with (first
        | (go_at_call 44; refine (HC2.out w4 HC4.out).mono ?_; rintro e w5 ⟨rfl, hb5⟩)
        | (go_at_call 44; refine (HC1.out).mono ?_; rintro e w4 ⟨rfl, hb4⟩; have HC4 := hide hb4; have hx := HK.out w4 hb4; have l4 := hx.lt; have f0 := (hx.cell 0 (v := .slice (some ⟨ga, 0, none⟩) ls ls) rfl).1; have f1 := (hx.cell 1 (v := .slice (some ⟨gt, 0, none⟩) ls ls) rfl).1; clear hx hb4))
      go_ret
      exact ⟨false, rfl, by simp [domQ, hb], HB3.out.trans ((HC4.out.trans (hb5.mono HC4.out.size)).mono HB3.out.size)⟩
    | true =>
      rw [hb] at HC2
      obtain ⟨ha0, haI⟩ := HIF.out a ha
      obtain ⟨hb0, hbI⟩ := HIF.out b hb
      obtain ⟨x, rfl⟩ : ∃ x : Nat, a = x := ⟨a.toNat, by omega⟩
      obtain ⟨y, rfl⟩ : ∃ y : Nat, b = y := ⟨b.toNat, by omega⟩
      simp only [Int.toNat_natCast] at haI hbI
      obtain ⟨m, hm⟩ := MeetR.all HTR.out _ x y (Nat.le_refl _) haI hbI
      have hq : (m : Int) = (x : Int) ↔ domQ A x y := by
        obtain ⟨s1, s2⟩ := hm.spec HTR.out haI hbI
        simp only [domQ, Int.toNat_natCast]
        constructor
        · intro e
          have e : m = x := by omega
          subst e
          exact ⟨ha, hb, ((s2 m).1 .refl).2⟩
        · rintro ⟨-, -, h⟩
          have k1 := (s2 x).2 ⟨.refl, h⟩
          have k2 := ((s2 m).1 .refl).1
          have := k1.eq HTR.out s1 (k2.le HTR.out haI).2
          omega
      have HC3 := hide (fun (W : World) (hW : Below w3.heap.size w3 W) => HMT.out W tn x y m ga gt (HA3.out.below hW) (HT3.out.below hW) HTR.out haI hbI hm)
      have HQ := hide hq
      clear hq hm haI hbI ha0 hb0 ha hb
      go_wp2_with (first
        | (go_at_call 45; refine (HC3.out w5 HC5.out).mono ?_; rintro e w6 ⟨rfl, hb6⟩)
        | (go_at_call 44; refine (HC2.out w4 HC4.out).mono ?_; rintro e w5 ⟨rfl, hb5⟩; have HC5 := hide (HC4.out.trans (hb5.mono HC4.out.size)); have hx := HK.out w5 HC5.out; have l5 := hx.lt; have g0 := (hx.cell 0 (v := .slice (some ⟨ga, 0, none⟩) ls ls) rfl).1; have g1 := (hx.cell 1 (v := .slice (some ⟨gt, 0, none⟩) ls ls) rfl).1; clear hx hb5)
        | (go_at_call 44; refine (HC1.out).mono ?_; rintro e w4 ⟨rfl, hb4⟩; have HC4 := hide hb4; have hx := HK.out w4 hb4; have l4 := hx.lt; have f0 := (hx.cell 0 (v := .slice (some ⟨ga, 0, none⟩) ls ls) rfl).1; have f1 := (hx.cell 1 (v := .slice (some ⟨gt, 0, none⟩) ls ls) rfl).1; clear hx hb4))
      go_ret
      refine ⟨_, rfl, ?_, HB3.out.trans ((HC5.out.trans (hb6.mono HC5.out.size)).mono HB3.out.size)⟩
      rw [← HQ.out]
      first | (simp; done) | (simp; omega)
end Go.Proofs.Ytlolgahaphmfoaa
namespace Go.Proofs.Ytlolgahaphmfoaa
open Go.RowKit

/-- Where two blocks meet, by the list. -/
def meetZ (A : List Int) (a b m : Int) : Prop := (hasA A a = true ∧ hasA A b = true ∧ ∃ k : Nat, m = k ∧ inA A k ∧ ∀ x, Anc (upA A) x k ↔ Anc (upA A) x a.toNat ∧ Anc (upA A) x b.toNat) ∨ (¬ (hasA A a = true ∧ hasA A b = true) ∧ m = -1)
def kidsTo (A : List Int) (b : Int) (k : Nat) : List Int := ((List.range k).filter (fun i => A.getD i (-1) == b)).map (fun i : Nat => (i : Int))
def kidsL (A : List Int) (b : Int) : List Int := if hasA A b = true then kidsTo A b A.length else []
theorem kidsTo_yes {A : List Int} {b : Int} {k : Nat} (h : A.getD k (-1) = b) : kidsTo A b k ++ [(k : Int)] = kidsTo A b (k + 1) := by
  unfold kidsTo
  rw [List.range_succ, List.filter_append, List.map_append]
  simp only [List.getD_eq_getElem?_getD] at h
  simp [h]
theorem kidsTo_no {A : List Int} {b : Int} {k : Nat} (h : ¬ A.getD k (-1) = b) : kidsTo A b k = kidsTo A b (k + 1) := by
  unfold kidsTo
  rw [List.range_succ, List.filter_append, List.map_append]
  simp only [List.getD_eq_getElem?_getD] at h
  simp [h]
theorem kidsTo_len (A : List Int) (b : Int) (k : Nat) : (kidsTo A b k).length ≤ k := by
  unfold kidsTo
  rw [List.length_map]
  exact Nat.le_trans (List.length_filter_le _ _) (by simp)
end Go.Proofs.Ytlolgahaphmfoaa
namespace Go.Proofs.Ytlolgahaphmfoaa
open Go.RowKit

theorem p5_p1 : prevN P5 1 = [0] := by decide
theorem p5_p2 : prevN P5 2 = [0] := by decide
theorem p5_abv {A : List Int} (h : AbvOf P5 A) : A = [-1, 0, 0, 0] := by
  obtain ⟨o, ho, hr⟩ := h
  obtain rfl := ho.one p5_order
  have hl : A.length = 4 := hr.gi.len
  have h0 := hr.gi.z0
  have ht := hr.gi.tr
  have hin : ∀ b : Nat, b < 4 → inA A b := fun b hb => (hr.all b).2 (by
    unfold rO
    have : b = 0 ∨ b = 1 ∨ b = 2 ∨ b = 3 := by omega
    rcases this with rfl | rfl | rfl | rfl <;> decide)
  have hR : ∀ b : Nat, b < 4 → rO [0, 2, 1, 3] b := fun b hb => (hr.all b).1 (hin b hb)
  have f1 := hr.fix 1 (hR 1 (by omega)) (by omega)
  have f2 := hr.fix 2 (hR 2 (by omega)) (by omega)
  have f3 := hr.fix 3 (hR 3 (by omega)) (by omega)
  simp only [joinA] at f1 f2 f3
  rw [show ((1 : Nat) : Int) = 1 from rfl, p5_p1] at f1
  rw [show ((2 : Nat) : Int) = 2 from rfl, p5_p2] at f2
  rw [show ((3 : Nat) : Int) = 3 from rfl, p5_prev] at f3
  have e1 : A.getD 1 (-1) = 0 := by
    generalize A.getD 1 (-1) = r at f1
    cases f1 with
    | skip h _ => exact absurd (hin 0 (by omega)) (by simpa using h)
    | first _ h => cases h; rfl
    | more _ h _ _ => exact absurd rfl h
  have e2 : A.getD 2 (-1) = 0 := by
    generalize A.getD 2 (-1) = r at f2
    cases f2 with
    | skip h _ => exact absurd (hin 0 (by omega)) (by simpa using h)
    | first _ h => cases h; rfl
    | more _ h _ _ => exact absurd rfl h
  have u1 : upA A 1 = 0 := by unfold upA; rw [e1]; rfl
  have e3 : A.getD 3 (-1) = 0 := by
    generalize A.getD 3 (-1) = r at f3
    cases f3 with
    | skip h _ => exact absurd (hin 1 (by omega)) (by simpa using h)
    | more _ h _ _ => exact absurd rfl h
    | first _ h =>
      cases h with
      | skip h _ => exact absurd (hin 2 (by omega)) (by simpa using h)
      | @more _ _ _ _ m _ _ hm h =>
        cases h
        obtain ⟨-, s2⟩ := hm.spec ht (by simpa using hin 1 (by omega)) (by simpa using hin 2 (by omega))
        obtain ⟨k1, k2⟩ := (s2 m).1 .refl
        simp only [Int.reduceToNat] at k1 k2
        have hm1 : m = 1 ∨ m = 0 := by
          cases k1 with
          | refl => exact .inl rfl
          | step _ h => rw [u1] at h; exact .inr h.zero
        rcases hm1 with rfl | rfl
        · exfalso
          cases k2 with
          | step _ h =>
            have u2 : upA A 2 = 0 := by unfold upA; rw [e2]; rfl
            rw [u2] at h
            have := h.zero
            omega
        · rfl
  apply List.ext_getElem
  · rw [hl]; rfl
  · intro i hi _
    have e : A[i] = A.getD i (-1) := by simp [List.getD, hi]
    rw [e]
    have : i = 0 ∨ i = 1 ∨ i = 2 ∨ i = 3 := by omega
    rcases this with rfl | rfl | rfl | rfl
    · exact h0
    · exact e1
    · exact e2
    · exact e3
theorem p5_q (A : List Int) (h : A = [-1, 0, 0, 0]) : domQ A 0 3 ∧ ¬ domQ A 1 3 ∧ ∀ m, meetZ A 1 3 m → m = 0 := by
  subst h
  have u1 : upA [-1, 0, 0, 0] 1 = 0 := rfl
  have u3 : upA [-1, 0, 0, 0] 3 = 0 := rfl
  have n13 : ¬ Anc (upA [-1, 0, 0, 0]) 1 3 := fun h => by
    cases h with
    | step _ h => rw [u3] at h; have := h.zero; omega
  refine ⟨⟨by decide, by decide, .step (by decide) (by rw [show (3 : Int).toNat = 3 from rfl, u3]; exact .refl)⟩, fun h => n13 h.2.2, fun m hm => ?_⟩
  rcases hm with ⟨-, -, k, rfl, hk, hs⟩ | ⟨hn, -⟩
  · obtain ⟨k1, k2⟩ := (hs k).1 .refl
    rw [show (1 : Int).toNat = 1 from rfl] at k1
    cases k1 with
    | refl => exact absurd k2 n13
    | step _ h => rw [u1] at h; have := h.zero; omega
  · exact absurd ⟨by decide, by decide⟩ hn
/-- A block of numbers that is known whole, as a slice of numbers. -/
theorem AbW.ints {w : World} {g n : Nat} {A : List Int} (h : AbW w g A) (hn : A.length = n) (hm : n ≤ 1000) (hr : ∀ z ∈ A, i64R z) : IntsV w (· < w.heap.size) (.slice (some ⟨g, 0, none⟩) n n) A := by
  subst hn
  have hs : Sl w w.heap.size .i64 (some ⟨g, 0, none⟩) A := fun hp => ⟨g, 0, rfl, Box.lt h, fun j hj => by
    rw [Nat.zero_add]
    have := (Box.cell h j (v := .int .i64 (A.getD j 0)) (by simp [List.getD, hj])).1
    exact this⟩
  exact hs.vec (Nat.le_refl _) (by omega) hr
end Go.Proofs.Ytlolgahaphmfoaa
