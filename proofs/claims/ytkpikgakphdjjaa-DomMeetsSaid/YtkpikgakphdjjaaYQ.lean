/- What dom's tree says: its list is one alone, and what is above is what dominates; what Above and Dominates answer. Condition: the function is one of a program that may be. -/
import Derived.Test.YtkpikgakphdjjaaYI
set_option linter.unusedSimpArgs false
set_option linter.unusedVariables false
namespace Go.Proofs.Ytkpikgakphdjjaa
open Go.RowKit

theorem calls_some {P : Program} {f : FuncId} {args : Array Value} {w : World} {R : Ending → World → Prop} (h : Calls P f args w R) : ∃ e w', R e w' := by
  obtain ⟨e, w', fr, hr, -⟩ := h []
  exact ⟨e, w', hr⟩
/-- The list of next aboves of a function. -/
def AbvOf (f : FunV) (A : List Int) : Prop := ∃ o, OrderOf f o ∧ Rest f.blocks.length (tnO o) (rO o) (fun b => prevN f (b : Int)) (Dmn f) A
/-- The block b is reached. -/
def Rch (f : FunV) (b : Nat) : Prop := ∃ o, OrderOf f o ∧ (b : Int) ∈ o
section
variable {f : FunV} {A : List Int} {a b : Nat}
theorem AbvOf.tr (h : AbvOf f A) : ∃ tn, Tr tn (inA A) (upA A) := by
  obtain ⟨o, -, hr⟩ := h
  exact ⟨_, hr.gi.tr⟩
theorem AbvOf.len (h : AbvOf f A) : A.length = f.blocks.length := by
  obtain ⟨o, -, hr⟩ := h
  exact hr.gi.len
theorem AbvOf.rch (h : AbvOf f A) (b : Nat) : inA A b ↔ Rch f b := by
  obtain ⟨o, ho, hr⟩ := h
  rw [hr.all]
  exact ⟨fun h => ⟨o, ho, h⟩, fun ⟨o', ho', h⟩ => by rw [ho.one ho']; exact h⟩
theorem AbvOf.neg (h : AbvOf f A) (b : Nat) (hb : inA A b) (h0 : b ≠ 0) : A.getD b (-1) = ((upA A b : Nat) : Int) := by
  obtain ⟨o, -, hr⟩ := h
  have := hr.gi.neg b (hb.resolve_left h0)
  unfold upA
  omega
theorem AbvOf.nneg (h : AbvOf f A) : ∀ b, A.getD b (-1) ≠ -1 → 0 ≤ A.getD b (-1) := by
  obtain ⟨o, -, hr⟩ := h
  exact hr.gi.neg
theorem AbvOf.zero (h : AbvOf f A) : A.getD 0 (-1) = -1 := by
  obtain ⟨o, -, hr⟩ := h
  exact hr.gi.z0
theorem AbvOf.lt (h : AbvOf f A) (h1 : 1 ≤ f.blocks.length) (b : Nat) (hb : inA A b) : b < A.length := by
  rw [h.len]
  rcases hb with rfl | hb
  · exact h1
  · rcases Nat.lt_or_ge b f.blocks.length with h4 | h4
    · exact h4
    · exact absurd (by rw [List.getD_eq_getElem?_getD, List.getElem?_eq_none (by rw [h.len]; exact h4)]; rfl) hb
theorem AbvOf.anc (hok : FlowOk f) (h1 : 1 ≤ f.blocks.length) (h : AbvOf f A) (ha : inA A a) (hb : inA A b) : Anc (upA A) a b ↔ Dmn f a b := by
  obtain ⟨o, ho, hr⟩ := h
  have g := gr_of hok h1 ho
  have hro := order_reach hok h1 ho
  constructor
  · intro hab
    by_cases he : a = b
    · exact .inl he
    · refine .inr fun hw => ?_
      have := hw (fun x => rO o x ∧ ¬ Anc (upA A) a x) (fun h0 => ⟨hro.zer, fun hz => h0 hz.zero⟩) (fun x v hx hv hva => by
        obtain ⟨hx1, hx2⟩ := hx
        have hvo : rO o v := hro.fwd x hx1 v (by simpa using hv)
        refine ⟨hvo, fun hav => ?_⟩
        cases hav with
        | refl => exact hva rfl
        | step hv0 hav =>
          have hj := hr.fix v hvo hv0
          have hxr := hro.rng x hx1
          have hxp : (x : Int) ∈ prevN f (v : Int) := (mem_prevN (by omega)).2 (by simpa using hv)
          rcases hj.spec hr.gi.tr (g.pp v) (.inl rfl) with ⟨-, -, hn⟩ | ⟨-, -, hs⟩
          · exact hn _ hxp (by simpa using (hr.all x).2 hx1)
          · have := ((hs (upA A v)).1 (by unfold upA; exact .refl)).2 x hxp (by simpa using (hr.all x).2 hx1)
            exact hx2 (hav.trans (by simpa using this)))
      exact this.2 hab
  · intro hd
    exact anc_of hr.gi.tr (g.d0 a) (fun c hc h0 hdc hne => hr.gi.dom c hc h0 a hdc hne) _ b (Nat.le_refl _) hb hd
theorem AbvOf.one (hok : FlowOk f) (h1 : 1 ≤ f.blocks.length) {A' : List Int} (h : AbvOf f A) (h' : AbvOf f A') : A = A' := by
  have hin : ∀ b, inA A b ↔ inA A' b := fun b => by rw [h.rch, h'.rch]
  have hanc : ∀ a b, inA A a → inA A b → (Anc (upA A) a b ↔ Anc (upA A') a b) := fun a b ha hb => by rw [h.anc hok h1 ha hb, h'.anc hok h1 ((hin a).1 ha) ((hin b).1 hb)]
  apply List.ext_getElem
  · rw [h.len, h'.len]
  · intro b hb hb'
    have e1 : A[b] = A.getD b (-1) := by simp [List.getD, hb]
    have e2 : A'[b] = A'.getD b (-1) := by simp [List.getD, hb']
    rw [e1, e2]
    by_cases h0 : b = 0
    · subst h0; rw [h.zero, h'.zero]
    · by_cases hI : inA A b
      · have hI' := (hin b).1 hI
        rw [h.neg b hI h0, h'.neg b hI' h0]
        obtain ⟨tn, ht⟩ := h.tr
        obtain ⟨tn', ht'⟩ := h'.tr
        have hu := ht.lt b hI h0
        have hu' := ht'.lt b hI' h0
        have k1 : Anc (upA A') (upA A b) b := (hanc _ _ hu.1 hI).1 (.step h0 .refl)
        have k2 : Anc (upA A) (upA A' b) b := (hanc _ _ ((hin _).2 hu'.1) hI).2 (.step h0 .refl)
        have n1 : upA A b ≠ b := fun e => by rw [e] at hu; omega
        have n2 : upA A' b ≠ b := fun e => by rw [e] at hu'; omega
        have k3 : Anc (upA A') (upA A b) (upA A' b) := by
          generalize upA A b = u at *
          cases k1 with
          | refl => exact absurd rfl n1
          | step _ h => exact h
        have k4 : Anc (upA A) (upA A' b) (upA A b) := by
          generalize upA A' b = u at *
          cases k2 with
          | refl => exact absurd rfl n2
          | step _ h => exact h
        have k5 := (hanc _ _ hu.1 ((hin _).2 hu'.1)).2 k3
        have := k5.eq ht ((hin _).2 hu'.1) (k4.le ht hu.1).2
        omega
      · have hI' : ¬ inA A' b := fun h => hI ((hin b).2 h)
        have e3 : A.getD b (-1) = -1 := Classical.byContradiction fun h => hI (.inr h)
        have e4 : A'.getD b (-1) = -1 := Classical.byContradiction fun h => hI' (.inr h)
        rw [e3, e4]
end
theorem AbvOf.ex {vk vb vs : Value} {f : FunV} {w : World} {B : Nat} (hB : B ≤ w.heap.size) (hi : FunI w (· < B) vk vb vs f) (hok : FlowOk f) (h1 : 1 ≤ f.blocks.length) : ∃ A, AbvOf f A := by
  obtain ⟨e, w', ga, gt, o, A, -, ho, -, -, -, -, hr, -⟩ := calls_some (grow_any vk vb vs f w B hB hi hok h1)
  exact ⟨A, o, ho, hr⟩
/-- What grow answers, the list known. -/
theorem dgrow_any (vk vb vs : Value) (f : FunV) (A : List Int) (hAf : AbvOf f A) (w : World) (B : Nat) (hB : B ≤ w.heap.size) (hi : FunI w (· < B) vk vb vs f) (hok : FlowOk f) (h1 : 1 ≤ f.blocks.length) :
    Calls Try.prog 39 #[.agg #[vk, vb, .int .i64 f.params, .int .i64 f.result, vs]] w fun e w' => ∃ ga gt tn, e = .returned (.agg #[.slice (some ⟨ga, 0, none⟩) f.blocks.length f.blocks.length, .slice (some ⟨gt, 0, none⟩) f.blocks.length f.blocks.length]) ∧
      AbW w' ga A ∧ TnW w' gt f.blocks.length tn ∧ w.heap.size ≤ ga ∧ w.heap.size ≤ gt ∧ Tr tn (inA A) (upA A) ∧ Below w.heap.size w w' := by
  refine (grow_any vk vb vs f w B hB hi hok h1).mono ?_
  rintro e w' ⟨ga, gt, o, A', rfl, ho, ha, ht, h2, h3, hr, hb⟩
  obtain rfl := hAf.one hok h1 ⟨o, ho, hr⟩
  exact ⟨ga, gt, _, rfl, ha, ht, h2, h3, hr.gi.tr, hb⟩
theorem field_tree0 (A B : Option Addr) (a b c d : Nat) (W : World) : (Instr.field 58 (.agg #[.slice A a b, .slice B c d]) 0).run Try.prog W = .ok (.slice A a b) W := by kernel_rfl
set_option maxHeartbeats 1000000 in
set_option maxRecDepth 100000 in
theorem dabove_any (vk vb vs : Value) (f : FunV) (A : List Int) (hAf : AbvOf f A) (w : World) (B : Nat) (hB : B ≤ w.heap.size) (hi : FunI w (· < B) vk vb vs f) (hok : FlowOk f) (h1 : 1 ≤ f.blocks.length) :
    Calls Try.prog 24 #[.agg #[vk, vb, .int .i64 f.params, .int .i64 f.result, vs]] w fun e w' => ∃ ga, e = .returned (.slice (some ⟨ga, 0, none⟩) f.blocks.length f.blocks.length) ∧ AbW w' ga A ∧ w.heap.size ≤ ga ∧ Below w.heap.size w w' := by
  have HGR := hide (fun (W : World) (hW : Below w.heap.size w W) => dgrow_any vk vb vs f A hAf W B (by have := hW.size; omega) (hi.keep (up hW hB) (fun _ h => h)) hok h1)
  obtain ⟨Ak, ck, rfl, hck, hmk⟩ := hi.1.open'
  obtain ⟨Ab, cb, rfl, hcb, hmb⟩ := hi.2.1.open'
  obtain ⟨As, cs, rfl, hcs, hms⟩ := hi.2.2.1.open'
  generalize f.kinds.length = lk, f.base.length = lb, f.blocks.length = ls, f.params = fp, f.result = fr at *
  clear hi hok
  have hfd := field_tree0
  go_enter Try.func24, Try.ntmps24
  go_upto_region 1 with (fail)
  obtain ⟨w1, hw1⟩ : ∃ w1, w1 = w.alloc (.cells #[.slice Ak lk ck, .slice Ab lb cb, .int .i64 fp, .int .i64 fr, .slice As ls cs] 30) := ⟨_, rfl⟩
  have HX1 := hide (show Box w1 w.heap.size #[.slice Ak lk ck, .slice Ab lb cb, .int .i64 fp, .int .i64 fr, .slice As ls cs] 30 by rw [hw1]; exact Box.new w _ _)
  have HB1 := hide (show Below w.heap.size w w1 by rw [hw1]; exact alloc1 w _)
  rw [← hw1]
  clear hw1
  have l1 := HX1.out.lt
  have c0 := (HX1.out.cell 0 (v := .slice Ak lk ck) rfl).1
  have c1 := (HX1.out.cell 1 (v := .slice Ab lb cb) rfl).1
  have c2 := (HX1.out.cell 2 (v := .int .i64 fp) rfl).1
  have c3 := (HX1.out.cell 3 (v := .int .i64 fr) rfl).1
  have c4 := (HX1.out.cell 4 (v := .slice As ls cs) rfl).1
  go_wp2_with (go_at_call 39; refine (HGR.out w1 HB1.out).mono ?_; rintro e w2 ⟨ga, gt, tn, rfl, ha, -, h2, -, -, hb2⟩)
  go_ret
  exact ⟨ga, rfl, ha, by have := HB1.out.size; omega, HB1.out.trans (hb2.mono HB1.out.size)⟩
/-- Does a dominate b, by the list? -/
def domQ (A : List Int) (a b : Int) : Prop := hasA A a = true ∧ hasA A b = true ∧ Anc (upA A) a.toNat b.toNat
set_option maxHeartbeats 1000000 in
set_option maxRecDepth 100000 in
theorem ddom_any (vk vb vs : Value) (f : FunV) (A : List Int) (hAf : AbvOf f A) (a b : Int) (w : World) (B : Nat) (hB : B ≤ w.heap.size) (hi : FunI w (· < B) vk vb vs f) (hok : FlowOk f) (h1 : 1 ≤ f.blocks.length) :
    Calls Try.prog 18 #[.agg #[vk, vb, .int .i64 f.params, .int .i64 f.result, vs], .int .i64 a, .int .i64 b] w fun e w' => ∃ d, e = .returned (.bool d) ∧ (d = true ↔ domQ A a b) ∧ Below w.heap.size w w' := by
  have HGR := hide (fun (W : World) (hW : Below w.heap.size w W) => dgrow_any vk vb vs f A hAf W B (by have := hW.size; omega) (hi.keep (up hW hB) (fun _ h => h)) hok h1)
  have HHS := hide (fun (W : World) (z : Int) (ga gt : Nat) (h : AbW W ga A) => dhas_any A z ga gt f.blocks.length W h hAf.len h1)
  have HMT := hide (fun (W : World) (tn : Nat → Nat) (x y m : Nat) (ga gt : Nat) (h : AbW W ga A) (ht : TnW W gt f.blocks.length tn) (htr : Tr tn (inA A) (upA A)) hx hy hm => dmeet_any A tn x y m ga gt f.blocks.length W h hAf.len hok.1 ht htr hAf.nneg (fun b hb => by have := hAf.lt h1 b hb; rw [hAf.len] at this; exact this) hx hy hm)
  have HIF := hide (fun (z : Int) (hz : hasA A z = true) => (show 0 ≤ z ∧ inA A z.toNat by
    have hz0 : 0 ≤ z := by unfold hasA at hz; rw [decide_eq_true_iff] at hz; omega
    exact ⟨hz0, (hasA_iff (by rw [hAf.len]; exact h1) hz0).1 hz⟩))
  obtain ⟨Ak, ck, rfl, hck, hmk⟩ := hi.1.open'
  obtain ⟨Ab, cb, rfl, hcb, hmb⟩ := hi.2.1.open'
  obtain ⟨As, cs, rfl, hcs, hms⟩ := hi.2.2.1.open'
  generalize f.kinds.length = lk, f.base.length = lb, f.blocks.length = ls, f.params = fp, f.result = fr at *
  clear hi hok hAf
  go_enter Try.func18, Try.ntmps18
  go_upto_region 1 with (fail)
  obtain ⟨w1, hw1⟩ : ∃ w1, w1 = w.alloc (.cells #[.slice Ak lk ck, .slice Ab lb cb, .int .i64 fp, .int .i64 fr, .slice As ls cs] 30) := ⟨_, rfl⟩
  have HX1 := hide (show Box w1 w.heap.size #[.slice Ak lk ck, .slice Ab lb cb, .int .i64 fp, .int .i64 fr, .slice As ls cs] 30 by rw [hw1]; exact Box.new w _ _)
  have HB1 := hide (show Below w.heap.size w w1 by rw [hw1]; exact alloc1 w _)
  rw [← hw1]
  clear hw1
  have l1 := HX1.out.lt
  have c0 := (HX1.out.cell 0 (v := .slice Ak lk ck) rfl).1
  have c1 := (HX1.out.cell 1 (v := .slice Ab lb cb) rfl).1
  have c2 := (HX1.out.cell 2 (v := .int .i64 fp) rfl).1
  have c3 := (HX1.out.cell 3 (v := .int .i64 fr) rfl).1
  have c4 := (HX1.out.cell 4 (v := .slice As ls cs) rfl).1
  go_upto_region 2 with (go_at_call 39; refine (HGR.out w1 HB1.out).mono ?_; rintro e w2 ⟨ga, gt, tn, rfl, ha, ht, h2, h3, htr, hb2⟩; have HA2 := hide ha; have HT2 := hide ht; have HTR := hide htr; have HB2 := hide (HB1.out.trans (hb2.mono HB1.out.size)); clear ha ht hb2 htr)
  obtain ⟨w3, hw3⟩ : ∃ w3, w3 = w2.alloc (.cells #[.slice (some ⟨ga, 0, none⟩) ls ls, .slice (some ⟨gt, 0, none⟩) ls ls] 58) := ⟨_, rfl⟩
  obtain ⟨g3, hg3⟩ : ∃ g3, w2.heap.size = g3 := ⟨_, rfl⟩
  have HX3 := hide (show Box w3 g3 #[.slice (some ⟨ga, 0, none⟩) ls ls, .slice (some ⟨gt, 0, none⟩) ls ls] 58 by rw [hw3, ← hg3]; exact Box.new w2 _ _)
  have HA3 := hide (show AbW w3 ga A by rw [hw3]; exact Box.alloc HA2.out _)
  have HT3 := hide (show TnW w3 gt ls tn by rw [hw3]; exact Box.alloc HT2.out _)
  have HB3 := hide (show Below w.heap.size w w3 by rw [hw3]; exact HB2.out.alloc HB2.out.size _)
  rw [← hw3, hg3]
  clear hw3 hg3 c0 c1 c2 c3 c4 l1
  have l3 := HX3.out.lt
  have e0 := (HX3.out.cell 0 (v := .slice (some ⟨ga, 0, none⟩) ls ls) rfl).1
  have e1 := (HX3.out.cell 1 (v := .slice (some ⟨gt, 0, none⟩) ls ls) rfl).1
  have HC1 := hide (HHS.out w3 a ga gt HA3.out)
  have HC2 := hide (fun (W : World) (hW : Below w3.heap.size w3 W) => HHS.out W b ga gt (HA3.out.below hW))
  have HK := hide (fun (W : World) (hW : Below w3.heap.size w3 W) => (HX3.out.below hW))
  cases ha : hasA A a with
  | false =>
    rw [ha] at HC1
    go_wp2_with (go_at_call 40; refine (HC1.out).mono ?_; rintro e w4 ⟨rfl, hb4⟩)
    go_ret
    exact ⟨false, rfl, by simp [domQ, ha], HB3.out.trans (hb4.mono HB3.out.size)⟩
  | true =>
    rw [ha] at HC1
    cases hb : hasA A b with
    | false =>
      rw [hb] at HC2
      go_wp2_with (first
        | (go_at_call 40; refine (HC2.out w4 HC4.out).mono ?_; rintro e w5 ⟨rfl, hb5⟩)
        | (go_at_call 40; refine (HC1.out).mono ?_; rintro e w4 ⟨rfl, hb4⟩; have HC4 := hide hb4; have hx := HK.out w4 hb4; have l4 := hx.lt; have f0 := (hx.cell 0 (v := .slice (some ⟨ga, 0, none⟩) ls ls) rfl).1; have f1 := (hx.cell 1 (v := .slice (some ⟨gt, 0, none⟩) ls ls) rfl).1; clear hx hb4))
      go_ret
      exact ⟨false, rfl, by simp [domQ, hb], HB3.out.trans ((HC4.out.trans (hb5.mono HC4.out.size)).mono HB3.out.size)⟩
    | true =>
      rw [hb] at HC2
      obtain ⟨ha0, haI⟩ := HIF.out a ha
      obtain ⟨hb0, hbI⟩ := HIF.out b hb
      obtain ⟨x, rfl⟩ : ∃ x : Nat, a = x := ⟨a.toNat, by omega⟩
      obtain ⟨y, rfl⟩ : ∃ y : Nat, b = y := ⟨b.toNat, by omega⟩
      simp only [Int.toNat_natCast] at haI hbI
      obtain ⟨m, hm⟩ := MeetR.all HTR.out _ x y (Nat.le_refl _) haI hbI
      have hq : (m : Int) = (x : Int) ↔ domQ A x y := by
        obtain ⟨s1, s2⟩ := hm.spec HTR.out haI hbI
        simp only [domQ, Int.toNat_natCast]
        constructor
        · intro e
          have e : m = x := by omega
          subst e
          exact ⟨ha, hb, ((s2 m).1 .refl).2⟩
        · rintro ⟨-, -, h⟩
          have k1 := (s2 x).2 ⟨.refl, h⟩
          have k2 := ((s2 m).1 .refl).1
          have := k1.eq HTR.out s1 (k2.le HTR.out haI).2
          omega
      have HC3 := hide (fun (W : World) (hW : Below w3.heap.size w3 W) => HMT.out W tn x y m ga gt (HA3.out.below hW) (HT3.out.below hW) HTR.out haI hbI hm)
      have HQ := hide hq
      clear hq hm haI hbI ha0 hb0 ha hb
      go_wp2_with (first
        | (go_at_call 41; refine (HC3.out w5 HC5.out).mono ?_; rintro e w6 ⟨rfl, hb6⟩)
        | (go_at_call 40; refine (HC2.out w4 HC4.out).mono ?_; rintro e w5 ⟨rfl, hb5⟩; have HC5 := hide (HC4.out.trans (hb5.mono HC4.out.size)); have hx := HK.out w5 HC5.out; have l5 := hx.lt; have g0 := (hx.cell 0 (v := .slice (some ⟨ga, 0, none⟩) ls ls) rfl).1; have g1 := (hx.cell 1 (v := .slice (some ⟨gt, 0, none⟩) ls ls) rfl).1; clear hx hb5)
        | (go_at_call 40; refine (HC1.out).mono ?_; rintro e w4 ⟨rfl, hb4⟩; have HC4 := hide hb4; have hx := HK.out w4 hb4; have l4 := hx.lt; have f0 := (hx.cell 0 (v := .slice (some ⟨ga, 0, none⟩) ls ls) rfl).1; have f1 := (hx.cell 1 (v := .slice (some ⟨gt, 0, none⟩) ls ls) rfl).1; clear hx hb4))
      go_ret
      refine ⟨_, rfl, ?_, HB3.out.trans ((HC5.out.trans (hb6.mono HC5.out.size)).mono HB3.out.size)⟩
      rw [← HQ.out]
      first | (simp; done) | (simp; omega)
end Go.Proofs.Ytkpikgakphdjjaa
namespace Go.Proofs.Ytkpikgakphdjjaa
open Go.RowKit

/-- Where two blocks meet, by the list. -/
def meetZ (A : List Int) (a b m : Int) : Prop := (hasA A a = true ∧ hasA A b = true ∧ ∃ k : Nat, m = k ∧ inA A k ∧ ∀ x, Anc (upA A) x k ↔ Anc (upA A) x a.toNat ∧ Anc (upA A) x b.toNat) ∨ (¬ (hasA A a = true ∧ hasA A b = true) ∧ m = -1)
set_option maxHeartbeats 1000000 in
set_option maxRecDepth 100000 in
theorem dmeets_any (vk vb vs : Value) (f : FunV) (A : List Int) (hAf : AbvOf f A) (a b : Int) (w : World) (B : Nat) (hB : B ≤ w.heap.size) (hi : FunI w (· < B) vk vb vs f) (hok : FlowOk f) (h1 : 1 ≤ f.blocks.length) :
    Calls Try.prog 22 #[.agg #[vk, vb, .int .i64 f.params, .int .i64 f.result, vs], .int .i64 a, .int .i64 b] w fun e w' => ∃ m, e = .returned (.int .i64 m) ∧ meetZ A a b m ∧ Below w.heap.size w w' := by
  have HGR := hide (fun (W : World) (hW : Below w.heap.size w W) => dgrow_any vk vb vs f A hAf W B (by have := hW.size; omega) (hi.keep (up hW hB) (fun _ h => h)) hok h1)
  have HHS := hide (fun (W : World) (z : Int) (ga gt : Nat) (h : AbW W ga A) => dhas_any A z ga gt f.blocks.length W h hAf.len h1)
  have HMT := hide (fun (W : World) (tn : Nat → Nat) (x y m : Nat) (ga gt : Nat) (h : AbW W ga A) (ht : TnW W gt f.blocks.length tn) (htr : Tr tn (inA A) (upA A)) hx hy hm => dmeet_any A tn x y m ga gt f.blocks.length W h hAf.len hok.1 ht htr hAf.nneg (fun b hb => by have := hAf.lt h1 b hb; rw [hAf.len] at this; exact this) hx hy hm)
  have HIF := hide (fun (z : Int) (hz : hasA A z = true) => (show 0 ≤ z ∧ inA A z.toNat by
    have hz0 : 0 ≤ z := by unfold hasA at hz; rw [decide_eq_true_iff] at hz; omega
    exact ⟨hz0, (hasA_iff (by rw [hAf.len]; exact h1) hz0).1 hz⟩))
  obtain ⟨Ak, ck, rfl, hck, hmk⟩ := hi.1.open'
  obtain ⟨Ab, cb, rfl, hcb, hmb⟩ := hi.2.1.open'
  obtain ⟨As, cs, rfl, hcs, hms⟩ := hi.2.2.1.open'
  generalize f.kinds.length = lk, f.base.length = lb, f.blocks.length = ls, f.params = fp, f.result = fr at *
  clear hi hok hAf
  go_enter Try.func22, Try.ntmps22
  go_upto_region 1 with (fail)
  obtain ⟨w1, hw1⟩ : ∃ w1, w1 = w.alloc (.cells #[.slice Ak lk ck, .slice Ab lb cb, .int .i64 fp, .int .i64 fr, .slice As ls cs] 30) := ⟨_, rfl⟩
  have HX1 := hide (show Box w1 w.heap.size #[.slice Ak lk ck, .slice Ab lb cb, .int .i64 fp, .int .i64 fr, .slice As ls cs] 30 by rw [hw1]; exact Box.new w _ _)
  have HB1 := hide (show Below w.heap.size w w1 by rw [hw1]; exact alloc1 w _)
  rw [← hw1]
  clear hw1
  have l1 := HX1.out.lt
  have c0 := (HX1.out.cell 0 (v := .slice Ak lk ck) rfl).1
  have c1 := (HX1.out.cell 1 (v := .slice Ab lb cb) rfl).1
  have c2 := (HX1.out.cell 2 (v := .int .i64 fp) rfl).1
  have c3 := (HX1.out.cell 3 (v := .int .i64 fr) rfl).1
  have c4 := (HX1.out.cell 4 (v := .slice As ls cs) rfl).1
  go_upto_region 2 with (go_at_call 39; refine (HGR.out w1 HB1.out).mono ?_; rintro e w2 ⟨ga, gt, tn, rfl, ha, ht, h2, h3, htr, hb2⟩; have HA2 := hide ha; have HT2 := hide ht; have HTR := hide htr; have HB2 := hide (HB1.out.trans (hb2.mono HB1.out.size)); clear ha ht hb2 htr)
  obtain ⟨w3, hw3⟩ : ∃ w3, w3 = w2.alloc (.cells #[.slice (some ⟨ga, 0, none⟩) ls ls, .slice (some ⟨gt, 0, none⟩) ls ls] 58) := ⟨_, rfl⟩
  obtain ⟨g3, hg3⟩ : ∃ g3, w2.heap.size = g3 := ⟨_, rfl⟩
  have HX3 := hide (show Box w3 g3 #[.slice (some ⟨ga, 0, none⟩) ls ls, .slice (some ⟨gt, 0, none⟩) ls ls] 58 by rw [hw3, ← hg3]; exact Box.new w2 _ _)
  have HA3 := hide (show AbW w3 ga A by rw [hw3]; exact Box.alloc HA2.out _)
  have HT3 := hide (show TnW w3 gt ls tn by rw [hw3]; exact Box.alloc HT2.out _)
  have HB3 := hide (show Below w.heap.size w w3 by rw [hw3]; exact HB2.out.alloc HB2.out.size _)
  rw [← hw3, hg3]
  clear hw3 hg3 c0 c1 c2 c3 c4 l1
  have l3 := HX3.out.lt
  have e0 := (HX3.out.cell 0 (v := .slice (some ⟨ga, 0, none⟩) ls ls) rfl).1
  have e1 := (HX3.out.cell 1 (v := .slice (some ⟨gt, 0, none⟩) ls ls) rfl).1
  have HK := hide (fun (W : World) (hW : Below w3.heap.size w3 W) => (HX3.out.below hW))
  have HC1 := hide (HHS.out w3 a ga gt HA3.out)
  have HC2 := hide (fun (W : World) (hW : Below w3.heap.size w3 W) => HHS.out W b ga gt (HA3.out.below hW))
  cases ha : hasA A a with
  | false =>
    rw [ha] at HC1
    go_wp2_with (go_at_call 40; refine (HC1.out).mono ?_; rintro e w4 ⟨rfl, hb4⟩)
    go_ret
    exact ⟨-1, rfl, .inr ⟨by simp [ha], rfl⟩, HB3.out.trans (hb4.mono HB3.out.size)⟩
  | true =>
    rw [ha] at HC1
    cases hb : hasA A b with
    | false =>
      rw [hb] at HC2
      go_wp2_with (first
        | (go_at_call 40; refine (HC2.out w4 HC4.out).mono ?_; rintro e w5 ⟨rfl, hb5⟩)
        | (go_at_call 40; refine (HC1.out).mono ?_; rintro e w4 ⟨rfl, hb4⟩; have HC4 := hide hb4; have hx := HK.out w4 hb4; have l4 := hx.lt; have f0 := (hx.cell 0 (v := .slice (some ⟨ga, 0, none⟩) ls ls) rfl).1; have f1 := (hx.cell 1 (v := .slice (some ⟨gt, 0, none⟩) ls ls) rfl).1; clear hx hb4))
      go_ret
      exact ⟨-1, rfl, .inr ⟨by simp [hb], rfl⟩, HB3.out.trans ((HC4.out.trans (hb5.mono HC4.out.size)).mono HB3.out.size)⟩
    | true =>
      rw [hb] at HC2
      obtain ⟨ha0, haI⟩ := HIF.out a ha
      obtain ⟨hb0, hbI⟩ := HIF.out b hb
      obtain ⟨x, rfl⟩ : ∃ x : Nat, a = x := ⟨a.toNat, by omega⟩
      obtain ⟨y, rfl⟩ : ∃ y : Nat, b = y := ⟨b.toNat, by omega⟩
      simp only [Int.toNat_natCast] at haI hbI
      obtain ⟨m, hm⟩ := MeetR.all HTR.out _ x y (Nat.le_refl _) haI hbI
      have HQ := hide (show meetZ A x y m from .inl ⟨ha, hb, m, rfl, by simpa using hm.spec HTR.out haI hbI⟩)
      have HC3 := hide (fun (W : World) (hW : Below w3.heap.size w3 W) => HMT.out W tn x y m ga gt (HA3.out.below hW) (HT3.out.below hW) HTR.out haI hbI hm)
      clear hm haI hbI ha0 hb0 ha hb
      go_wp2_with (first
        | (go_at_call 41; refine (HC3.out w5 HC5.out).mono ?_; rintro e w6 ⟨rfl, hb6⟩)
        | (go_at_call 40; refine (HC2.out w4 HC4.out).mono ?_; rintro e w5 ⟨rfl, hb5⟩; have HC5 := hide (HC4.out.trans (hb5.mono HC4.out.size)); have hx := HK.out w5 HC5.out; have l5 := hx.lt; have g0 := (hx.cell 0 (v := .slice (some ⟨ga, 0, none⟩) ls ls) rfl).1; have g1 := (hx.cell 1 (v := .slice (some ⟨gt, 0, none⟩) ls ls) rfl).1; clear hx hb5)
        | (go_at_call 40; refine (HC1.out).mono ?_; rintro e w4 ⟨rfl, hb4⟩; have HC4 := hide hb4; have hx := HK.out w4 hb4; have l4 := hx.lt; have f0 := (hx.cell 0 (v := .slice (some ⟨ga, 0, none⟩) ls ls) rfl).1; have f1 := (hx.cell 1 (v := .slice (some ⟨gt, 0, none⟩) ls ls) rfl).1; clear hx hb4))
      go_ret
      exact ⟨_, rfl, HQ.out, HB3.out.trans ((HC5.out.trans (hb6.mono HC5.out.size)).mono HB3.out.size)⟩
def kidsTo (A : List Int) (b : Int) (k : Nat) : List Int := ((List.range k).filter (fun i => A.getD i (-1) == b)).map (fun i : Nat => (i : Int))
def kidsL (A : List Int) (b : Int) : List Int := if hasA A b = true then kidsTo A b A.length else []
theorem kidsTo_yes {A : List Int} {b : Int} {k : Nat} (h : A.getD k (-1) = b) : kidsTo A b k ++ [(k : Int)] = kidsTo A b (k + 1) := by
  unfold kidsTo
  rw [List.range_succ, List.filter_append, List.map_append]
  simp only [List.getD_eq_getElem?_getD] at h
  simp [h]
theorem kidsTo_no {A : List Int} {b : Int} {k : Nat} (h : ¬ A.getD k (-1) = b) : kidsTo A b k = kidsTo A b (k + 1) := by
  unfold kidsTo
  rw [List.range_succ, List.filter_append, List.map_append]
  simp only [List.getD_eq_getElem?_getD] at h
  simp [h]
theorem kidsTo_len (A : List Int) (b : Int) (k : Nat) : (kidsTo A b k).length ≤ k := by
  unfold kidsTo
  rw [List.length_map]
  exact Nat.le_trans (List.length_filter_le _ _) (by simp)
set_option maxHeartbeats 1000000 in
set_option maxRecDepth 100000 in
theorem dkids_any (vk vb vs : Value) (f : FunV) (A : List Int) (hAf : AbvOf f A) (b : Int) (w : World) (B : Nat) (hB : B ≤ w.heap.size) (hi : FunI w (· < B) vk vb vs f) (hok : FlowOk f) (h1 : 1 ≤ f.blocks.length) :
    Calls Try.prog 26 #[.agg #[vk, vb, .int .i64 f.params, .int .i64 f.result, vs], .int .i64 b] w fun e w' => ∃ v, e = .returned v ∧ Ow w' w.heap.size 3 .i64 v (kidsL A b) ∧ Below w.heap.size w w' := by
  have HGR := hide (fun (W : World) (hW : Below w.heap.size w W) => dgrow_any vk vb vs f A hAf W B (by have := hW.size; omega) (hi.keep (up hW hB) (fun _ h => h)) hok h1)
  have HHS := hide (fun (W : World) (z : Int) (ga gt : Nat) (h : AbW W ga A) => dhas_any A z ga gt f.blocks.length W h hAf.len h1)
  obtain ⟨i0, hi0, iz0, iz1, iz2⟩ := info_parts info_i64
  have HI := hide hi0
  have HLA := hide hAf.len
  have hls40 := hok.1
  obtain ⟨Ak, ck, rfl, hck, hmk⟩ := hi.1.open'
  obtain ⟨Ab, cb, rfl, hcb, hmb⟩ := hi.2.1.open'
  obtain ⟨As, cs, rfl, hcs, hms⟩ := hi.2.2.1.open'
  generalize f.kinds.length = lk, f.base.length = lb, f.blocks.length = ls, f.params = fp, f.result = fr at *
  clear hi hi0 hok hAf
  go_enter Try.func26, Try.ntmps26
  go_upto_region 1 with (fail)
  obtain ⟨w1, hw1⟩ : ∃ w1, w1 = w.alloc (.cells #[.slice Ak lk ck, .slice Ab lb cb, .int .i64 fp, .int .i64 fr, .slice As ls cs] 30) := ⟨_, rfl⟩
  have HX1 := hide (show Box w1 w.heap.size #[.slice Ak lk ck, .slice Ab lb cb, .int .i64 fp, .int .i64 fr, .slice As ls cs] 30 by rw [hw1]; exact Box.new w _ _)
  have HB1 := hide (show Below w.heap.size w w1 by rw [hw1]; exact alloc1 w _)
  rw [← hw1]
  clear hw1
  have l1 := HX1.out.lt
  have c0 := (HX1.out.cell 0 (v := .slice Ak lk ck) rfl).1
  have c1 := (HX1.out.cell 1 (v := .slice Ab lb cb) rfl).1
  have c2 := (HX1.out.cell 2 (v := .int .i64 fp) rfl).1
  have c3 := (HX1.out.cell 3 (v := .int .i64 fr) rfl).1
  have c4 := (HX1.out.cell 4 (v := .slice As ls cs) rfl).1
  go_upto_region 2 with (go_at_call 39; refine (HGR.out w1 HB1.out).mono ?_; rintro e w2 ⟨ga, gt, tn, rfl, ha, ht, h2, h3, htr, hb2⟩; have HA2 := hide ha; have HT2 := hide ht; have HTR := hide htr; have HB2 := hide (HB1.out.trans (hb2.mono HB1.out.size)); clear ha ht hb2 htr)
  obtain ⟨w3, hw3⟩ : ∃ w3, w3 = w2.alloc (.cells #[.slice (some ⟨ga, 0, none⟩) ls ls, .slice (some ⟨gt, 0, none⟩) ls ls] 58) := ⟨_, rfl⟩
  obtain ⟨g3, hg3⟩ : ∃ g3, w2.heap.size = g3 := ⟨_, rfl⟩
  have HX3 := hide (show Box w3 g3 #[.slice (some ⟨ga, 0, none⟩) ls ls, .slice (some ⟨gt, 0, none⟩) ls ls] 58 by rw [hw3, ← hg3]; exact Box.new w2 _ _)
  have HA3 := hide (show AbW w3 ga A by rw [hw3]; exact Box.alloc HA2.out _)
  have HT3 := hide (show TnW w3 gt ls tn by rw [hw3]; exact Box.alloc HT2.out _)
  have HB3 := hide (show Below w.heap.size w w3 by rw [hw3]; exact HB2.out.alloc HB2.out.size _)
  rw [← hw3, hg3]
  clear hw3 hg3 c0 c1 c2 c3 c4 l1
  have l3 := HX3.out.lt
  have e0 := (HX3.out.cell 0 (v := .slice (some ⟨ga, 0, none⟩) ls ls) rfl).1
  have e1 := (HX3.out.cell 1 (v := .slice (some ⟨gt, 0, none⟩) ls ls) rfl).1
  have HK := hide (fun (W : World) (hW : Below w3.heap.size w3 W) => (HX3.out.below hW))
  have HC1 := hide (HHS.out w3 b ga gt HA3.out)
  cases hbq : hasA A b with
  | false =>
    rw [hbq] at HC1
    have HE := hide (show kidsL A b = [] by unfold kidsL; rw [hbq]; rfl)
    clear hbq
    go_wp2_with (go_at_call 40; refine (HC1.out).mono ?_; rintro e w4 ⟨rfl, hb4⟩)
    go_ret
    exact ⟨_, rfl, by rw [HE.out]; exact Ow.nil _ _ _ _, HB3.out.trans (hb4.mono HB3.out.size)⟩
  | true =>
    rw [hbq] at HC1
    have HE := hide (show kidsL A b = kidsTo A b ls by unfold kidsL; rw [hbq, if_pos rfl, HLA.out])
    clear hbq
    go_wp2_with (go_at_call 40; refine (HC1.out).mono ?_; rintro e w4 ⟨rfl, hb4⟩; have HC4 := hide (HB3.out.trans (hb4.mono HB3.out.size)); have HA4 := hide (HA3.out.below hb4); have hx := HK.out w4 hb4; have l4 := hx.lt; have f0 := (hx.cell 0 (v := .slice (some ⟨ga, 0, none⟩) ls ls) rfl).1; have f1 := (hx.cell 1 (v := .slice (some ⟨gt, 0, none⟩) ls ls) rfl).1; clear hx hb4)
    have hs4 := HC4.out.size
    go_loopw [6, 18] (fun l i wr => ∃ (v : Value) (k : Nat), v = l ∧ k ≤ ls ∧ i = .int .i64 (k : Int) ∧ Below w4.heap.size w4 wr ∧ Hid (Ow wr w4.heap.size 3 .i64 v (kidsTo A b k))) (fun _ i _ => ls - (intOf i).toNat)
    case atStart => exact ⟨_, 0, rfl, Nat.zero_le _, rfl, Below.refl _ _, hide (Ow.nil _ _ _ _)⟩
    case round =>
      obtain ⟨v, k, rfl, hk, rfl, hb, how⟩ := hrel
      obtain ⟨wo, rfl⟩ : ∃ wo, wo = wr := ⟨_, rfl⟩
      have hsz := hb.size
      have HBW := hide hb
      have HBEL := hide (HC4.out.trans (hb.mono HC4.out.size))
      clear hb
      by_cases hlt : k < ls
      case neg =>
        obtain rfl : k = ls := by omega
        have HO := hide (show Ow wo w.heap.size 3 .i64 v (kidsL A b) by rw [HE.out]; exact how.out.lower HC4.out.size)
        go_wp2
        go_ret
        exact ⟨_, rfl, HO.out, HBEL.out⟩
      have d1 := ((HA4.out.below HBW.out).cell (b := k) (by have := HLA.out; omega)).1
      have lga : ga < wo.heap.size := Box.lt (HA4.out.below HBW.out)
      have HYES := hide (fun h => @kidsTo_yes A b k h)
      have HNO := hide (fun h => @kidsTo_no A b k h)
      have HRO := hide (show (kidsTo A b k).length < 1099511627776 by have := kidsTo_len A b k; omega)
      generalize A.getD k (-1) = y at *
      by_cases he : y = b
      · have HST := hide (HYES.out he)
        have hq : (y == b) = true := by simpa using he
        clear he HYES HNO
        go_wp2_with (at_builtin; refine wpList_append_one wo rfl (.tmp 26) (.tmp 28) _ rfl w4.heap.size 3 .i64 i0 _ 8 Try.underlying27 HI.out iz0 iz1 iz2 rfl (by omega) v (kidsTo A b k) (by rfl) how.out (k : Int) (by rfl) HRO.out hsz ?_; intro v5 w5 ho5 hb5)
        go_roundw
        case rel => exact ⟨v5, k + 1, rfl, by omega, by go_num, HBW.out.trans hb5, hide (by rw [← HST.out]; exact ho5)⟩
        case measure => simp [intOf]; omega
      · have HST := hide (HNO.out he)
        have hq : (y == b) = false := by simpa using he
        clear he HYES HNO
        go_wp2
        go_roundw
        case rel => exact ⟨v, k + 1, rfl, by omega, by go_num, HBW.out, hide (by rw [← HST.out]; exact how.out)⟩
        case measure => simp [intOf]; omega
end Go.Proofs.Ytkpikgakphdjjaa
namespace Go.Proofs.Ytkpikgakphdjjaa
open Go.RowKit

theorem p5_p1 : prevN P5 1 = [0] := by decide
theorem p5_p2 : prevN P5 2 = [0] := by decide
theorem p5_abv {A : List Int} (h : AbvOf P5 A) : A = [-1, 0, 0, 0] := by
  obtain ⟨o, ho, hr⟩ := h
  obtain rfl := ho.one p5_order
  have hl : A.length = 4 := hr.gi.len
  have h0 := hr.gi.z0
  have ht := hr.gi.tr
  have hin : ∀ b : Nat, b < 4 → inA A b := fun b hb => (hr.all b).2 (by
    unfold rO
    have : b = 0 ∨ b = 1 ∨ b = 2 ∨ b = 3 := by omega
    rcases this with rfl | rfl | rfl | rfl <;> decide)
  have hR : ∀ b : Nat, b < 4 → rO [0, 2, 1, 3] b := fun b hb => (hr.all b).1 (hin b hb)
  have f1 := hr.fix 1 (hR 1 (by omega)) (by omega)
  have f2 := hr.fix 2 (hR 2 (by omega)) (by omega)
  have f3 := hr.fix 3 (hR 3 (by omega)) (by omega)
  simp only [joinA] at f1 f2 f3
  rw [show ((1 : Nat) : Int) = 1 from rfl, p5_p1] at f1
  rw [show ((2 : Nat) : Int) = 2 from rfl, p5_p2] at f2
  rw [show ((3 : Nat) : Int) = 3 from rfl, p5_prev] at f3
  have e1 : A.getD 1 (-1) = 0 := by
    generalize A.getD 1 (-1) = r at f1
    cases f1 with
    | skip h _ => exact absurd (hin 0 (by omega)) (by simpa using h)
    | first _ h => cases h; rfl
    | more _ h _ _ => exact absurd rfl h
  have e2 : A.getD 2 (-1) = 0 := by
    generalize A.getD 2 (-1) = r at f2
    cases f2 with
    | skip h _ => exact absurd (hin 0 (by omega)) (by simpa using h)
    | first _ h => cases h; rfl
    | more _ h _ _ => exact absurd rfl h
  have u1 : upA A 1 = 0 := by unfold upA; rw [e1]; rfl
  have e3 : A.getD 3 (-1) = 0 := by
    generalize A.getD 3 (-1) = r at f3
    cases f3 with
    | skip h _ => exact absurd (hin 1 (by omega)) (by simpa using h)
    | more _ h _ _ => exact absurd rfl h
    | first _ h =>
      cases h with
      | skip h _ => exact absurd (hin 2 (by omega)) (by simpa using h)
      | @more _ _ _ _ m _ _ hm h =>
        cases h
        obtain ⟨-, s2⟩ := hm.spec ht (by simpa using hin 1 (by omega)) (by simpa using hin 2 (by omega))
        obtain ⟨k1, k2⟩ := (s2 m).1 .refl
        simp only [Int.reduceToNat] at k1 k2
        have hm1 : m = 1 ∨ m = 0 := by
          cases k1 with
          | refl => exact .inl rfl
          | step _ h => rw [u1] at h; exact .inr h.zero
        rcases hm1 with rfl | rfl
        · exfalso
          cases k2 with
          | step _ h =>
            have u2 : upA A 2 = 0 := by unfold upA; rw [e2]; rfl
            rw [u2] at h
            have := h.zero
            omega
        · rfl
  apply List.ext_getElem
  · rw [hl]; rfl
  · intro i hi _
    have e : A[i] = A.getD i (-1) := by simp [List.getD, hi]
    rw [e]
    have : i = 0 ∨ i = 1 ∨ i = 2 ∨ i = 3 := by omega
    rcases this with rfl | rfl | rfl | rfl
    · exact h0
    · exact e1
    · exact e2
    · exact e3
theorem p5_q (A : List Int) (h : A = [-1, 0, 0, 0]) : domQ A 0 3 ∧ ¬ domQ A 1 3 ∧ ∀ m, meetZ A 1 3 m → m = 0 := by
  subst h
  have u1 : upA [-1, 0, 0, 0] 1 = 0 := rfl
  have u3 : upA [-1, 0, 0, 0] 3 = 0 := rfl
  have n13 : ¬ Anc (upA [-1, 0, 0, 0]) 1 3 := fun h => by
    cases h with
    | step _ h => rw [u3] at h; have := h.zero; omega
  refine ⟨⟨by decide, by decide, .step (by decide) (by rw [show (3 : Int).toNat = 3 from rfl, u3]; exact .refl)⟩, fun h => n13 h.2.2, fun m hm => ?_⟩
  rcases hm with ⟨-, -, k, rfl, hk, hs⟩ | ⟨hn, -⟩
  · obtain ⟨k1, k2⟩ := (hs k).1 .refl
    rw [show (1 : Int).toNat = 1 from rfl] at k1
    cases k1 with
    | refl => exact absurd k2 n13
    | step _ h => rw [u1] at h; have := h.zero; omega
  · exact absurd ⟨by decide, by decide⟩ hn
/-- A block of numbers that is known whole, as a slice of numbers. -/
theorem AbW.ints {w : World} {g n : Nat} {A : List Int} (h : AbW w g A) (hn : A.length = n) (hm : n ≤ 1000) (hr : ∀ z ∈ A, i64R z) : IntsV w (· < w.heap.size) (.slice (some ⟨g, 0, none⟩) n n) A := by
  subst hn
  have hs : Sl w w.heap.size .i64 (some ⟨g, 0, none⟩) A := fun hp => ⟨g, 0, rfl, Box.lt h, fun j hj => by
    rw [Nat.zero_add]
    have := (Box.cell h j (v := .int .i64 (A.getD j 0)) (by simp [List.getD, hj])).1
    exact this⟩
  exact hs.vec (Nat.le_refl _) (by omega) hr
set_option maxHeartbeats 1000000 in
set_option maxRecDepth 100000 in
theorem alive6_any (w : World) : Calls Try.prog 16 #[] w fun e w' => e = .returned (.bool true) ∧ Below w.heap.size w w' := by
  go_enter Try.func16, Try.ntmps16
  go_upto_region 1 with (fail)
  go_cut [1] from 2 (fun p wx => At5 w p wx)
  case first =>
    go_wp2
    go_meet
    case rel => exact at5_of w
  case rest =>
    obtain ⟨h, rfl, ⟨Ak, Ab, As, hbx, hfi⟩, hbc⟩ := hcut
    have HBC := hide hbc
    have HK5 := hide (fun (W : World) (hW : Below wc.heap.size wc W) => And.intro ((hbx.below hW).cell 0 (v := .slice Ak 1 1) rfl).1 (And.intro ((hbx.below hW).cell 1 (v := .slice Ab 1 1) rfl).1 (And.intro ((hbx.below hW).cell 2 (v := .int .i64 0) rfl).1 (And.intro ((hbx.below hW).cell 3 (v := .int .i64 0) rfl).1 ((hbx.below hW).cell 4 (v := .slice As 4 4) rfl).1))))
    have kf := fun (W : World) (hW : Below wc.heap.size wc W) => hfi.keep (w := wc) (up hW (Nat.le_refl _)) (fun _ h => h)
    obtain ⟨A, hA⟩ := AbvOf.ex (Nat.le_refl _) hfi p5_ok (by decide)
    obtain ⟨q1, q2, q3⟩ := p5_q A (p5_abv hA)
    have HAB := hide (fun (W : World) (hW : Below wc.heap.size wc W) => (show Calls Try.prog 24 #[.agg #[.slice Ak 1 1, .slice Ab 1 1, .int .i64 0, .int .i64 0, .slice As 4 4]] W fun e w' => ∃ ga, e = .returned (.slice (some ⟨ga, 0, none⟩) 4 4) ∧ AbW w' ga [-1, 0, 0, 0] ∧ Below W.heap.size W w' from
      (dabove_any _ _ _ P5 A hA W wc.heap.size hW.size (kf W hW) p5_ok (by decide)).mono fun e w' ⟨ga, h1, h2, h3, h4⟩ => ⟨ga, h1, by rw [← p5_abv hA]; exact h2, h4⟩))
    have HD1 := hide (fun (W : World) (hW : Below wc.heap.size wc W) => (show Calls Try.prog 18 #[.agg #[.slice Ak 1 1, .slice Ab 1 1, .int .i64 0, .int .i64 0, .slice As 4 4], .int .i64 0, .int .i64 3] W fun e w' => e = .returned (.bool true) ∧ Below W.heap.size W w' from
      (ddom_any _ _ _ P5 A hA 0 3 W wc.heap.size hW.size (kf W hW) p5_ok (by decide)).mono fun e w' ⟨d, h1, h2, h3⟩ => ⟨by rw [h1, h2.2 q1], h3⟩))
    have HD2 := hide (fun (W : World) (hW : Below wc.heap.size wc W) => (show Calls Try.prog 18 #[.agg #[.slice Ak 1 1, .slice Ab 1 1, .int .i64 0, .int .i64 0, .slice As 4 4], .int .i64 1, .int .i64 3] W fun e w' => e = .returned (.bool false) ∧ Below W.heap.size W w' from
      (ddom_any _ _ _ P5 A hA 1 3 W wc.heap.size hW.size (kf W hW) p5_ok (by decide)).mono fun e w' ⟨d, h1, h2, h3⟩ => ⟨by rw [h1, Bool.eq_false_iff.2 (fun h => q2 (h2.1 h))], h3⟩))
    have HMT := hide (fun (W : World) (hW : Below wc.heap.size wc W) => (show Calls Try.prog 22 #[.agg #[.slice Ak 1 1, .slice Ab 1 1, .int .i64 0, .int .i64 0, .slice As 4 4], .int .i64 1, .int .i64 3] W fun e w' => e = .returned (.int .i64 0) ∧ Below W.heap.size W w' from
      (dmeets_any _ _ _ P5 A hA 1 3 W wc.heap.size hW.size (kf W hW) p5_ok (by decide)).mono fun e w' ⟨m, h1, h2, h3⟩ => ⟨by rw [h1, q3 m h2], h3⟩))
    have HIN := hide (fun (W : World) (ga : Nat) (h : AbW W ga [-1, 0, 0, 0]) =>
      (show Calls Try.prog 11 #[.slice (some ⟨ga, 0, none⟩) 4 4, .slice (some ⟨W.heap.size, 0, none⟩) 4 4] (W.alloc (.cells #[.int .i64 (-1), .int .i64 0, .int .i64 0, .int .i64 0] 3)) fun e w' => e = .returned (.bool true) ∧ Below W.heap.size W w' by
        have hz : ∀ z ∈ [(-1 : Int), 0, 0, 0], i64R z := by unfold i64R; simp
        have h1 : IntsV (W.alloc (.cells #[.int .i64 (-1), .int .i64 0, .int .i64 0, .int .i64 0] 3)) (· < W.heap.size + 1) (.slice (some ⟨ga, 0, none⟩) 4 4) [-1, 0, 0, 0] := by
          have h := AbW.ints (n := 4) (show AbW (W.alloc (.cells #[.int .i64 (-1), .int .i64 0, .int .i64 0, .int .i64 0] 3)) ga [-1, 0, 0, 0] from Box.alloc h _) rfl (by omega) hz
          rwa [World.size_alloc] at h
        have h2 := (Sl.lit W 3 .i64 #[.int .i64 (-1), .int .i64 0, .int .i64 0, .int .i64 0] [-1, 0, 0, 0] rfl).vec (c := 4) (by decide) (by omega) hz
        exact (rints_any _ _ [-1, 0, 0, 0] [-1, 0, 0, 0] _ _ h1 h2).mono fun e w' ⟨q1, q, q2⟩ => ⟨by rw [q1]; simp, by rw [q2]; exact below_drewN (alloc1 W _) q⟩))
    obtain ⟨c0, c1, c2, c3, c4⟩ := HK5.out wc (Below.refl _ _)
    have hlh := hbx.lt
    clear hbx hfi hbc kf hA q1 q2 q3
    go_wp2_with (first
      | (go_at_call 22; refine (HMT.out w6 HC6.out).mono ?_; rintro e w7 ⟨rfl, hb7⟩; have HC7 := hide (HC6.out.trans (hb7.mono HC6.out.size)); clear hb7)
      | (go_at_call 18; refine (HD2.out w5 HC5.out).mono ?_; rintro e w6 ⟨rfl, hb6⟩; have hc6 := HC5.out.trans (hb6.mono HC5.out.size); obtain ⟨z0, z1, z2, z3, z4⟩ := HK5.out w6 hc6; have HC6 := hide hc6; clear hb6 hc6)
      | (go_at_call 18; refine (HD1.out w4 HC4.out).mono ?_; rintro e w5 ⟨rfl, hb5⟩; have hc5 := HC4.out.trans (hb5.mono HC4.out.size); obtain ⟨y0, y1, y2, y3, y4⟩ := HK5.out w5 hc5; have HC5 := hide hc5; clear hb5 hc5)
      | (go_at_call 11; refine (HIN.out w3 ga HA3.out).mono ?_; rintro e w4 ⟨rfl, hb4⟩; have hc4 := HC3.out.trans (hb4.mono HC3.out.size); obtain ⟨x0, x1, x2, x3, x4⟩ := HK5.out w4 hc4; have HC4 := hide hc4; clear hb4 hc4)
      | (go_at_call 24; refine (HAB.out wc (Below.refl _ _)).mono ?_; rintro e w3 ⟨ga, rfl, ha3, hb3⟩; have HC3 := hide hb3; have HA3 := hide ha3; clear hb3 ha3))
    go_ret
    exact ⟨by simp, HBC.out.trans (HC7.out.mono HBC.out.size)⟩
set_option maxHeartbeats 1000000 in
set_option maxRecDepth 100000 in
theorem out6_any (vp : Value) (p : List FunV) (w : World) (B : Nat) (hB : B ≤ w.heap.size) (hp : FunsV w (· < B) vp p) (hsz : progSize p) :
    Calls Try.prog 17 #[.agg #[vp]] w fun e w' => ∃ b : Bool, e = .returned (.bool b) ∧ Hid (b = false → progB4 p = true) ∧ Below w.heap.size w w' := by
  have HG := hide (fun (W : World) (hW : Below w.heap.size w W) => great2_any vp p W B (by have := hW.size; omega) (hp.keep (up hW hB) (fun _ h => h)) hsz)
  have HCK := hide (fun (W : World) (hW : Below w.heap.size w W) (hf : progFew p) => check4_any vp p W B (by have := hW.size; omega) (hp.keep (up hW hB) (fun _ h => h)) hf)
  have HFEW := hide (fun h : ∀ f ∈ p, smallF f => smallF.few h)
  obtain ⟨A, c, rfl, hpc, hpm⟩ := hp.open'
  have HTWO := hide (two_chk p)
  generalize chkN4 p = ck at *
  have HP := hide hp
  obtain ⟨lp, hlp⟩ : ∃ lp, p.length = lp := ⟨_, rfl⟩
  have HLP := hide hlp
  rw [hlp] at HG HCK hpc HP ⊢
  clear hp hsz hlp
  go_enter Try.func17, Try.ntmps17
  go_upto_region 1 with (fail)
  obtain ⟨w0, hw0⟩ : ∃ w0, w0 = w.alloc (.cells #[.slice A lp c] 24) := ⟨_, rfl⟩
  have HX0 := hide (show Box w0 w.heap.size #[.slice A lp c] 24 by rw [hw0]; exact Box.new w _ _)
  have HB0 := hide (show Below w.heap.size w w0 by rw [hw0]; exact alloc1 w _)
  have hl0 := HX0.out.lt
  have HP0 := hide (HP.out.keep (up HB0.out hB) (fun _ h => h))
  have hB0 : B ≤ w0.heap.size := by omega
  rw [← hw0]
  clear hw0
  have x0 := (HX0.out.cell 0 (v := .slice A lp c) rfl).1
  go_wp2
  go_loopw [3, 4] (fun nn i wr => ∃ m k : Nat, k ≤ lp ∧ nn = .int .i64 (m : Int) ∧ i = .int .i64 (k : Int) ∧ wr = w0) (fun _ i _ => lp - (intOf i).toNat)
  case atStart => exact ⟨0, 0, Nat.zero_le _, rfl, rfl, rfl⟩
  case round =>
    obtain ⟨m, k, hk, rfl, rfl, rfl⟩ := hrel
    by_cases hgo : k < lp ∧ k < 9
    · obtain ⟨hlt, h9⟩ := hgo
      obtain ⟨f, hf⟩ : ∃ f, p[k]? = some f := ⟨_, List.getElem?_eq_getElem (by have := HLP.out; omega)⟩
      obtain ⟨b, o, Ak, ck', Ab, cb, As, cs, hA, hbb, ⟨e0, e1, e2, e3, e4⟩, hi⟩ := HP0.out.get hf
      subst hA
      have hbs : b < wr.heap.size := by omega
      obtain ⟨l, hl⟩ : ∃ l, f.blocks.length = l := ⟨_, rfl⟩
      rw [hl] at e4
      clear hi hf hl e0 e1 e2 e3
      by_cases hml : m ≤ l
      · have hm1 : (m : Int) ≤ (l : Int) := by omega
        have hm2 : max (m : Int) (l : Int) = (l : Int) := by omega
        clear hml
        go_wp2
        go_roundw
        case rel => exact ⟨l, k + 1, by omega, by first | rfl | (simp [*]; done), by go_num, by first | rfl | trivial⟩
        case measure => simp [intOf]; omega
      · have hm2 : max (m : Int) (l : Int) = (m : Int) := by omega
        have hm1 : ¬ (m : Int) ≤ (l : Int) := by omega
        clear hml
        go_wp2
        go_roundw
        case rel => exact ⟨m, k + 1, by omega, by first | rfl | (simp [*]; done), by go_num, by first | rfl | trivial⟩
        case measure => simp [intOf]; omega
    · have hend : ¬ k < lp ∨ (k < lp ∧ ¬ k < 9) := by omega
      clear hgo
      by_cases hm : 20 < m
      · rcases hend with hlt | ⟨hlt, h9⟩
        · go_wp2
          go_ret
          exact .inr ⟨rfl, hide trivial, HB0.out⟩
        · go_wp2
          go_ret
          exact .inr ⟨rfl, hide trivial, HB0.out⟩
      · rcases HTWO.out with ⟨rfl, hpb⟩ | rfl
        · have HPB := hide hpb
          clear hpb
          rcases hend with hlt | ⟨hlt, h9⟩
          all_goals
            go_wp2_with (first
              | (go_at_call 32; refine (HCK.out w2 HB2.out (HFEW.out (HS2.out (by first | assumption | exact Bool.eq_false_iff.2 (by assumption))))).mono ?_; rintro e w3 ⟨rfl, hb3⟩; have HB3 := hide (HB2.out.trans (hb3.mono HB2.out.size)); clear hb3)
              | (go_at_call 31; refine (HG.out wr HB0.out).mono ?_; rintro e w2 ⟨b1, rfl, hs2, hb2⟩; have x2 := ((HX0.out.below hb2).cell 0 (v := .slice A lp c) rfl).1; have l2 := (HX0.out.below hb2).lt; have HB2 := hide (HB0.out.trans (hb2.mono HB0.out.size)); have HS2 := hide hs2; clear hb2 hs2))
            all_goals
              go_ret
              first
                | exact ⟨_, rfl, hide (fun _ => HPB.out), HB3.out⟩
                | exact ⟨_, rfl, hide (fun _ => HPB.out), HB2.out⟩
        · rcases hend with hlt | ⟨hlt, h9⟩
          all_goals
            go_wp2_with (first
              | (go_at_call 32; refine (HCK.out w2 HB2.out (HFEW.out (HS2.out (by first | assumption | exact Bool.eq_false_iff.2 (by assumption))))).mono ?_; rintro e w3 ⟨rfl, hb3⟩; have HB3 := hide (HB2.out.trans (hb3.mono HB2.out.size)); clear hb3)
              | (go_at_call 31; refine (HG.out wr HB0.out).mono ?_; rintro e w2 ⟨b1, rfl, hs2, hb2⟩; have x2 := ((HX0.out.below hb2).cell 0 (v := .slice A lp c) rfl).1; have l2 := (HX0.out.below hb2).lt; have HB2 := hide (HB0.out.trans (hb2.mono HB0.out.size)); have HS2 := hide hs2; clear hb2 hs2))
            all_goals
              go_ret
              first
                | exact ⟨true, rfl, hide (fun h => by cases h), HB3.out⟩
                | exact ⟨true, rfl, hide (fun h => by cases h), HB2.out⟩
end Go.Proofs.Ytkpikgakphdjjaa
