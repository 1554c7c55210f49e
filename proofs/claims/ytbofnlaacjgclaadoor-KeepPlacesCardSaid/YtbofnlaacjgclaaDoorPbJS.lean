/- Texts of several names, of which only what the statement needs is kept. -/
import Derived.Test.YtbofnlaacjgclaaDoorPbJQ
import Derived.Test.YtbofnlaacjgclaaDoorPbG2
import Derived.Laws.Cover1
/- Layer 11: the programs that aren't asked about. Condition: no slice of the program is longer than any machine's memory. -/
set_option linter.unusedSimpArgs false
set_option linter.unusedVariables false
namespace Go.Proofs.YtbofnlaacjgclaaDoor
open Go.RowKit

set_option maxHeartbeats 4000000 in
set_option maxRecDepth 100000 in
theorem out11_any (vp : Value) (p : List FunV) (w : World) (B : Nat) (hB : B ≤ w.heap.size) (hp : FunsV w (· < B) vp p) (hsz : progSize p) :
    Calls Tryd.prog 7 #[.agg #[vp]] w fun e w' => ∃ b : Bool, e = .returned (.bool b) ∧ Hid (b = false → progB4 p = true ∧ progFew p) ∧ Below w.heap.size w w' := by
  have HG := hide (fun (W : World) (hW : Below w.heap.size w W) => great2_any vp p W B (by have := hW.size; omega) (hp.keep (up hW hB) (fun _ h => h)) hsz)
  have HCK := hide (fun (W : World) (hW : Below w.heap.size w W) (hf : progFew p) => check4_any vp p W B (by have := hW.size; omega) (hp.keep (up hW hB) (fun _ h => h)) hf)
  have HFEW := hide (fun h : ∀ f ∈ p, smallF f => smallF.few h)
  have HPK := hide (fun (W : World) (hW : Below w.heap.size w W) => hp.keep (up hW hB) (fun _ h => h))
  have HTWO := hide (two_chk p)
  generalize chkN4 p = ck at *
  obtain ⟨Ap, cp, rfl, hcp, hmp⟩ := hp.open'
  obtain ⟨lp, hlp⟩ : ∃ lp, p.length = lp := ⟨_, rfl⟩
  have HLP := hide hlp
  rw [hlp] at HPK HG HCK hcp ⊢
  clear hp hsz hlp
  go_enter Tryd.func7, Tryd.ntmps7
  go_upto_region 1 with (fail)
  obtain ⟨w1, hw1⟩ : ∃ w1, w1 = w.alloc (.cells #[.slice Ap lp cp] 24) := ⟨_, rfl⟩
  obtain ⟨h5, hh5⟩ : ∃ h5, w.heap.size = h5 := ⟨_, rfl⟩
  have HX0 := hide (show Box w1 (h5) #[.slice Ap lp cp] 24 by rw [hw1, ← hh5]; have t := Box.new w #[.slice Ap lp cp] 24; (try simp only [World.size_alloc] at t); exact t)
  have HB1 := hide (show Below w.heap.size w w1 by rw [hw1]; exact ((Below.refl _ _).alloc (Nat.le_refl _) _))
  have w1s := HB1.out.size
  have w1z := hide (show w1.heap.size = h5 + 1 by rw [hw1, ← hh5]; simp only [World.size_alloc])
  have HK0 := hide (fun (W : World) (hW : Below w1.heap.size w1 W) => ((HX0.out.below hW).cell 0 (v := .slice Ap lp cp) rfl).1)
  have lHX0 := HX0.out.lt
  have h5g : w.heap.size ≤ h5 := by omega
  rw [← hw1, hh5]
  clear hw1 hh5
  have p0 := HK0.out w1 (Below.refl _ _)
  go_wp2
  go_loopw [3, 4] (fun a i wr => ∃ (n : Int) (k : Nat), k ≤ lp ∧ a = .int .i64 n ∧ i = .int .i64 (k : Int) ∧ Below w1.heap.size w1 wr) (fun _ i _ => lp - (intOf i).toNat)
  case atStart => exact ⟨0, 0, Nat.zero_le _, rfl, rfl, Below.refl _ _⟩
  case round =>
    obtain ⟨n, k, hk, rfl, rfl, hb⟩ := hrel
    obtain ⟨wo, rfl⟩ : ∃ wo, wo = wr := ⟨_, rfl⟩
    have hszo := hb.size
    have HBEL := hide (HB1.out.trans (hb.mono HB1.out.size))
    have HBW := hide hb
    have HXO := hide (HX0.out.below hb)
    have xp := (HXO.out.cell 0 (v := .slice Ap lp cp) rfl).1
    have lxp := HXO.out.lt
    clear hb p0
    by_cases hgo : k < lp ∧ k < 9
    · obtain ⟨hlt, h9⟩ := hgo
      obtain ⟨f, hf⟩ : ∃ f, p[k]? = some f := ⟨_, List.getElem?_eq_getElem (by have := HLP.out; omega)⟩
      obtain ⟨bg, og, Ak, ck', Ab, cb, As, cs, hAp, hbgb, ⟨e0, e1, e2, e3, e4⟩, hi⟩ := (HPK.out wo HBEL.out).get hf
      subst hAp
      have hbs : bg < wo.heap.size := by omega
      clear hi hf
      generalize f.kinds.length = lk, f.base.length = lb, f.blocks.length = ls, f.params = fp, f.result = fr at *
      have hki : (0 : Int) ≤ (k : Int) := by omega
      have hkl : (k : Int) < (lp : Int) := by omega
      have hd1 : decide ((k : Int) < (lp : Int)) = true := by simpa using hkl
      have hd9 : decide ((k : Int) < 9) = true := by simp; omega
      go_upto_region 5 with (fail)
      go_region
      go_wp2
      go_roundw
      case rel => exact ⟨_, k + 1, by omega, rfl, by go_num, ⟨HBW.out.os, HBW.out.tape, HBW.out.output, HBW.out.size, HBW.out.block⟩⟩
      case measure => simp [intOf]; omega
    · have hend : (¬ k < lp ∧ decide ((k : Int) < (lp : Int)) = false) ∨ (k < lp ∧ ¬ k < 9 ∧ decide ((k : Int) < (lp : Int)) = true ∧ decide ((k : Int) < 9) = false) := by
        by_cases h1 : k < lp
        · exact .inr ⟨h1, by omega, by simp; omega, by simp; omega⟩
        · exact .inl ⟨h1, by simp; omega⟩
      clear hgo
      by_cases h14 : n > 16
      · have hd : decide (n > 16) = true := by simpa using h14
        have hd2 : decide (16 < n) = true := by simpa using h14
        rcases hend with ⟨hlt, hd1⟩ | ⟨hlt, h9, hd1, hd9⟩
        all_goals
          go_wp2
          go_ret
          exact ⟨true, rfl, hide (fun h => by cases h), HBEL.out⟩
      · have hd : decide (n > 16) = false := by simpa using h14
        have hd2 : decide (16 < n) = false := by simpa using h14
        rcases HTWO.out with ⟨rfl, hpb⟩ | rfl
        · have HPB := hide hpb
          clear hpb
          rcases hend with ⟨hlt, hd1⟩ | ⟨hlt, h9, hd1, hd9⟩
          all_goals
            go_wp2_with (first
              | (go_at_call 35; refine (HCK.out w2 HB2.out (HFEW.out (HS2.out (by first | assumption | exact Bool.eq_false_iff.2 (by assumption))))).mono ?_; rintro e w3 ⟨rfl, hb3⟩; have HF3 := hide (HFEW.out (HS2.out (by first | assumption | exact Bool.eq_false_iff.2 (by assumption)))); have HB3 := hide (HB2.out.trans (hb3.mono HB2.out.size)); clear hb3)
              | (go_at_call 34; refine (HG.out wo HBEL.out).mono ?_; rintro e w2 ⟨b1, rfl, hs2, hb2⟩; have x2 := ((HXO.out.below hb2).cell 0 (v := .slice Ap lp cp) rfl).1; have l2 := (HXO.out.below hb2).lt; have HB2 := hide (HBEL.out.trans (hb2.mono HBEL.out.size)); have HS2 := hide hs2; clear hb2 hs2))
            all_goals
              go_ret
              first
                | exact ⟨_, rfl, hide (fun _ => ⟨HPB.out, HF3.out⟩), HB3.out⟩
                | exact ⟨_, rfl, hide (fun h => by simp_all), HB2.out⟩
        · rcases hend with ⟨hlt, hd1⟩ | ⟨hlt, h9, hd1, hd9⟩
          all_goals
            go_wp2_with (first
              | (go_at_call 35; refine (HCK.out w2 HB2.out (HFEW.out (HS2.out (by first | assumption | exact Bool.eq_false_iff.2 (by assumption))))).mono ?_; rintro e w3 ⟨rfl, hb3⟩; have HB3 := hide (HB2.out.trans (hb3.mono HB2.out.size)); clear hb3)
              | (go_at_call 34; refine (HG.out wo HBEL.out).mono ?_; rintro e w2 ⟨b1, rfl, hs2, hb2⟩; have x2 := ((HXO.out.below hb2).cell 0 (v := .slice Ap lp cp) rfl).1; have l2 := (HXO.out.below hb2).lt; have HB2 := hide (HBEL.out.trans (hb2.mono HBEL.out.size)); have HS2 := hide hs2; clear hb2 hs2))
            all_goals
              go_ret
              first
                | exact ⟨true, rfl, hide (fun h => by cases h), HB3.out⟩
                | exact ⟨true, rfl, hide (fun h => by cases h), HB2.out⟩
end Go.Proofs.YtbofnlaacjgclaaDoor

/- The statement LiveOuts, walked: it answers true. Condition: the table of parts reads as listed; no slice of the program is longer than any machine's memory. -/
set_option linter.unusedSimpArgs false
set_option linter.unusedVariables false
namespace Go.Proofs.YtbofnlaacjgclaaDoor
open Go.RowKit

/-- What layer 11 asks of a function of a program that may be. -/
structure LOk (p : List FunV) (f : FunV) : Prop where
  flow : FlowOk f
  one : 1 ≤ f.blocks.length
  ne : ∀ c, c < f.blocks.length → codeOf f c ≠ []
  few : ∀ l ∈ f.blocks, ∀ x ∈ l, x.args.length ≤ 1099511627000
  kinds : f.kinds.length ≤ 48
  bl : f.base.length = f.kinds.length
  base : ∀ kb ∈ f.kinds.zip f.base, baseB4 f.kinds kb.1 kb.2 = true
  may : ∀ l ∈ f.blocks, ∀ x ∈ l, mayB4 p f x = true
theorem lOk_of {p : List FunV} (h : progB4 p = true) (hf : progFew p) : ∀ f ∈ p, LOk p f := fun f hm => by
  obtain ⟨-, -, -, hall⟩ := prog_parts h
  obtain ⟨⟨h1, h2, h3⟩, -, -, ⟨-, -, h4⟩, hmay⟩ := fun_parts (hall f hm)
  refine ⟨(flowOk_of h f hm).1, (flowOk_of h f hm).2, fun c hc => ?_, hf f hm, h2, h1, h3, hmay⟩
  obtain ⟨l, hl⟩ : ∃ l, f.blocks[c]? = some l := ⟨_, List.getElem?_eq_getElem hc⟩
  have := (h4 l (List.mem_of_getElem? hl)).1
  unfold codeOf
  rw [hl]
  intro e
  simp at e
  subst e
  simp at this
/-- The set of what is live at the beginning of one of l. -/
structure JnS (f : FunV) (l : List Int) (s : List Nat) : Prop where
  tidy : Tidy s
  ok : SetOk s
  has : ∀ v : Nat, hasB s (v : Int) = true ↔ ∃ n ∈ l, Lv f n.toNat v
theorem JnS.nil (f : FunV) : JnS f [] [] := ⟨tidy_nil, ⟨by simp, fun x hx => by cases hx⟩, fun v => by simp [hasB]⟩
theorem JnS.one {f : FunV} {l : List Int} {s t : List Nat} (h1 : JnS f l s) (h2 : JnS f l t) : s = t := has_ext h1.tidy h2.tidy h1.ok.2 h2.ok.2 fun v => (h1.has v).trans (h2.has v).symm
theorem EndS.jn {f : FunV} (hok : FlowOk f) {b : Nat} {s : List Nat} (h : EndS f b s) : JnS f (nxt f b) s := by
  refine ⟨h.tidy, h.ok hok, fun v => ?_⟩
  obtain ⟨σ, hσ, rfl⟩ := h
  rw [hasB_join]
  constructor
  · rintro ⟨l, hl, h1⟩
    obtain ⟨n, hn, rfl⟩ := List.mem_map.1 hl
    exact ⟨n, hn, ((hσ n.toNat (by have := hok.2.2 b n hn; omega)).has v).1 h1⟩
  · rintro ⟨n, hn, h1⟩
    exact ⟨_, List.mem_map.2 ⟨n, hn, rfl⟩, ((hσ n.toNat (by have := hok.2.2 b n hn; omega)).has v).2 h1⟩
end Go.Proofs.YtbofnlaacjgclaaDoor
