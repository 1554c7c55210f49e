/- The contracts of the reference's Size and SameEdges of layer 5, and of the statements' own question whether a program isn't asked about. Condition: no slice of the program is longer than any machine's memory. -/
import Derived.Test.YtkpikgakphdjjaaFL
import Derived.Test.YtkpikgakphdjjaaTC
set_option linter.unusedSimpArgs false
set_option linter.unusedVariables false
namespace Go.Proofs.Ytkpikgakphdjjaa
open Go.RowKit

set_option maxHeartbeats 1000000 in
set_option maxRecDepth 100000 in
theorem out5_any (vp : Value) (p : List FunV) (w : World) (B : Nat) (hB : B ≤ w.heap.size) (hp : FunsV w (· < B) vp p) (hsz : progSize p) :
    Calls Try.prog 10 #[.agg #[vp]] w fun e w' => ∃ b : Bool, e = .returned (.bool b) ∧ Hid (b = false → progB4 p = true) ∧ Below w.heap.size w w' := by
  have HG := hide (fun (W : World) (hW : Below w.heap.size w W) => great2_any vp p W B (by have := hW.size; omega) (hp.keep (up hW hB) (fun _ h => h)) hsz)
  have HCK := hide (fun (W : World) (hW : Below w.heap.size w W) (hf : progFew p) => check4_any vp p W B (by have := hW.size; omega) (hp.keep (up hW hB) (fun _ h => h)) hf)
  have HFEW := hide (fun h : ∀ f ∈ p, smallF f => smallF.few h)
  obtain ⟨A, c, rfl, hpc, hpm⟩ := hp.open'
  have HTWO := hide (two_chk p)
  generalize chkN4 p = ck at *
  obtain ⟨lp, hlp⟩ : ∃ lp, p.length = lp := ⟨_, rfl⟩
  rw [hlp] at HG HCK hpc ⊢
  clear hp hsz hlp
  go_enter Try.func10, Try.ntmps10
  go_upto_region 1 with (fail)
  obtain ⟨w0, hw0⟩ : ∃ w0, w0 = w.alloc (.cells #[.slice A lp c] 24) := ⟨_, rfl⟩
  have HX0 := hide (show Box w0 w.heap.size #[.slice A lp c] 24 by rw [hw0]; exact Box.new w _ _)
  have HB0 := hide (show Below w.heap.size w w0 by rw [hw0]; exact alloc1 w _)
  have hl0 := HX0.out.lt
  rw [← hw0]
  clear hw0
  have x0 := (HX0.out.cell 0 (v := .slice A lp c) rfl).1
  rcases HTWO.out with ⟨rfl, hpb⟩ | rfl
  · have HPB := hide hpb
    clear hpb
    go_wp2_with (first
      | (go_at_call 32; refine (HCK.out w2 HB2.out (HFEW.out (HS2.out (by first | assumption | exact Bool.eq_false_iff.2 (by assumption))))).mono ?_; rintro e w3 ⟨rfl, hb3⟩; have HB3 := hide (HB2.out.trans (hb3.mono HB2.out.size)); clear hb3)
      | (go_at_call 31; refine (HG.out w0 HB0.out).mono ?_; rintro e w2 ⟨b1, rfl, hs2, hb2⟩; have x2 := ((HX0.out.below hb2).cell 0 (v := .slice A lp c) rfl).1; have l2 := (HX0.out.below hb2).lt; have HB2 := hide (HB0.out.trans (hb2.mono HB0.out.size)); have HS2 := hide hs2; clear hb2 hs2))
    all_goals
      go_ret
      first
        | exact ⟨_, rfl, hide (fun _ => HPB.out), HB3.out⟩
        | exact ⟨_, rfl, hide (fun _ => HPB.out), HB2.out⟩
  · go_wp2_with (first
      | (go_at_call 32; refine (HCK.out w2 HB2.out (HFEW.out (HS2.out (by first | assumption | exact Bool.eq_false_iff.2 (by assumption))))).mono ?_; rintro e w3 ⟨rfl, hb3⟩; have HB3 := hide (HB2.out.trans (hb3.mono HB2.out.size)); clear hb3)
      | (go_at_call 31; refine (HG.out w0 HB0.out).mono ?_; rintro e w2 ⟨b1, rfl, hs2, hb2⟩; have x2 := ((HX0.out.below hb2).cell 0 (v := .slice A lp c) rfl).1; have l2 := (HX0.out.below hb2).lt; have HB2 := hide (HB0.out.trans (hb2.mono HB0.out.size)); have HS2 := hide hs2; clear hb2 hs2))
    all_goals
      go_ret
      first
        | exact ⟨true, rfl, hide (fun h => by cases h), HB3.out⟩
        | exact ⟨true, rfl, hide (fun h => by cases h), HB2.out⟩
end Go.Proofs.Ytkpikgakphdjjaa
