/- The statement CodeDecodes, walked: it answers true. Condition: the table of parts reads as listed. -/
import Derived.Test.YtkimocfofihjbaaDoorRDe
import Derived.Test.YtkimocfofihjbaaDoorCAlive
import Derived.Test.YtkimocfofihjbaaDoorMR
set_option linter.unusedSimpArgs false
set_option linter.unusedVariables false
namespace Go.Proofs.YtkimocfofihjbaaDoor
open Go.RowKit

set_option maxHeartbeats 1000000 in
set_option maxRecDepth 100000 in
theorem decodes_law (A : Option Addr) (n c : Nat) (zs : List Int) (op : Int) (w : World) (hT : TabP w) (hm : Sl w w.heap.size .u8 A zs) (hn : zs.length = n) (hc : n ≤ c) (hmx : c ≤ 9223372036854775807) (hby : ∀ z ∈ zs, 0 ≤ z ∧ z ≤ 255) (hop : i64R op) :
    Calls Tryd.prog 3 #[.slice A n c, .int .i64 op] w fun e w' => e = .returned (.bool true) ∧ Below w.heap.size w w' := by
  have HA := hide (fun (W : World) (hW : Below w.heap.size w W) => alive_any W (hT.below hW hT.1))
  have HD := hide (fun (W : World) (hW : Below w.heap.size w W) => decode_any A n c zs W ((hm.below hW).more hW.size) hn hc hmx hby (hT.below hW hT.1))
  have HR := hide (fun (W : World) (hW : Below w.heap.size w W) => rdecode_any A n c zs W ((hm.below hW).more hW.size) hn hc hmx hby)
  have HP := hide (fun (W : World) (hW : Below w.heap.size w W) => parts_any op W (hT.below hW hT.1) hop)
  have HQ := hide (fun (W : World) => rparts_any op W)
  unfold DecA at HD HR
  obtain ⟨ps, er, hdr⟩ : ∃ ps er, decR zs = (ps, er) := ⟨_, _, rfl⟩
  rw [hdr] at HD HR
  simp only at HD HR
  have HSM := hide (fun (W : World) (v u : Value) (h1 : FunsV W (· < W.heap.size) v ps) (h2 : FunsV W (· < W.heap.size) u ps) => (show Calls Tryd.prog 7 #[.agg #[v], .agg #[u]] W fun e w' => e = .returned (.bool true) ∧ Below W.heap.size W w' from by have t := rsame_any v u ps ps W W.heap.size (Nat.le_refl _) h1 h2; simpa using t))
  obtain ⟨lp, hlp⟩ : ∃ lp, ps.length = lp := ⟨_, rfl⟩
  have HLP := hide hlp
  generalize strOf (partsN op) = tx at *
  clear hT hm hn hby hop hdr hlp hc hmx
  go_enter Tryd.func3, Tryd.ntmps3
  by_cases hl : (5000 : Int) < (n : Int)
  · go_wp2_with (go_at_call 4; refine (HA.out w (Below.refl _ _)).mono ?_; rintro e w1 ⟨rfl, hb1⟩; have HB1 := hide hb1; clear hb1)
    go_ret
    exact ⟨rfl, HB1.out⟩
  go_upto_region 6 with (first
    | (go_at_call 5; refine (HD.out w1 HB1.out).mono ?_; rintro e w2 ⟨v2, rfl, hv2, hb2⟩; obtain ⟨A2, c2, rfl, -, -⟩ := hv2.open'; rw [HLP.out] at hv2 ⊢; have HV2 := hide hv2; have hz2 := hb2.size; have HB2 := hide (HB1.out.trans (hb2.mono HB1.out.size)); clear hb2 hv2)
    | (go_at_call 4; refine (HA.out w (Below.refl _ _)).mono ?_; rintro e w1 ⟨rfl, hb1⟩; have HB1 := hide hb1; clear hb1))
  obtain ⟨w3, hw3⟩ : ∃ w3, w3 = w2.alloc (.cells #[.slice A2 lp c2] 26) := ⟨_, rfl⟩
  have h3 : w2.heap.size < w3.heap.size := by rw [hw3]; simp
  have HB3 := hide (show Below w.heap.size w w3 by rw [hw3]; exact HB2.out.alloc HB2.out.size _)
  have HX3 := hide (show Box w3 w2.heap.size #[.slice A2 lp c2] 26 by rw [hw3]; exact Box.new w2 _ _)
  have HV3 := hide (show FunsV w3 (· < w3.heap.size) (.slice A2 lp c2) ps by rw [hw3]; exact HV2.out.keep (Same'.of_below (alloc1 w2 _)) (fun b h => by simp; omega))
  rw [← hw3]
  obtain ⟨h5, hh5⟩ : ∃ h5, w2.heap.size = h5 := ⟨_, rfl⟩
  rw [hh5] at HX3 h3 ⊢
  clear hw3 HV2 hh5
  go_upto_region 7 with (go_at_call 6; refine (HR.out w3 HB3.out).mono ?_; rintro e w4 ⟨v4, rfl, hv4, hb4⟩; obtain ⟨A4, c4, rfl, -, -⟩ := hv4.open'; rw [HLP.out] at hv4 ⊢; have HV4 := hide hv4; have hz4 := hb4.size; have HX4 := hide (HX3.out.below hb4); have HV34 := hide (HV3.out.keep (Same'.of_below hb4) (fun b h => by omega) : FunsV w4 (· < w4.heap.size) (.slice A2 lp c2) ps); have HB4 := hide (HB3.out.trans (hb4.mono HB3.out.size)); clear hb4 hv4)
  obtain ⟨w5, hw5⟩ : ∃ w5, w5 = w4.alloc (.cells #[.slice A4 lp c4] 26) := ⟨_, rfl⟩
  have HB5 := hide (show Below w.heap.size w w5 by rw [hw5]; exact HB4.out.alloc HB4.out.size _)
  have HX5 := hide (show Box w5 w4.heap.size #[.slice A4 lp c4] 26 by rw [hw5]; exact Box.new w4 _ _)
  have HX6 := hide (show Box w5 h5 #[.slice A2 lp c2] 26 by rw [hw5]; exact HX4.out.alloc _)
  have HV5 := hide (show FunsV w5 (· < w5.heap.size) (.slice A4 lp c4) ps by rw [hw5]; exact HV4.out.keep (Same'.of_below (alloc1 w4 _)) (fun b h => by simp; omega))
  have HV6 := hide (show FunsV w5 (· < w5.heap.size) (.slice A2 lp c2) ps by rw [hw5]; exact HV34.out.keep (Same'.of_below (alloc1 w4 _)) (fun b h => by simp; omega))
  rw [← hw5]
  obtain ⟨h6, hh6⟩ : ∃ h6, w4.heap.size = h6 := ⟨_, rfl⟩
  rw [hh6] at HX5 ⊢
  clear hw5 HV4 HV34 hh6
  have x0 := (HX6.out.cell 0 (v := .slice A2 lp c2) rfl).1
  have y0 := (HX5.out.cell 0 (v := .slice A4 lp c4) rfl).1
  have HS := hide (HSM.out w5 _ _ HV6.out HV5.out)
  have heq : ((er : Int) == (er : Int)) = true := by simp
  go_wp2_with (first
    | (go_at_call 9; refine (HQ.out _).mono ?_; rintro e w8 ⟨rfl, rfl⟩)
    | (go_at_call 8; refine (HP.out w6 HB6.out).mono ?_; rintro e w7 ⟨rfl, rfl⟩)
    | (go_at_call 7; refine HS.out.mono ?_; rintro e w6 ⟨rfl, hb6⟩; have HB6 := hide (HB5.out.trans (hb6.mono HB5.out.size)); clear hb6))
  go_ret
  exact ⟨by first | rfl | simp, HB6.out⟩
end Go.Proofs.YtkimocfofihjbaaDoor
