/- The contract of the statements' fixed fact. Condition: the table of parts reads as listed. -/
import Derived.Test.YtkimocfofihjbaaDoorMD
import Derived.Test.YtkimocfofihjbaaDoorMC
import Derived.Test.YtkimocfofihjbaaDoorME
set_option linter.unusedSimpArgs false
set_option linter.unusedVariables false
namespace Go.Proofs.YtkimocfofihjbaaDoor
open Go.RowKit

def P0 : FunV := ⟨[0], [-1], 0, 0, [[⟨1, 0, 0, 0, 5, 0, []⟩, ⟨23, 0, 0, 0, 0, 0, []⟩]]⟩
theorem dec_a : decR [1, 1, 0, 0, 0, 1, 2, 1, 0, 10, 23, 0] = ([P0], 0) := by decide +kernel
theorem dec_b : decR [0] = ([], 9) := by decide +kernel
theorem enc_a : encR [P0] = ([1, 1, 0, 0, 0, 1, 2, 1, 0, 10, 23, 0], 0) := by
  have h := dec_enc (zs := [1, 1, 0, 0, 0, 1, 2, 1, 0, 10, 23, 0]) (by unfold Byt; simp) (by rw [dec_a])
  rwa [dec_a] at h

/-- What is seen of the fixed program. -/
theorem see_P0 {w : World} {B : Nat} {A : Option Addr} {n c : Nat} (h : FunsV w (· < B) (.slice A n c) [P0]) :
    ∃ b o b2 o2 b3 o3 cs c3, A = some ⟨b, o, none⟩ ∧ n = 1 ∧ (b < B ∧ b2 < B ∧ b3 < B) ∧ w.cell? ⟨b, o + 4, none⟩ = some (.slice (some ⟨b2, o2, none⟩) 1 cs) ∧ w.cell? ⟨b2, o2, none⟩ = some (.slice (some ⟨b3, o3, none⟩) 2 c3) ∧ w.cell? ⟨b3, o3 + 4, none⟩ = some (.int .i64 5) := by
  have hn : n = 1 := by
    obtain ⟨A', c', e, -⟩ := h
    injection e with _ e1 _
  obtain ⟨b, o, Ak, ck, Ab, cb, As, cs, rfl, hb, ⟨-, -, -, -, e4⟩, hi⟩ := h.get (k := 0) (y := P0) rfl
  obtain ⟨b2, o2, A2, c2, rfl, hb2, e5, hi2⟩ := hi.2.2.1.get (k := 0) (y := [⟨1, 0, 0, 0, 5, 0, []⟩, ⟨23, 0, 0, 0, 0, 0, []⟩]) rfl
  obtain ⟨b3, o3, A3, c3, rfl, hb3, ⟨-, -, -, -, e6, -, -⟩, -⟩ := hi2.get (k := 0) (y := ⟨1, 0, 0, 0, 5, 0, []⟩) rfl
  refine ⟨b, o, b2, o2, b3, o3, cs, c2, rfl, hn, ⟨hb, hb2, hb3⟩, ?_, ?_, ?_⟩
  · simpa [P0] using e4
  · simpa using e5
  · simpa using e6

set_option maxHeartbeats 1000000 in
set_option maxRecDepth 100000 in
theorem alive_any (w : World) (hT : TabP w) : Calls Tryd.prog 4 #[] w fun e w' => e = .returned (.bool true) ∧ Below w.heap.size w w' := by
  have hD1 := decode_any (some ⟨w.heap.size, 0, none⟩) 12 12 [1, 1, 0, 0, 0, 1, 2, 1, 0, 10, 23, 0] (w.alloc (.cells #[.int .u8 1, .int .u8 1, .int .u8 0, .int .u8 0, .int .u8 0, .int .u8 1, .int .u8 2, .int .u8 1, .int .u8 0, .int .u8 10, .int .u8 23, .int .u8 0] 5))
    ((Sl.lit w 5 .u8 _ _ rfl).more (by simp)) rfl (by omega) (by omega) (by simp) (hT.below (below1 w _) hT.1)
  have hD2 := fun (W : World) (hW : TabP W) => decode_any (some ⟨W.heap.size, 0, none⟩) 1 1 [0] (W.alloc (.cells #[.int .u8 0] 5)) ((Sl.lit W 5 .u8 _ _ rfl).more (by simp)) rfl (by omega) (by omega) (by simp) (hW.below (below1 W _) hW.1)
  have hE := fun (W : World) (v : Value) (hW : TabP W) (hv : FunsV W (· < W.heap.size) v [P0]) => encode_any v [P0] W W.heap.size (Nat.le_refl _) hW hv
  have hP := fun (W : World) (hW : TabP W) => parts_any 16 W hW (by unfold i64R; omega)
  rw [show strOf (partsN 16) = ⟨#[68, 65, 110]⟩ from rfl] at hP
  unfold DecA at hD1 hD2
  unfold EncA at hE
  rw [dec_a] at hD1
  rw [dec_b] at hD2
  rw [enc_a] at hE
  have HD1 := hide hD1; have HD2 := hide hD2; have HE := hide hE; have HP := hide hP; have HT := hide hT
  clear hD1 hD2 hE hP hT
  go_enter Tryd.func4, Tryd.ntmps4
  go_upto_region 3 with (first
    | (go_at_call 10; refine (HE.out _ _ (HT.out.below hc2 HT.out.1) HV2.out).mono ?_; rintro e w3 ⟨A3, c3, rfl, -, -, -, -, hb3⟩; have hc3 := hc2.trans (hb3.mono (by simp; omega)); have hz3 := hb3.size; simp at hz3; obtain ⟨b, o, b2, o2, b3, o3, cs, c4, rfl, -, ⟨hs0, hs1, hs2⟩, f0, f1, f2⟩ := see_P0 HV2.out; have g0 := (hb3.cell (p := ⟨b, o + 4, none⟩) hs0).trans f0; have g1 := (hb3.cell (p := ⟨b2, o2, none⟩) hs1).trans f1; have g2 := (hb3.cell (p := ⟨b3, o3 + 4, none⟩) hs2).trans f2; have g3 := (hb3.cell (p := ⟨w1.heap.size, 0, none⟩) (by simp)).trans (show _ = some (Value.slice (some ⟨b, o, none⟩) 1 c1) by simp); simp at hs0 hs1 hs2; clear f0 f1 f2 hb3)
    | (go_at_call 5; refine HD1.out.mono ?_; rintro e w1 ⟨v1, rfl, hv1, hb1⟩; obtain ⟨A1, c1, rfl, -, -⟩ := hv1.open'; have hz1 := hb1.size; simp at hz1; have hc1 := (below1 w _).trans (hb1.mono (by simp)); have hc2 := hc1.trans ((below1 w1 (.cells #[.slice A1 1 c1] 26)).mono (by omega)); have HV2 := hide (hv1.keep (S' := (· < (w1.alloc (.cells #[.slice A1 1 c1] 26)).heap.size)) (Same'.of_below (below1 w1 (.cells #[.slice A1 1 c1] 26))) (fun b h => by simp; omega)); clear hv1 hb1))
  have hD3 := HD2.out w3 (HT.out.below hc3 HT.out.1)
  have HD3 := hide hD3
  have hw3 := below1 w3 (.cells #[.int .u8 0] 5)
  have hc3' := hc3.trans (hw3.mono (by omega))
  have l0 := (hw3.cell (p := ⟨b, o + 4, none⟩) (by show b < _; omega)).trans g0
  have l1 := (hw3.cell (p := ⟨b2, o2, none⟩) (by show b2 < _; omega)).trans g1
  have l2 := (hw3.cell (p := ⟨b3, o3 + 4, none⟩) (by show b3 < _; omega)).trans g2
  have l3 := (hw3.cell (p := ⟨w1.heap.size, 0, none⟩) (by show w1.heap.size < _; omega)).trans g3
  clear hD3 hw3 g0 g1 g2 g3 HD1 HE HD2
  go_upto_region 4 with (go_at_call 5; refine HD3.out.mono ?_; rintro e w4 ⟨v4, rfl, hv4, hb4⟩; obtain ⟨A4, c5, rfl, -, -⟩ := hv4.open'; clear hv4; have hz4 := hb4.size; rw [World.size_alloc] at hz4 hb4; have k0 := (hb4.cell (p := ⟨b, o + 4, none⟩) (by show b < _; omega)).trans l0; have k1 := (hb4.cell (p := ⟨b2, o2, none⟩) (by show b2 < _; omega)).trans l1; have k2 := (hb4.cell (p := ⟨b3, o3 + 4, none⟩) (by show b3 < _; omega)).trans l2; have k3 := (hb4.cell (p := ⟨w1.heap.size, 0, none⟩) (by show w1.heap.size < _; omega)).trans l3; have hc4 := hc3'.trans (hb4.mono (by omega)); clear l0 l1 l2 l3 hb4)
  have hs3 : b < w4.heap.size := by omega
  have hs4 : b2 < w4.heap.size := by omega
  have hs5 : b3 < w4.heap.size := by omega
  have hs6 : w1.heap.size < w4.heap.size := by omega
  have hc5 := hc4.trans ((below1 w4 (.cells #[.slice A4 0 c5] 26)).mono (by omega))
  have HP2 := hide (HP.out _ (HT.out.below hc5 HT.out.1))
  clear HD3 HP
  go_wp2_with (go_at_call 8; refine HP2.out.mono ?_; rintro e w' ⟨rfl, rfl⟩)
  go_ret
  exact ⟨rfl, hc5⟩
end Go.Proofs.YtkimocfofihjbaaDoor
