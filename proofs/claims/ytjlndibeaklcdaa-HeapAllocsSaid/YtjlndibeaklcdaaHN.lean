/- Layer 9, the statements: the fixed fact. No condition. -/
import Derived.Test.YtjlndibeaklcdaaHL
set_option linter.unusedSimpArgs false
set_option linter.unusedVariables false
namespace Go.Proofs.Ytjlndibeaklcdaa
open Go.RowKit

/-- Ints that are written out, in a block of their own. -/
theorem lit_ints (w : World) (cs : Array Value) (n : Nat) (zs : List Int) (hc : cs.toList = zs.map (Value.int .i64)) (hn : zs.length = n) (hm : n ≤ 1000) (hR : ∀ z ∈ zs, i64R z) : IntsV (w.alloc (.cells cs 3)) (· < (w.alloc (.cells cs 3)).heap.size) (.slice (some ⟨w.heap.size, 0, none⟩) n n) zs := by
  subst hn
  have h := (Sl.lit w 3 .i64 cs zs hc).vec (c := zs.length) (Nat.le_refl _) (by omega) hR
  exact IntsV.keep h (fun _ _ _ => rfl) (fun b hb => by rw [World.size_alloc]; exact hb)
theorem rch_one : IsR [⟨[0], [0, 0]⟩] [1, 5] [1] := by
  refine ⟨by simp, fun z => ⟨fun hz => ?_, fun ⟨_, hz⟩ => ?_⟩⟩
  · simp at hz
    subst hz
    exact ⟨by decide, .root (by simp) (by omega) (by simp)⟩
  · have := hz.rng
    simp at this
    simp
    omega
set_option maxHeartbeats 2000000 in
set_option maxRecDepth 100000 in
theorem alive9_any (w : World) : Calls Try.prog 5 #[] w fun e w' => e = .returned (.bool true) ∧ Below w.heap.size w w' := by
  have HA := hide (show Calls Try.prog 8 #[.agg #[.slice none 0 0], .int .i64 1, .int .i64 2] w fun e w' => ∃ A c, e = .returned (.tuple #[.agg #[.slice A 1 c], .int .i64 1, .int .i64 0]) ∧ ObjsV w' (· < w'.heap.size) (.slice A 1 c) [⟨[0], [0, 0]⟩] ∧ Below w.heap.size w w' from (halloc_any (.slice none 0 0) [] 1 2 w w.heap.size (Nat.le_refl _) (Vec.nil _ _ _) (by simp)).mono (fun e w' ⟨v, h1, h2, h3⟩ => by
    have h2' : ObjsV w' (· < w'.heap.size) v [⟨[0], [0, 0]⟩] := h2
    obtain ⟨A, c, e1, -, -⟩ := h2'.open'
    subst e1
    exact ⟨A, c, h1, h2', h3⟩))
  have HL1 := hide (fun (vh : Value) (W : World) (hh : ObjsV W (· < W.heap.size) vh [⟨[0], [0, 0]⟩]) => (show Calls Try.prog 20 #[.agg #[vh], .int .i64 1, .int .i64 2] W fun e w' => e = .returned (.tuple #[.int .i64 0, .int .i64 15]) ∧ Below W.heap.size W w' from hload_any vh _ 1 2 W W.heap.size (Nat.le_refl _) hh (by simp)))
  have HL2 := hide (fun (vh : Value) (W : World) (hh : ObjsV W (· < W.heap.size) vh [⟨[0], [0, 0]⟩]) => (show Calls Try.prog 20 #[.agg #[vh], .int .i64 0, .int .i64 0] W fun e w' => e = .returned (.tuple #[.int .i64 0, .int .i64 14]) ∧ Below W.heap.size W w' from hload_any vh _ 0 0 W W.heap.size (Nat.le_refl _) hh (by simp)))
  have HRC := hide (fun (vh vr : Value) (W : World) (hh : ObjsV W (· < W.heap.size) vh [⟨[0], [0, 0]⟩]) (hx : IntsV W (· < W.heap.size) vr [1, 5]) => (hreach_any vh vr _ [1, 5] W W.heap.size (Nat.le_refl _) hh hx (by simp)).mono (R' := fun e w' => ∃ v, e = .returned v ∧ Ow w' W.heap.size 3 .i64 v [1] ∧ Below W.heap.size W w') (fun e w' ⟨v, l, h1, h2, h3, h4⟩ => ⟨v, h1, by rw [← h2.one rch_one]; exact h3, h4⟩))
  have HIN := hide (fun (va vb : Value) (W : World) (ha : IntsV W (· < W.heap.size) va [1]) (hb : IntsV W (· < W.heap.size) vb [1]) => (rints_any va vb [1] [1] W W.heap.size ha hb).mono (R' := fun e w' => e = .returned (.bool true) ∧ Below W.heap.size W w') (fun e w' ⟨h1, q, h2⟩ => ⟨by rw [h1]; rfl, by rw [h2]; exact below_drewN (Below.refl _ _) q⟩))
  go_enter Try.func5, Try.ntmps5
  go_upto_region 2 with (go_at_call 8; (with_reducible refine (HA.out).mono ?_); rintro e w2 ⟨A, c, rfl, hv2, hb2⟩; have HV2 := hide hv2; have HB2 := hide hb2; clear hv2 hb2)
  obtain ⟨w3, hw3⟩ : ∃ w3, w3 = w2.alloc (.cells #[.slice A 1 c] 24) := ⟨_, rfl⟩
  obtain ⟨h6, hh6⟩ : ∃ h6, w2.heap.size = h6 := ⟨_, rfl⟩
  have HFX0 := hide (show Box w3 (h6) #[.slice A 1 c] 24 by rw [hw3, ← hh6]; have t := Box.new w2 #[.slice A 1 c] 24; (try simp only [World.size_alloc] at t); exact t)
  have HB3 := hide (show Below w2.heap.size w2 w3 by rw [hw3]; exact ((Below.refl _ _).alloc (Nat.le_refl _) _))
  have w3s := HB3.out.size
  have w3z := hide (show w3.heap.size = h6 + 1 by rw [hw3, ← hh6]; simp only [World.size_alloc])
  have HFK0 := hide (fun (W : World) (hW : Below w3.heap.size w3 W) => ((HFX0.out.below hW).cell 0 (v := .slice A 1 c) rfl).1)
  have lHFX0 := HFX0.out.lt
  have h6g : w2.heap.size ≤ h6 := by omega
  rw [← hw3, hh6]
  clear hw3 hh6
  have HHV := hide (fun (W : World) (hW : Below w3.heap.size w3 W) => (show ObjsV W (· < W.heap.size) (.slice A 1 c) [⟨[0], [0, 0]⟩] from (HV2.out.below HB3.out).below hW))
  have p3 := HFK0.out w3 (Below.refl _ _)
  have HW3 := hide (HB2.out.trans (HB3.out.mono HB2.out.size))
  go_upto_region 4 with (first
    | (go_at_call_of 20 (0 : Int); (with_reducible refine (HL2.out _ w4 (HHV.out w4 HB4.out)).mono ?_); rintro e w5 ⟨rfl, hb5⟩; have HB5 := hide (HB4.out.trans (hb5.mono HB4.out.size)); have p5 := HFK0.out w5 HB5.out; have l5 := HB5.out.size; clear hb5)
    | (go_at_call 20; (with_reducible refine (HL1.out _ w3 (HHV.out w3 (Below.refl _ _))).mono ?_); rintro e w4 ⟨rfl, hb4⟩; have HB4 := hide hb4; have p4 := HFK0.out w4 hb4; have l4 := hb4.size; clear hb4))
  have HLI := hide (lit_ints w5 #[.int .i64 1, .int .i64 5] 2 [1, 5] rfl rfl (by omega) (by intro z hz; simp at hz; unfold i64R; omega))
  have HB6 := hide (below1 w5 (.cells #[.int .i64 1, .int .i64 5] 3))
  have HRR := hide (HRC.out (.slice A 1 c) _ _ (HHV.out _ (HB5.out.trans (HB6.out.mono HB5.out.size))) HLI.out)
  go_wp2_with (first
    | (go_at_call 13; (with_reducible refine (HIN.out _ _ _ (HV7.out _ (below1 w7 _)) (lit_ints w7 #[.int .i64 1] 1 [1] rfl rfl (by omega) (by intro z hz; simp at hz; unfold i64R; omega))).mono ?_); rintro e w8 ⟨rfl, hb8⟩; have HB8 := hide (HB7.out.trans (((below1 w7 _).trans (hb8.mono (below1 w7 _).size)).mono HB7.out.size)); clear hb8)
    | (go_at_call 14; (with_reducible refine (HRR.out).mono ?_); rintro e w7 ⟨v7, rfl, ho7, hb7⟩; have HB7 := hide (HB5.out.trans ((HB6.out.trans (hb7.mono HB6.out.size)).mono HB5.out.size)); have HV7 := hide (fun (W : World) (hW : Below w7.heap.size w7 W) => (ho7.below hW).ints (by intro z hz; simp at hz; unfold i64R; omega)); clear hb7 ho7))
  go_ret
  exact ⟨rfl, HW3.out.trans (HB8.out.mono HW3.out.size)⟩
end Go.Proofs.Ytjlndibeaklcdaa
