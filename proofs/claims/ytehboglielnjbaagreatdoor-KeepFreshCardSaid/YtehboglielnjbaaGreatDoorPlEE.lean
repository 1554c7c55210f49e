/- Layer 12: the fixed fact, and the programs that aren't asked about. Condition: the table of parts reads as listed; no slice of the program is longer than any machine's memory. -/
import Derived.Test.YtehboglielnjbaaGreatDoorPlJS
set_option linter.unusedSimpArgs false
set_option linter.unusedVariables false
namespace Go.Proofs.YtehboglielnjbaaGreatDoor
open Go.RowKit

def P12 : FunV := ⟨[0, 1, 2], [-1, -1, 1], 0, 0, [[⟨10, 1, 0, 0, 0, 1, []⟩, ⟨15, 2, 1, 0, 0, 0, []⟩, ⟨17, 0, 2, 0, 0, 0, []⟩, ⟨23, 0, 0, 0, 0, 0, []⟩]]⟩
def WP12 (w : World) (h : Nat) : World := ((((w.alloc (.cells #[.int .i64 0, .int .i64 1, .int .i64 2] 3)).alloc (.cells #[.int .i64 (-1), .int .i64 (-1), .int .i64 1] 3)).alloc (.cells #[.int .i64 10, .int .i64 1, .int .i64 0, .int .i64 0, .int .i64 0, .int .i64 1, .slice none 0 0, .int .i64 15, .int .i64 2, .int .i64 1, .int .i64 0, .int .i64 0, .int .i64 0, .slice none 0 0, .int .i64 17, .int .i64 0, .int .i64 2, .int .i64 0, .int .i64 0, .int .i64 0, .slice none 0 0, .int .i64 23, .int .i64 0, .int .i64 0, .int .i64 0, .int .i64 0, .int .i64 0, .slice none 0 0] 47)).alloc (.cells #[.slice (some ⟨h + 1 + 1, 0, none⟩) 4 4] 39)).alloc (.cells #[.slice (some ⟨h, 0, none⟩) 3 3, .slice (some ⟨h + 1, 0, none⟩) 3 3, .int .i64 0, .int .i64 0, .slice (some ⟨h + 1 + 1 + 1, 0, none⟩) 1 1] 32)
theorem P12_of (w : World) : Box (WP12 w w.heap.size) (w.heap.size + 1 + 1 + 1 + 1) #[.slice (some ⟨w.heap.size, 0, none⟩) 3 3, .slice (some ⟨w.heap.size + 1, 0, none⟩) 3 3, .int .i64 0, .int .i64 0, .slice (some ⟨w.heap.size + 1 + 1 + 1, 0, none⟩) 1 1] 32 ∧ FunI (WP12 w w.heap.size) (· < (WP12 w w.heap.size).heap.size) (.slice (some ⟨w.heap.size, 0, none⟩) 3 3) (.slice (some ⟨w.heap.size + 1, 0, none⟩) 3 3) (.slice (some ⟨w.heap.size + 1 + 1 + 1, 0, none⟩) 1 1) P12 ∧ Below w.heap.size w (WP12 w w.heap.size) := by
  unfold WP12
  obtain ⟨h, hh⟩ : ∃ h, w.heap.size = h := ⟨_, rfl⟩
  obtain ⟨w0, hw0⟩ : ∃ w0, w.alloc (.cells #[.int .i64 0, .int .i64 1, .int .i64 2] 3) = w0 := ⟨_, rfl⟩
  have b0 : Box w0 h #[.int .i64 0, .int .i64 1, .int .i64 2] 3 := by rw [← hw0, ← hh]; exact Box.new _ _ _
  have z0 : w0.heap.size = h + 1 := by rw [← hw0, World.size_alloc, hh]
  have l0 : Below h w w0 := by rw [← hw0, ← hh]; exact alloc1 w _
  rw [hh, hw0]
  obtain ⟨w1, hw1⟩ : ∃ w1, w0.alloc (.cells #[.int .i64 (-1), .int .i64 (-1), .int .i64 1] 3) = w1 := ⟨_, rfl⟩
  have b1 : Box w1 (h + 1) #[.int .i64 (-1), .int .i64 (-1), .int .i64 1] 3 := by rw [← hw1, ← z0]; exact Box.new _ _ _
  have z1 : w1.heap.size = h + 1 + 1 := by rw [← hw1, World.size_alloc, z0]
  have l1 : Below h w w1 := by rw [← hw1]; exact l0.alloc (by omega) _
  replace b0 : Box w1 h #[.int .i64 0, .int .i64 1, .int .i64 2] 3 := by rw [← hw1]; exact b0.alloc _
  rw [hw1]
  obtain ⟨w2, hw2⟩ : ∃ w2, w1.alloc (.cells #[.int .i64 10, .int .i64 1, .int .i64 0, .int .i64 0, .int .i64 0, .int .i64 1, .slice none 0 0, .int .i64 15, .int .i64 2, .int .i64 1, .int .i64 0, .int .i64 0, .int .i64 0, .slice none 0 0, .int .i64 17, .int .i64 0, .int .i64 2, .int .i64 0, .int .i64 0, .int .i64 0, .slice none 0 0, .int .i64 23, .int .i64 0, .int .i64 0, .int .i64 0, .int .i64 0, .int .i64 0, .slice none 0 0] 47) = w2 := ⟨_, rfl⟩
  have b2 : Box w2 (h + 1 + 1) #[.int .i64 10, .int .i64 1, .int .i64 0, .int .i64 0, .int .i64 0, .int .i64 1, .slice none 0 0, .int .i64 15, .int .i64 2, .int .i64 1, .int .i64 0, .int .i64 0, .int .i64 0, .slice none 0 0, .int .i64 17, .int .i64 0, .int .i64 2, .int .i64 0, .int .i64 0, .int .i64 0, .slice none 0 0, .int .i64 23, .int .i64 0, .int .i64 0, .int .i64 0, .int .i64 0, .int .i64 0, .slice none 0 0] 47 := by rw [← hw2, ← z1]; exact Box.new _ _ _
  have z2 : w2.heap.size = h + 1 + 1 + 1 := by rw [← hw2, World.size_alloc, z1]
  have l2 : Below h w w2 := by rw [← hw2]; exact l1.alloc (by omega) _
  replace b0 : Box w2 h #[.int .i64 0, .int .i64 1, .int .i64 2] 3 := by rw [← hw2]; exact b0.alloc _
  replace b1 : Box w2 (h + 1) #[.int .i64 (-1), .int .i64 (-1), .int .i64 1] 3 := by rw [← hw2]; exact b1.alloc _
  rw [hw2]
  obtain ⟨w3, hw3⟩ : ∃ w3, w2.alloc (.cells #[.slice (some ⟨h + 1 + 1, 0, none⟩) 4 4] 39) = w3 := ⟨_, rfl⟩
  have b3 : Box w3 (h + 1 + 1 + 1) #[.slice (some ⟨h + 1 + 1, 0, none⟩) 4 4] 39 := by rw [← hw3, ← z2]; exact Box.new _ _ _
  have z3 : w3.heap.size = h + 1 + 1 + 1 + 1 := by rw [← hw3, World.size_alloc, z2]
  have l3 : Below h w w3 := by rw [← hw3]; exact l2.alloc (by omega) _
  replace b0 : Box w3 h #[.int .i64 0, .int .i64 1, .int .i64 2] 3 := by rw [← hw3]; exact b0.alloc _
  replace b1 : Box w3 (h + 1) #[.int .i64 (-1), .int .i64 (-1), .int .i64 1] 3 := by rw [← hw3]; exact b1.alloc _
  replace b2 : Box w3 (h + 1 + 1) #[.int .i64 10, .int .i64 1, .int .i64 0, .int .i64 0, .int .i64 0, .int .i64 1, .slice none 0 0, .int .i64 15, .int .i64 2, .int .i64 1, .int .i64 0, .int .i64 0, .int .i64 0, .slice none 0 0, .int .i64 17, .int .i64 0, .int .i64 2, .int .i64 0, .int .i64 0, .int .i64 0, .slice none 0 0, .int .i64 23, .int .i64 0, .int .i64 0, .int .i64 0, .int .i64 0, .int .i64 0, .slice none 0 0] 47 := by rw [← hw3]; exact b2.alloc _
  rw [hw3]
  obtain ⟨w4, hw4⟩ : ∃ w4, w3.alloc (.cells #[.slice (some ⟨h, 0, none⟩) 3 3, .slice (some ⟨h + 1, 0, none⟩) 3 3, .int .i64 0, .int .i64 0, .slice (some ⟨h + 1 + 1 + 1, 0, none⟩) 1 1] 32) = w4 := ⟨_, rfl⟩
  have b4 : Box w4 (h + 1 + 1 + 1 + 1) #[.slice (some ⟨h, 0, none⟩) 3 3, .slice (some ⟨h + 1, 0, none⟩) 3 3, .int .i64 0, .int .i64 0, .slice (some ⟨h + 1 + 1 + 1, 0, none⟩) 1 1] 32 := by rw [← hw4, ← z3]; exact Box.new _ _ _
  have z4 : w4.heap.size = h + 1 + 1 + 1 + 1 + 1 := by rw [← hw4, World.size_alloc, z3]
  have l4 : Below h w w4 := by rw [← hw4]; exact l3.alloc (by omega) _
  replace b0 : Box w4 h #[.int .i64 0, .int .i64 1, .int .i64 2] 3 := by rw [← hw4]; exact b0.alloc _
  replace b1 : Box w4 (h + 1) #[.int .i64 (-1), .int .i64 (-1), .int .i64 1] 3 := by rw [← hw4]; exact b1.alloc _
  replace b2 : Box w4 (h + 1 + 1) #[.int .i64 10, .int .i64 1, .int .i64 0, .int .i64 0, .int .i64 0, .int .i64 1, .slice none 0 0, .int .i64 15, .int .i64 2, .int .i64 1, .int .i64 0, .int .i64 0, .int .i64 0, .slice none 0 0, .int .i64 17, .int .i64 0, .int .i64 2, .int .i64 0, .int .i64 0, .int .i64 0, .slice none 0 0, .int .i64 23, .int .i64 0, .int .i64 0, .int .i64 0, .int .i64 0, .int .i64 0, .slice none 0 0] 47 := by rw [← hw4]; exact b2.alloc _
  replace b3 : Box w4 (h + 1 + 1 + 1) #[.slice (some ⟨h + 1 + 1, 0, none⟩) 4 4] 39 := by rw [← hw4]; exact b3.alloc _
  rw [hw4]
  clear hw0 hw1 hw2 hw3 hw4 z0 z1 z2 z3 l0 l1 l2 l3
  have r0 : i64R 0 := by unfold i64R; omega
  refine ⟨b4, ⟨?_, ?_, ?_, r0, r0⟩, l4⟩
  · refine ⟨_, 3, rfl, Nat.le_refl _, by omega, fun _ => ⟨_, 0, rfl, b0.lt, fun j y hj => ?_⟩⟩
    have hj4 : j < 3 := (List.getElem?_eq_some_iff.1 hj).1
    rcases (show j = 0 ∨ j = 1 ∨ j = 2 by omega) with rfl | rfl | rfl
    · injection hj with hj
      subst hj
      exact ⟨(b0.cell 0 (v := .int .i64 0) rfl).1, by unfold i64R; omega⟩
    · injection hj with hj
      subst hj
      exact ⟨(b0.cell 1 (v := .int .i64 1) rfl).1, by unfold i64R; omega⟩
    · injection hj with hj
      subst hj
      exact ⟨(b0.cell 2 (v := .int .i64 2) rfl).1, by unfold i64R; omega⟩
  · refine ⟨_, 3, rfl, Nat.le_refl _, by omega, fun _ => ⟨_, 0, rfl, b1.lt, fun j y hj => ?_⟩⟩
    have hj4 : j < 3 := (List.getElem?_eq_some_iff.1 hj).1
    rcases (show j = 0 ∨ j = 1 ∨ j = 2 by omega) with rfl | rfl | rfl
    · injection hj with hj
      subst hj
      exact ⟨(b1.cell 0 (v := .int .i64 (-1)) rfl).1, by unfold i64R; omega⟩
    · injection hj with hj
      subst hj
      exact ⟨(b1.cell 1 (v := .int .i64 (-1)) rfl).1, by unfold i64R; omega⟩
    · injection hj with hj
      subst hj
      exact ⟨(b1.cell 2 (v := .int .i64 1) rfl).1, by unfold i64R; omega⟩
  · refine vec_one b3.lt ⟨_, (b3.cell 0 rfl).1, ⟨_, 4, rfl, Nat.le_refl _, by omega, fun _ => ⟨_, 0, rfl, b2.lt, fun j y hj => ?_⟩⟩⟩ (by omega) (by omega)
    have hj4 : j < 4 := (List.getElem?_eq_some_iff.1 hj).1
    rcases (show j = 0 ∨ j = 1 ∨ j = 2 ∨ j = 3 by omega) with rfl | rfl | rfl | rfl
    · injection hj with hj
      subst hj
      refine ⟨.slice none 0 0, ⟨(b2.cell 0 (v := .int .i64 10) rfl).1, (b2.cell 1 (v := .int .i64 1) rfl).1, (b2.cell 2 (v := .int .i64 0) rfl).1, (b2.cell 3 (v := .int .i64 0) rfl).1, (b2.cell 4 (v := .int .i64 0) rfl).1, (b2.cell 5 (v := .int .i64 1) rfl).1, (b2.cell 6 (v := .slice none 0 0) rfl).1⟩, Vec.nil _ _ _, ?_⟩
      unfold InsR i64R; simp
    · injection hj with hj
      subst hj
      refine ⟨.slice none 0 0, ⟨(b2.cell 7 (v := .int .i64 15) rfl).1, (b2.cell 8 (v := .int .i64 2) rfl).1, (b2.cell 9 (v := .int .i64 1) rfl).1, (b2.cell 10 (v := .int .i64 0) rfl).1, (b2.cell 11 (v := .int .i64 0) rfl).1, (b2.cell 12 (v := .int .i64 0) rfl).1, (b2.cell 13 (v := .slice none 0 0) rfl).1⟩, Vec.nil _ _ _, ?_⟩
      unfold InsR i64R; simp
    · injection hj with hj
      subst hj
      refine ⟨.slice none 0 0, ⟨(b2.cell 14 (v := .int .i64 17) rfl).1, (b2.cell 15 (v := .int .i64 0) rfl).1, (b2.cell 16 (v := .int .i64 2) rfl).1, (b2.cell 17 (v := .int .i64 0) rfl).1, (b2.cell 18 (v := .int .i64 0) rfl).1, (b2.cell 19 (v := .int .i64 0) rfl).1, (b2.cell 20 (v := .slice none 0 0) rfl).1⟩, Vec.nil _ _ _, ?_⟩
      unfold InsR i64R; simp
    · injection hj with hj
      subst hj
      refine ⟨.slice none 0 0, ⟨(b2.cell 21 (v := .int .i64 23) rfl).1, (b2.cell 22 (v := .int .i64 0) rfl).1, (b2.cell 23 (v := .int .i64 0) rfl).1, (b2.cell 24 (v := .int .i64 0) rfl).1, (b2.cell 25 (v := .int .i64 0) rfl).1, (b2.cell 26 (v := .int .i64 0) rfl).1, (b2.cell 27 (v := .slice none 0 0) rfl).1⟩, Vec.nil _ _ _, ?_⟩
      unfold InsR i64R; simp
theorem p12_0 : nxt P12 (0 : Nat) = [] := by decide
theorem p12_ok : FlowOk P12 := by
  refine ⟨by decide, by decide, fun k v hv => ?_⟩
  rcases (show k = 0 ∨ 1 ≤ k by omega) with rfl | h
  · rw [p12_0] at hv
    simp at hv
  · have : nxt P12 k = [] := by
      unfold nxt
      rw [List.getElem?_eq_none (by show 1 ≤ k; exact h)]
    rw [this] at hv
    simp at hv
theorem p12_ne : ∀ c, c < P12.blocks.length → codeOf P12 c ≠ [] := fun c hc => by
  obtain rfl : c = 0 := by have : c < 1 := hc; omega
  simp [codeOf, P12]
theorem p12_few : ∀ l ∈ P12.blocks, ∀ x ∈ l, x.args.length ≤ 1099511627000 := by decide
theorem p12_end {t : List Nat} (h : EndS P12 0 t) : t = [] := by
  obtain ⟨σ, -, rfl⟩ := h
  rw [p12_0]
  show joinL [] = []
  decide
theorem p12_here : hereB P12 0 1 = true := by decide
theorem p12_t : thrS ((codeOf P12 0).drop ((1 : Int).toNat + 1)) [] = [4] := by decide +kernel
theorem p12_q0 {k : Nat} {i : Int} {s : List Nat} (h : LvQ P12 k 0 i s) (hh : hereB P12 0 i = true) : s = thrS ((codeOf P12 0).drop (i.toNat + k)) [] := by
  unfold LvQ at h
  rw [if_pos hh] at h
  obtain ⟨t, ht, rfl⟩ := h
  rw [p12_end ht]
  rfl
theorem p12_q {s : List Nat} (h : LvQ P12 1 0 1 s) : s = [4] := (p12_q0 h p12_here).trans p12_t
theorem p12_c : closeL P12 [4] = [6] := by decide +kernel
theorem p12_a {t : List Nat} (h : AcrQ P12 0 1 t) : t = [2] := by
  unfold AcrQ at h
  rw [if_pos p12_here] at h
  obtain ⟨s, x, hs, hx, rfl⟩ := h
  rw [p12_q hs, p12_c]
  have : x = ⟨15, 2, 1, 0, 0, 0, []⟩ := (Option.some.inj hx).symm
  subst this
  decide +kernel
theorem p12_r : ofkN P12 [6] 1 P12.kinds.length = [1] := by decide
theorem p12_d : ofkN P12 [6] 2 P12.kinds.length = [2] := by decide
def At12 (w : World) (p : Value) (wx : World) : Prop := ∃ Ak Ab As h, p = .pointer (some ⟨h, 0, none⟩) ∧ Box wx h #[.slice Ak 3 3, .slice Ab 3 3, .int .i64 0, .int .i64 0, .slice As 1 1] 32 ∧ FunI wx (· < wx.heap.size) (.slice Ak 3 3) (.slice Ab 3 3) (.slice As 1 1) P12 ∧ Below w.heap.size w wx
theorem at12_of (w : World) : At12 w (.pointer (some ⟨w.heap.size + 1 + 1 + 1 + 1, 0, none⟩)) (WP12 w w.heap.size) := ⟨_, _, _, _, rfl, (P12_of w).1, (P12_of w).2.1, (P12_of w).2.2⟩
theorem intsLit (W : World) (v : Value) (b : Nat) (zs : List Int) (cs : Array Value) (n : Nat) (hz : ∀ z ∈ zs, i64R z) (hc : cs.toList = zs.map (Value.int .i64)) (hn : zs.length = n) (hm : n ≤ 1000) (h : Ow W b 3 .i64 v zs) :
    Calls Tryz.prog 16 #[v, .slice (some ⟨W.heap.size, 0, none⟩) n n] (W.alloc (.cells cs 3)) fun e w' => e = .returned (.bool true) ∧ Below W.heap.size W w' := by
  subst hn
  have h1 : IntsV (W.alloc (.cells cs 3)) (· < W.heap.size + 1) v zs := by
    have h := (h.alloc (.cells cs 3)).intsV hz
    rwa [World.size_alloc] at h
  have h2 := (Sl.lit W 3 .i64 cs zs hc).vec (c := zs.length) (Nat.le_refl _) (by omega) hz
  exact (rints_any _ _ zs zs _ _ h1 h2).mono fun e w' ⟨q1, q, q2⟩ => ⟨by rw [q1]; simp, by rw [q2]; exact below_drewN (alloc1 W _) q⟩
set_option maxHeartbeats 4000000 in
set_option maxRecDepth 100000 in
theorem alive12_any (w : World) (hT : TabP w) : Calls Tryz.prog 4 #[] w fun e w' => e = .returned (.bool true) ∧ Below w.heap.size w w' := by
  go_enter Tryz.func4, Tryz.ntmps4
  go_upto_region 1 with (fail)
  go_cut [1] from 2 (fun p wx => At12 w p wx)
  case first =>
    go_wp2
    go_meet
    case rel => exact at12_of w
  case rest =>
    obtain ⟨Ak, Ab, As, h, rfl, hbx, hfi, hbc⟩ := hcut
    have HBC := hide hbc
    have HK5 := hide (fun (W : World) (hW : Below wc.heap.size wc W) => And.intro ((hbx.below hW).cell 0 (v := .slice Ak 3 3) rfl).1 (And.intro ((hbx.below hW).cell 1 (v := .slice Ab 3 3) rfl).1 (And.intro ((hbx.below hW).cell 2 (v := .int .i64 0) rfl).1 (And.intro ((hbx.below hW).cell 3 (v := .int .i64 0) rfl).1 ((hbx.below hW).cell 4 (v := .slice As 1 1) rfl).1))))
    have kf := fun (W : World) (hW : Below wc.heap.size wc W) => hfi.keep (w := wc) (up hW (Nat.le_refl _)) (fun _ h => h)
    have kT := fun (W : World) (hW : Below wc.heap.size wc W) => hT.below (HBC.out.trans (hW.mono HBC.out.size)) hT.1
    have HBH := hide (fun (W : World) (hW : Below wc.heap.size wc W) => (show Calls Tryz.prog 15 #[.agg #[.slice Ak 3 3, .slice Ab 3 3, .int .i64 0, .int .i64 0, .slice As 1 1], .int .i64 0, .int .i64 1] W fun e w' => (∃ A c, e = .returned (.slice A 1 c) ∧ SetV w' (.slice A 1 c) [6]) ∧ Below W.heap.size W w' from
      (kp_behind_any _ _ _ P12 0 1 W wc.heap.size hW.size (kf W hW) (kT W hW) p12_ok p12_ne p12_few (by decide)).mono fun e w' h => by
        obtain ⟨r, s, he, hq, hv, hb⟩ := h
        rw [p12_q hq, p12_c] at hv
        have hv2 := hv.ws
        obtain ⟨A, c, rfl, -⟩ := id hv2
        exact ⟨⟨A, c, he, hv2⟩, hb⟩))
    have HAC := hide (fun (W : World) (hW : Below wc.heap.size wc W) => (show Calls Tryz.prog 19 #[.agg #[.slice Ak 3 3, .slice Ab 3 3, .int .i64 0, .int .i64 0, .slice As 1 1], .int .i64 0, .int .i64 1] W fun e w' => (∃ A c, e = .returned (.slice A 1 c) ∧ SetV w' (.slice A 1 c) [2]) ∧ Below W.heap.size W w' from
      (across_any _ _ _ P12 0 1 W wc.heap.size hW.size (kf W hW) (kT W hW) p12_ok p12_ne p12_few (by decide)).mono fun e w' h => by
        obtain ⟨r, s, he, hq, hv, hb⟩ := h
        rw [p12_a hq] at hv
        obtain ⟨A, c, rfl, -⟩ := id hv
        exact ⟨⟨A, c, he, hv⟩, hb⟩))
    have HRF := hide (fun (W : World) (hW : Below wc.heap.size wc W) (A : Option Addr) (c : Nat) (hv : SetV W (.slice A 1 c) [6]) => (show Calls Tryz.prog 18 #[.agg #[.slice Ak 3 3, .slice Ab 3 3, .int .i64 0, .int .i64 0, .slice As 1 1], .slice A 1 c] W fun e w' => ∃ r, e = .returned r ∧ Ow w' W.heap.size 3 .i64 r [1] ∧ Below W.heap.size W w' by
      have t := refs_any _ _ _ P12 (.slice A 1 c) [6] W wc.heap.size hW.size (kf W hW) (by decide) hv (by decide) (fun x hx => by simp at hx; omega)
      rw [p12_r] at t
      exact t))
    have HDR := hide (fun (W : World) (hW : Below wc.heap.size wc W) (A : Option Addr) (c : Nat) (hv : SetV W (.slice A 1 c) [6]) => (show Calls Tryz.prog 13 #[.agg #[.slice Ak 3 3, .slice Ab 3 3, .int .i64 0, .int .i64 0, .slice As 1 1], .slice A 1 c] W fun e w' => ∃ r, e = .returned r ∧ Ow w' W.heap.size 3 .i64 r [2] ∧ Below W.heap.size W w' by
      have t := ders_any _ _ _ P12 (.slice A 1 c) [6] W wc.heap.size hW.size (kf W hW) (by decide) hv (by decide) (fun x hx => by simp at hx; omega)
      rw [p12_d] at t
      exact t))
    have HL6 := hide (fun (W : World) (A : Option Addr) (c : Nat) (hv : SetV W (.slice A 1 c) [6]) => (show Calls Tryz.prog 17 #[.slice A 1 c] W fun e w' => ∃ v, e = .returned v ∧ Ow w' W.heap.size 3 .i64 v [1, 2] ∧ Below W.heap.size W w' by
      obtain ⟨A', c', e', -, -, hs⟩ := hv
      injection e' with q1 q2 q3
      subst q1
      have t := rlist_any A 1 c [6] W hs rfl (by omega) (fun x hx => by simp at hx; omega)
      rw [show listL [6] = [1, 2] by decide +kernel] at t
      exact t))
    have HL2 := hide (fun (W : World) (A : Option Addr) (c : Nat) (hv : SetV W (.slice A 1 c) [2]) => (show Calls Tryz.prog 17 #[.slice A 1 c] W fun e w' => ∃ v, e = .returned v ∧ Ow w' W.heap.size 3 .i64 v [1] ∧ Below W.heap.size W w' by
      obtain ⟨A', c', e', -, -, hs⟩ := hv
      injection e' with q1 q2 q3
      subst q1
      have t := rlist_any A 1 c [2] W hs rfl (by omega) (fun x hx => by simp at hx; omega)
      rw [show listL [2] = [1] by decide +kernel] at t
      exact t))
    have HI12 := hide (fun (W : World) (v : Value) (b : Nat) (h : Ow W b 3 .i64 v [1, 2]) => intsLit W v b [1, 2] #[.int .i64 1, .int .i64 2] 2 (by unfold i64R; simp) rfl rfl (by omega) h)
    have HI1 := hide (fun (W : World) (v : Value) (b : Nat) (h : Ow W b 3 .i64 v [1]) => intsLit W v b [1] #[.int .i64 1] 1 (by unfold i64R; simp) rfl rfl (by omega) h)
    have HI2 := hide (fun (W : World) (v : Value) (b : Nat) (h : Ow W b 3 .i64 v [2]) => intsLit W v b [2] #[.int .i64 2] 1 (by unfold i64R; simp) rfl rfl (by omega) h)
    obtain ⟨c0, c1, c2, c3, c4⟩ := HK5.out wc (Below.refl _ _)
    have hlh := hbx.lt
    clear hbx hfi hbc kf kT hT
    go_wp2_with (first
      | (go_at_call 16; refine (HI1.out wj vj _ HOj.out).mono ?_; rintro e wk ⟨rfl, hb⟩; have hc : Below wc.heap.size wc wk := HCwj.out.trans (hb.mono HCwj.out.size); obtain ⟨d0, d1, d2, d3, d4⟩ := HK5.out wk hc; have HCwk := hide hc; clear hb hc)
      | (go_at_call 17; refine (HL2.out wi Ai ki HVi.out).mono ?_; rintro e wj ⟨vj, rfl, ho, hb⟩; have hc : Below wc.heap.size wc wj := HCwi.out.trans (hb.mono HCwi.out.size); obtain ⟨d0, d1, d2, d3, d4⟩ := HK5.out wj hc; have HOj := hide ho; clear ho; have HCwj := hide hc; clear hb hc)
      | (go_at_call 19; refine (HAC.out wh HCwh.out).mono ?_; rintro e wi ⟨⟨Ai, ki, rfl, hv⟩, hb⟩; have hc : Below wc.heap.size wc wi := HCwh.out.trans (hb.mono HCwh.out.size); obtain ⟨d0, d1, d2, d3, d4⟩ := HK5.out wi hc; have HVi := hide hv; clear hv; have HCwi := hide hc; clear hb hc)
      | (go_at_call 16; refine (HI2.out wg vg _ HOg.out).mono ?_; rintro e wh ⟨rfl, hb⟩; have hc : Below wc.heap.size wc wh := HCwg.out.trans (hb.mono HCwg.out.size); obtain ⟨d0, d1, d2, d3, d4⟩ := HK5.out wh hc; have HCwh := hide hc; clear hb hc)
      | (go_at_call 13; refine (HDR.out wf HCwf.out As6 k6 HVf.out).mono ?_; rintro e wg ⟨vg, rfl, ho, hb⟩; have hc : Below wc.heap.size wc wg := HCwf.out.trans (hb.mono HCwf.out.size); obtain ⟨d0, d1, d2, d3, d4⟩ := HK5.out wg hc; have HOg := hide ho; clear ho; have HCwg := hide hc; clear hb hc)
      | (go_at_call 16; refine (HI1.out we ve _ HOe.out).mono ?_; rintro e wf ⟨rfl, hb⟩; have hc : Below wc.heap.size wc wf := HCwe.out.trans (hb.mono HCwe.out.size); obtain ⟨d0, d1, d2, d3, d4⟩ := HK5.out wf hc; have HVf := hide (HVe.out.below hb); have HCwf := hide hc; clear hb hc)
      | (go_at_call 18; refine (HRF.out wd HCwd.out As6 k6 HVd.out).mono ?_; rintro e we ⟨ve, rfl, ho, hb⟩; have hc : Below wc.heap.size wc we := HCwd.out.trans (hb.mono HCwd.out.size); obtain ⟨d0, d1, d2, d3, d4⟩ := HK5.out we hc; have HOe := hide ho; have HVe := hide (HVd.out.below hb); clear ho; have HCwe := hide hc; clear hb hc)
      | (go_at_call 16; refine (HI12.out wb vb _ HOb.out).mono ?_; rintro e wd ⟨rfl, hb⟩; have hc : Below wc.heap.size wc wd := HCwb.out.trans (hb.mono HCwb.out.size); obtain ⟨d0, d1, d2, d3, d4⟩ := HK5.out wd hc; have HVd := hide (HVb.out.below hb); have HCwd := hide hc; clear hb hc)
      | (go_at_call 17; refine (HL6.out wa As6 k6 HVa.out).mono ?_; rintro e wb ⟨vb, rfl, ho, hb⟩; have hc : Below wc.heap.size wc wb := HCwa.out.trans (hb.mono HCwa.out.size); obtain ⟨d0, d1, d2, d3, d4⟩ := HK5.out wb hc; have HOb := hide ho; have HVb := hide (HVa.out.below hb); clear ho; have HCwb := hide hc; clear hb hc)
      | (go_at_call 15; refine (HBH.out wc (Below.refl _ _)).mono ?_; rintro e wa ⟨⟨As6, k6, rfl, hv⟩, hb⟩; obtain ⟨d0, d1, d2, d3, d4⟩ := HK5.out wa hb; have HVa := hide hv; have HCwa := hide hb; clear hb hv))
    go_ret
    exact ⟨by simp, HBC.out.trans (HCwk.out.mono HBC.out.size)⟩
set_option maxHeartbeats 4000000 in
set_option maxRecDepth 100000 in
theorem out12_any (vp : Value) (p : List FunV) (w : World) (B : Nat) (hB : B ≤ w.heap.size) (hp : FunsV w (· < B) vp p) (hsz : progSize p) :
    Calls Tryz.prog 5 #[.agg #[vp]] w fun e w' => ∃ b : Bool, e = .returned (.bool b) ∧ Hid (b = false → progB4 p = true ∧ progFew p) ∧ Below w.heap.size w w' := by
  have HG := hide (fun (W : World) (hW : Below w.heap.size w W) => great2_any vp p W B (by have := hW.size; omega) (hp.keep (up hW hB) (fun _ h => h)) hsz)
  have HCK := hide (fun (W : World) (hW : Below w.heap.size w W) (hf : progFew p) => check4_any vp p W B (by have := hW.size; omega) (hp.keep (up hW hB) (fun _ h => h)) hf)
  have HFEW := hide (fun h : ∀ f ∈ p, smallF f => smallF.few h)
  have HPK := hide (fun (W : World) (hW : Below w.heap.size w W) => hp.keep (up hW hB) (fun _ h => h))
  have HTWO := hide (two_chk p)
  generalize chkN4 p = ck at *
  obtain ⟨Ap, cp, rfl, hcp, hmp⟩ := hp.open'
  obtain ⟨lp, hlp⟩ : ∃ lp, p.length = lp := ⟨_, rfl⟩
  have HLP := hide hlp
  rw [hlp] at HPK HG HCK hcp ⊢
  clear hp hsz hlp
  go_enter Tryz.func5, Tryz.ntmps5
  go_upto_region 1 with (fail)
  obtain ⟨w1, hw1⟩ : ∃ w1, w1 = w.alloc (.cells #[.slice Ap lp cp] 24) := ⟨_, rfl⟩
  obtain ⟨h5, hh5⟩ : ∃ h5, w.heap.size = h5 := ⟨_, rfl⟩
  have HX0 := hide (show Box w1 (h5) #[.slice Ap lp cp] 24 by rw [hw1, ← hh5]; have t := Box.new w #[.slice Ap lp cp] 24; (try simp only [World.size_alloc] at t); exact t)
  have HB1 := hide (show Below w.heap.size w w1 by rw [hw1]; exact ((Below.refl _ _).alloc (Nat.le_refl _) _))
  have w1s := HB1.out.size
  have w1z := hide (show w1.heap.size = h5 + 1 by rw [hw1, ← hh5]; simp only [World.size_alloc])
  have HK0 := hide (fun (W : World) (hW : Below w1.heap.size w1 W) => ((HX0.out.below hW).cell 0 (v := .slice Ap lp cp) rfl).1)
  have lHX0 := HX0.out.lt
  have h5g : w.heap.size ≤ h5 := by omega
  rw [← hw1, hh5]
  clear hw1 hh5
  have p0 := HK0.out w1 (Below.refl _ _)
  go_wp2
  go_loopw [3, 4] (fun a i wr => ∃ (n : Int) (k : Nat), k ≤ lp ∧ a = .int .i64 n ∧ i = .int .i64 (k : Int) ∧ Below w1.heap.size w1 wr) (fun _ i _ => lp - (intOf i).toNat)
  case atStart => exact ⟨0, 0, Nat.zero_le _, rfl, rfl, Below.refl _ _⟩
  case round =>
    obtain ⟨n, k, hk, rfl, rfl, hb⟩ := hrel
    obtain ⟨wo, rfl⟩ : ∃ wo, wo = wr := ⟨_, rfl⟩
    have hszo := hb.size
    have HBEL := hide (HB1.out.trans (hb.mono HB1.out.size))
    have HBW := hide hb
    have HXO := hide (HX0.out.below hb)
    have xp := (HXO.out.cell 0 (v := .slice Ap lp cp) rfl).1
    have lxp := HXO.out.lt
    clear hb p0
    by_cases hgo : k < lp ∧ k < 9
    · obtain ⟨hlt, h9⟩ := hgo
      obtain ⟨f, hf⟩ : ∃ f, p[k]? = some f := ⟨_, List.getElem?_eq_getElem (by have := HLP.out; omega)⟩
      obtain ⟨bg, og, Ak, ck', Ab, cb, As, cs, hAp, hbgb, ⟨e0, e1, e2, e3, e4⟩, hi⟩ := (HPK.out wo HBEL.out).get hf
      subst hAp
      have hbs : bg < wo.heap.size := by omega
      clear hi hf
      generalize f.kinds.length = lk, f.base.length = lb, f.blocks.length = ls, f.params = fp, f.result = fr at *
      have hki : (0 : Int) ≤ (k : Int) := by omega
      have hkl : (k : Int) < (lp : Int) := by omega
      have hd1 : decide ((k : Int) < (lp : Int)) = true := by simpa using hkl
      have hd9 : decide ((k : Int) < 9) = true := by simp; omega
      go_upto_region 5 with (fail)
      go_region
      go_wp2
      go_roundw
      case rel => exact ⟨_, k + 1, by omega, rfl, by go_num, ⟨HBW.out.os, HBW.out.tape, HBW.out.output, HBW.out.size, HBW.out.block⟩⟩
      case measure => simp [intOf]; omega
    · have hend : (¬ k < lp ∧ decide ((k : Int) < (lp : Int)) = false) ∨ (k < lp ∧ ¬ k < 9 ∧ decide ((k : Int) < (lp : Int)) = true ∧ decide ((k : Int) < 9) = false) := by
        by_cases h1 : k < lp
        · exact .inr ⟨h1, by omega, by simp; omega, by simp; omega⟩
        · exact .inl ⟨h1, by simp; omega⟩
      clear hgo
      by_cases h14 : n > 14
      · have hd : decide (n > 14) = true := by simpa using h14
        have hd2 : decide (14 < n) = true := by simpa using h14
        rcases hend with ⟨hlt, hd1⟩ | ⟨hlt, h9, hd1, hd9⟩
        all_goals
          go_wp2
          go_ret
          exact ⟨true, rfl, hide (fun h => by cases h), HBEL.out⟩
      · have hd : decide (n > 14) = false := by simpa using h14
        have hd2 : decide (14 < n) = false := by simpa using h14
        rcases HTWO.out with ⟨rfl, hpb⟩ | rfl
        · have HPB := hide hpb
          clear hpb
          rcases hend with ⟨hlt, hd1⟩ | ⟨hlt, h9, hd1, hd9⟩
          all_goals
            go_wp2_with (first
              | (go_at_call 21; refine (HCK.out w2 HB2.out (HFEW.out (HS2.out (by first | assumption | exact Bool.eq_false_iff.2 (by assumption))))).mono ?_; rintro e w3 ⟨rfl, hb3⟩; have HF3 := hide (HFEW.out (HS2.out (by first | assumption | exact Bool.eq_false_iff.2 (by assumption)))); have HB3 := hide (HB2.out.trans (hb3.mono HB2.out.size)); clear hb3)
              | (go_at_call 20; refine (HG.out wo HBEL.out).mono ?_; rintro e w2 ⟨b1, rfl, hs2, hb2⟩; have x2 := ((HXO.out.below hb2).cell 0 (v := .slice Ap lp cp) rfl).1; have l2 := (HXO.out.below hb2).lt; have HB2 := hide (HBEL.out.trans (hb2.mono HBEL.out.size)); have HS2 := hide hs2; clear hb2 hs2))
            all_goals
              go_ret
              first
                | exact ⟨_, rfl, hide (fun _ => ⟨HPB.out, HF3.out⟩), HB3.out⟩
                | exact ⟨_, rfl, hide (fun h => by simp_all), HB2.out⟩
        · rcases hend with ⟨hlt, hd1⟩ | ⟨hlt, h9, hd1, hd9⟩
          all_goals
            go_wp2_with (first
              | (go_at_call 21; refine (HCK.out w2 HB2.out (HFEW.out (HS2.out (by first | assumption | exact Bool.eq_false_iff.2 (by assumption))))).mono ?_; rintro e w3 ⟨rfl, hb3⟩; have HB3 := hide (HB2.out.trans (hb3.mono HB2.out.size)); clear hb3)
              | (go_at_call 20; refine (HG.out wo HBEL.out).mono ?_; rintro e w2 ⟨b1, rfl, hs2, hb2⟩; have x2 := ((HXO.out.below hb2).cell 0 (v := .slice Ap lp cp) rfl).1; have l2 := (HXO.out.below hb2).lt; have HB2 := hide (HBEL.out.trans (hb2.mono HBEL.out.size)); have HS2 := hide hs2; clear hb2 hs2))
            all_goals
              go_ret
              first
                | exact ⟨true, rfl, hide (fun h => by cases h), HB3.out⟩
                | exact ⟨true, rfl, hide (fun h => by cases h), HB2.out⟩
end Go.Proofs.YtehboglielnjbaaGreatDoor
