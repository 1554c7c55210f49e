/- Layer 9, the program: contracts of slices.Grow and slices.Concat of objects, and of Alloc. No condition but on lengths. -/
import Derived.Test.YtjlndibeaklcdaaHG
import Derived.Lib.AppendZerosOnto
set_option linter.unusedSimpArgs false
set_option linter.unusedVariables false
namespace Go.Proofs.Ytjlndibeaklcdaa
open Go.RowKit

set_option maxHeartbeats 2000000 in
set_option maxRecDepth 100000 in
theorem hgrow_any (k : Nat) (hk : k ≤ 100000) (w : World) :
    Calls Try.prog 36 #[.slice none 0 0, .int .i64 (k : Int)] w fun e w' => ∃ v, e = .returned v ∧ OwC objC 43 2 w' w.heap.size v [] ∧ Below w.heap.size w w' := by
  by_cases h0 : k = 0
  · subst h0
    go_enter Try.func36, Try.ntmps36
    go_wp2
    go_ret
    exact ⟨_, rfl, OwC.nil _ _, Below.refl _ _⟩
  obtain ⟨i0, hi0, hz0, hz1, hz2⟩ := info_parts info_Obj
  have ht : Try.prog.underlying 22 = some (.slice 43) := by kernel_rfl
  have hold : (Builtin.firstCells i0.size 0 (.slice none 0 0)).run Try.prog w.drew = .ok (#[] : Array Value) w.drew := run_firstCells_none w.drew i0.size 0 0 0
  have hrz : ∀ ty, (Builtin.append_ #[22, 3] ty #[.slice none 0 0, .int .i64 (k : Int)]).run Try.prog w =
      .ok (.slice (some ⟨w.heap.size, 0, none⟩) k (grownCap w k 0 43)) (w.drew.alloc (.cells ((#[] : Array Value) ++ Builtin.zeroCells #[.slice none 0 0, .slice none 0 0] k ++ Builtin.zeroCells #[.slice none 0 0, .slice none 0 0] (grownCap w k 0 43 - k)) 43)) := fun ty => by
    have h := Lib.run_append_grow_zeros w 22 3 ty 43 i0 _ .i64 .i64 ht Try.underlying3 hi0 hz0 none 0 0 [] hold k (by omega) (by rw [hz1]; omega) (by omega) (by omega) (by rw [hz2]; omega) (growslice_fits (by omega) (by rw [hz2]; omega))
    rw [Nat.zero_add] at h
    exact h
  have hGn : k ≤ grownCap w k 0 43 := grownCap_ge w _ _ _
  have hGm : grownCap w k 0 43 ≤ maxLen := grownCap_le_maxLen w k 0 43 (by unfold maxLen; omega)
  obtain ⟨G, hG⟩ : ∃ G, G = grownCap w k 0 43 := ⟨_, rfl⟩
  rw [← hG] at hrz hGn hGm
  obtain ⟨cs, hcs⟩ : ∃ cs, cs = (#[] : Array Value) ++ Builtin.zeroCells #[.slice none 0 0, .slice none 0 0] k ++ Builtin.zeroCells #[.slice none 0 0, .slice none 0 0] (G - k) := ⟨_, rfl⟩
  have HSZ := hide (show cs.size = G * 2 by rw [hcs]; simp only [Array.size_append, size_zeroCells]; simp; omega)
  rw [← hcs] at hrz
  have HGM := hide hGm
  unfold maxLen at hGm
  have hkz : ¬ ((k : Int) < 0) := by omega
  have hk1 : (k : Int) > 0 := by omega
  clear hold hG hcs hi0 hz0 hz1 hz2 ht
  go_enter Try.func36, Try.ntmps36
  go_wp2_with (at_builtin; refine Lib.wpList_append_run _ rfl _ _ _ _ rfl _ _ rfl rfl _ _ (hrz _) ?_)
  go_ret
  refine ⟨_, rfl, ⟨rfl, .inr ⟨_, _, cs, rfl, Nat.le_refl _, heap_alloc_new w.drew _, Nat.zero_le _, HGM.out, HSZ.out, by simp⟩⟩, ?_⟩
  exact (below_drewN (Below.refl _ _) 1).alloc (Nat.le_refl _) _
set_option maxHeartbeats 2000000 in
set_option maxRecDepth 100000 in
theorem hconcat_any (hs : Nat) (A1 A2 : Option Addr) (n c m d : Nat) (xs ys : List ObjV) (w : World) (S : Nat → Prop) (hS : ∀ b, S b → b < w.heap.size) (hb : Box w hs #[.slice A1 n c, .slice A2 m d] 22) (hx : ObjsV w S (.slice A1 n c) xs) (hy : ObjsV w S (.slice A2 m d) ys) (hn : xs.length = n) (hm : ys.length = m) (hmx : n + m ≤ 100000) :
    Calls Try.prog 25 #[.slice (some ⟨hs, 0, none⟩) 2 2] w fun e w' => ∃ v, e = .returned v ∧ ObjsV w' (fun b => S b ∨ Made w w' b) v (xs ++ ys) ∧ Below w.heap.size w w' := by
  have HG := hide (fun (W : World) => (show Calls Try.prog 36 #[.slice none 0 0, .int .i64 ((n : Int) + (m : Int))] W fun e w' => ∃ v, e = .returned v ∧ OwC objC 43 2 w' W.heap.size v [] ∧ Below W.heap.size W w' by have h := hgrow_any (n + m) hmx W; rwa [Int.natCast_add] at h))
  obtain ⟨l1, e1, ok1, cl1⟩ := hx.cells
  obtain ⟨l2, e2, ok2, cl2⟩ := hy.cells
  have hl1 : l1.length = n := by have := congrArg List.length e1; rw [List.length_map] at this; omega
  have hl2 : l2.length = m := by have := congrArg List.length e2; rw [List.length_map] at this; omega
  have HL1 := hide hl1
  have HL2 := hide hl2
  have HE1 := hide e1
  have HE2 := hide e2
  have HO1 := hide ok1
  have HO2 := hide ok2
  have HN1 := hide (ObjOk.one ok1)
  have HN2 := hide (ObjOk.one ok2)
  rw [hn] at cl1
  rw [hm] at cl2
  have HR1 := hide (fun (W : World) (hW : Below w.heap.size w W) => (show 0 < n → ∃ b o, A1 = some ⟨b, o, none⟩ ∧ ∀ (j : Nat) (u : Value), (l1.flatMap objC)[j]? = some u → W.cell? ⟨b, o + j, none⟩ = some u from fun h => by
    obtain ⟨b, o, e, hb, hc⟩ := cl1 h
    exact ⟨b, o, e, fun j u hu => (hW.cell (p := ⟨b, o + j, none⟩) (hS b hb)).trans (hc j u hu)⟩))
  have HR2 := hide (fun (W : World) (hW : Below w.heap.size w W) => (show 0 < m → ∃ b o, A2 = some ⟨b, o, none⟩ ∧ ∀ (j : Nat) (u : Value), (l2.flatMap objC)[j]? = some u → W.cell? ⟨b, o + j, none⟩ = some u from fun h => by
    obtain ⟨b, o, e, hb, hc⟩ := cl2 h
    exact ⟨b, o, e, fun j u hu => (hW.cell (p := ⟨b, o + j, none⟩) (hS b hb)).trans (hc j u hu)⟩))
  have HBX := hide (fun (W : World) (hW : Below w.heap.size w W) => And.intro ((hb.below hW).cell 0 (v := .slice A1 n c) rfl).1 ((hb.below hW).cell 1 (v := .slice A2 m d) rfl).1)
  have lhs := hb.lt
  obtain ⟨b0, b1⟩ := HBX.out w (Below.refl _ _)
  clear hb hx hy hn hm e1 e2 ok1 ok2 cl1 cl2 hl1 hl2
  have hw1 : IntKind.i64.wrap ((n : Int) + (m : Int)) = (n : Int) + (m : Int) := by rw [IntWalk.i64_in _ ⟨by omega, by omega⟩]
  go_enter Try.func25, Try.ntmps25
  go_wp2
  go_loop [3, 11] (fun s i => (i = .int .i64 0 ∧ s = .int .i64 0) ∨ (i = .int .i64 1 ∧ s = .int .i64 (n : Int)) ∨ (i = .int .i64 2 ∧ s = .int .i64 ((n : Int) + (m : Int)))) (fun _ i => 2 - (intOf i).toNat)
  case atStart => exact .inl ⟨rfl, rfl⟩
  case round =>
    rcases hrel with ⟨rfl, rfl⟩ | ⟨rfl, rfl⟩ | ⟨rfl, rfl⟩
    · go_wp2
      go_round
      case rel => exact .inr (.inl ⟨rfl, by simp⟩)
      case measure => simp [intOf]
    · have hnm : ¬ ((n : Int) + (m : Int) < 0) := by omega
      go_wp2
      go_round
      case rel => exact .inr (.inr ⟨rfl, by first | rfl | simp⟩)
      case measure => simp [intOf]
    · go_wp2_with (go_at_call 36; (with_reducible refine (HG.out w).mono ?_); rintro e w2 ⟨v2, rfl, ho2, hb2⟩; have HO := hide ho2; have HB2 := hide hb2; clear ho2 hb2)
      go_loopw [6, 27] (fun s i wr => ∃ (u : Value) (l : List ObjT), u = s ∧ ((i = .int .i64 0 ∧ l = []) ∨ (i = .int .i64 1 ∧ l = l1) ∨ (i = .int .i64 2 ∧ l = l1 ++ l2)) ∧ Hid (OwC objC 43 2 wr w.heap.size u l) ∧ Below w.heap.size w wr) (fun _ i _ => 2 - (intOf i).toNat)
      case atStart => exact ⟨_, [], rfl, .inl ⟨rfl, rfl⟩, HO, HB2.out⟩
      case round =>
        obtain ⟨u, l, rfl, hc, HO, hb⟩ := hrel
        obtain ⟨wo, rfl⟩ : ∃ wo, wo = wr := ⟨_, rfl⟩
        have hsz := hb.size
        have HB := hide hb
        obtain ⟨b0, b1⟩ := HBX.out wo hb
        have lho : hs < wo.heap.size := by omega
        clear hb
        rcases hc with ⟨rfl, rfl⟩ | ⟨rfl, rfl⟩ | ⟨rfl, rfl⟩
        · go_wp2_with (at_builtin; refine wpList_append_objs _ rfl (.tmp 31) (.tmp 32) rfl w.heap.size u [] (by rfl) HO.out A1 n c l1 (by rfl) HL1.out HN1.out (HR1.out wo HB.out) (by simp; omega) hsz ?_; intro v5 w5 ho5 hb5)
          go_roundw
          case rel => exact ⟨_, l1, rfl, .inr (.inl ⟨rfl, rfl⟩), hide (by simpa using ho5), HB.out.trans hb5⟩
          case measure => simp [intOf]
        · have hroom := HL1.out
          have HRM := hide (show l.length + m ≤ 1000000 by omega)
          clear hroom
          go_wp2_with (at_builtin; refine wpList_append_objs _ rfl (.tmp 31) (.tmp 32) rfl w.heap.size u l (by rfl) HO.out A2 m d l2 (by rfl) HL2.out HN2.out (HR2.out wo HB.out) HRM.out hsz ?_; intro v5 w5 ho5 hb5)
          go_roundw
          case rel => exact ⟨_, l ++ l2, rfl, .inr (.inr ⟨rfl, rfl⟩), hide ho5, HB.out.trans hb5⟩
          case measure => simp [intOf]
        · go_wp2
          go_ret
          refine ⟨u, rfl, ?_, HB.out⟩
          rw [← HE1.out, ← HE2.out, ← List.map_append]
          refine objs_vec HO.out (fun p hp => ?_) (fun b hb => .inr (World.ownsRow.lt HO.out b hb))
          rcases List.mem_append.1 hp with hp | hp
          · exact (HO1.out p hp).keep (upS HB.out hS) (fun b hb => .inl hb)
          · exact (HO2.out p hp).keep (upS HB.out hS) (fun b hb => .inl hb)
end Go.Proofs.Ytjlndibeaklcdaa
