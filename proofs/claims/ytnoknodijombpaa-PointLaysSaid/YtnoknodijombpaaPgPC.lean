/- Layer 14, the program: slices.Grow and slices.Concat of instructions. Condition: no more than 100,000 together. -/
import Derived.Test.YtnoknodijombpaaPgPB
import Derived.Lib.AppendZerosOnto
set_option linter.unusedSimpArgs false
set_option linter.unusedVariables false
namespace Go.Proofs.Ytnoknodijombpaa
open Go.RowKit

theorem InssV.cells14 {w : World} {S : Nat → Prop} {A : Option Addr} {n c : Nat} {xs : List InsV} (hx : InssV w S (.slice A n c) xs) : ∃ l : List (InsV × Value), l.map (·.1) = xs ∧ (∀ p ∈ l, InsI w S p.2 p.1) ∧ (0 < xs.length → ∃ b o, A = some ⟨b, o, none⟩ ∧ S b ∧ ∀ (j : Nat) (u : Value), (l.flatMap insC)[j]? = some u → w.cell? ⟨b, o + j, none⟩ = some u) := by
  have hx' := hx
  obtain ⟨A', c', e, -, -⟩ := hx'.open'
  injection e with e1 e2 e3
  subst e1
  subst e2
  subst e3
  obtain ⟨l, hl, hok, hcell⟩ := vec_cells (c := insC) (w := w) (fun _ => rfl) (fun p : InsV × Value => p.1) (fun p => InsI w S p.2 p.1) (fun b o x _ ⟨v, ⟨h0, h1, h2, h3, h4, h5, h6⟩, h7⟩ => ⟨(x, v), rfl, h7, fun i u hu => by
    have hi : i < 7 := (List.getElem?_eq_some_iff.1 hu).1
    rcases (show i = 0 ∨ i = 1 ∨ i = 2 ∨ i = 3 ∨ i = 4 ∨ i = 5 ∨ i = 6 by omega) with rfl | rfl | rfl | rfl | rfl | rfl | rfl <;> simp [insC] at hu <;> subst hu <;> assumption⟩) hx
  exact ⟨l, hl, hok, hcell⟩
theorem insC_one {w : World} {S : Nat → Prop} {l : List (InsV × Value)} (h : ∀ p ∈ l, InsI w S p.2 p.1) : ∀ u ∈ l.flatMap insC, u.oneCell' = true := by
  intro u hu
  obtain ⟨p, hp, hu⟩ := List.mem_flatMap.1 hu
  obtain ⟨A, c, e⟩ := (h p hp).open'
  simp only [insC, List.mem_cons, List.mem_nil_iff, or_false] at hu
  rcases hu with rfl | rfl | rfl | rfl | rfl | rfl | rfl
  all_goals first | rfl | (rw [e]; rfl)
set_option maxHeartbeats 2000000 in
set_option maxRecDepth 100000 in
theorem igrow_any (k : Nat) (hk : k ≤ 100000) (w : World) :
    Calls Try.prog 73 #[.slice none 0 0, .int .i64 (k : Int)] w fun e w' => ∃ v, e = .returned v ∧ OwC insC 50 7 w' w.heap.size v [] ∧ Below w.heap.size w w' := by
  by_cases h0 : k = 0
  · subst h0
    go_enter Try.func73, Try.ntmps73
    go_wp2
    go_ret
    exact ⟨_, rfl, OwC.nil _ _, Below.refl _ _⟩
  obtain ⟨i0, hi0, hz0, hz1, hz2⟩ := info_parts info_ins13
  have ht : Try.prog.underlying 51 = some (.slice 50) := by kernel_rfl
  have hold : (Builtin.firstCells i0.size 0 (.slice none 0 0)).run Try.prog w.drew = .ok (#[] : Array Value) w.drew := run_firstCells_none w.drew i0.size 0 0 0
  have hrz : ∀ ty, (Builtin.append_ #[51, 3] ty #[.slice none 0 0, .int .i64 (k : Int)]).run Try.prog w =
      .ok (.slice (some ⟨w.heap.size, 0, none⟩) k (grownCap w k 0 50)) (w.drew.alloc (.cells ((#[] : Array Value) ++ Builtin.zeroCells #[.int .i64 0, .int .i64 0, .int .i64 0, .int .i64 0, .int .i64 0, .int .i64 0, .slice none 0 0] k ++ Builtin.zeroCells #[.int .i64 0, .int .i64 0, .int .i64 0, .int .i64 0, .int .i64 0, .int .i64 0, .slice none 0 0] (grownCap w k 0 50 - k)) 50)) := fun ty => by
    have h := Lib.run_append_grow_zeros w 51 3 ty 50 i0 _ .i64 .i64 ht Try.underlying3 hi0 hz0 none 0 0 [] hold k (by omega) (by rw [hz1]; omega) (by omega) (by omega) (by rw [hz2]; omega) (growslice_fits (by omega) (by rw [hz2]; omega))
    rw [Nat.zero_add] at h
    exact h
  have hGn : k ≤ grownCap w k 0 50 := grownCap_ge w _ _ _
  have hGm : grownCap w k 0 50 ≤ maxLen := grownCap_le_maxLen w k 0 50 (by unfold maxLen; omega)
  obtain ⟨G, hG⟩ : ∃ G, G = grownCap w k 0 50 := ⟨_, rfl⟩
  rw [← hG] at hrz hGn hGm
  obtain ⟨cs, hcs⟩ : ∃ cs, cs = (#[] : Array Value) ++ Builtin.zeroCells #[.int .i64 0, .int .i64 0, .int .i64 0, .int .i64 0, .int .i64 0, .int .i64 0, .slice none 0 0] k ++ Builtin.zeroCells #[.int .i64 0, .int .i64 0, .int .i64 0, .int .i64 0, .int .i64 0, .int .i64 0, .slice none 0 0] (G - k) := ⟨_, rfl⟩
  have HSZ := hide (show cs.size = G * 7 by rw [hcs]; simp only [Array.size_append, size_zeroCells]; simp; omega)
  rw [← hcs] at hrz
  have HGM := hide hGm
  unfold maxLen at hGm
  have hkz : ¬ ((k : Int) < 0) := by omega
  have hk1 : (k : Int) > 0 := by omega
  clear hold hG hcs hi0 hz0 hz1 hz2 ht
  go_enter Try.func73, Try.ntmps73
  go_wp2_with (at_builtin; refine Lib.wpList_append_run _ rfl _ _ _ _ rfl _ _ rfl rfl _ _ (hrz _) ?_)
  go_ret
  refine ⟨_, rfl, ⟨rfl, .inr ⟨_, _, cs, rfl, Nat.le_refl _, heap_alloc_new w.drew _, Nat.zero_le _, HGM.out, HSZ.out, by simp⟩⟩, ?_⟩
  exact (below_drewN (Below.refl _ _) 1).alloc (Nat.le_refl _) _
/-- What append asks of the source: its cells lie there. -/
def SrcI (w : World) (A : Option Addr) (n : Nat) (l : List (InsV × Value)) : Prop := l.length = n ∧ (∀ u ∈ l.flatMap insC, u.oneCell' = true) ∧ (0 < n → ∃ b o, A = some ⟨b, o, none⟩ ∧ b < w.heap.size ∧ ∀ (j : Nat) (u : Value), (l.flatMap insC)[j]? = some u → w.cell? ⟨b, o + j, none⟩ = some u)
theorem SrcI.at {w W : World} {A : Option Addr} {n : Nat} {l : List (InsV × Value)} (h : SrcI w A n l) (hW : Below w.heap.size w W) : 0 < n → ∃ b o, A = some ⟨b, o, none⟩ ∧ ∀ (j : Nat) (u : Value), (l.flatMap insC)[j]? = some u → W.cell? ⟨b, o + j, none⟩ = some u := fun hn => by
  obtain ⟨b, o, e, hb, hc⟩ := h.2.2 hn
  exact ⟨b, o, e, fun j u hu => (hW.cell (p := ⟨b, o + j, none⟩) hb).trans (hc j u hu)⟩
set_option maxHeartbeats 2000000 in
set_option maxRecDepth 100000 in
theorem iconcat_any (hs : Nat) (A1 A2 A3 : Option Addr) (n c m d q e : Nat) (l1 l2 l3 : List (InsV × Value)) (w : World) (hb : Box w hs #[.slice A1 n c, .slice A2 m d, .slice A3 q e] 51) (h1 : SrcI w A1 n l1) (h2 : SrcI w A2 m l2) (h3 : SrcI w A3 q l3) (hmx : n + m + q ≤ 100000) :
    Calls Try.prog 59 #[.slice (some ⟨hs, 0, none⟩) 3 3] w fun e w' => ∃ v, e = .returned v ∧ OwC insC 50 7 w' w.heap.size v (l1 ++ l2 ++ l3) ∧ Below w.heap.size w w' := by
  have HG := hide (fun (W : World) => (show Calls Try.prog 73 #[.slice none 0 0, .int .i64 ((n : Int) + (m : Int) + (q : Int))] W fun e w' => ∃ v, e = .returned v ∧ OwC insC 50 7 w' W.heap.size v [] ∧ Below W.heap.size W w' by have h := igrow_any (n + m + q) hmx W; rwa [Int.natCast_add, Int.natCast_add] at h))
  obtain ⟨i0, hi0, hz0, hz1, hz2⟩ := info_parts info_ins13
  have HI := hide hi0
  have HL1 := hide h1.1
  have HL2 := hide h2.1
  have HL3 := hide h3.1
  have HN1 := hide h1.2.1
  have HN2 := hide h2.2.1
  have HN3 := hide h3.2.1
  have HR1 := hide (fun (W : World) (hW : Below w.heap.size w W) => h1.at hW)
  have HR2 := hide (fun (W : World) (hW : Below w.heap.size w W) => h2.at hW)
  have HR3 := hide (fun (W : World) (hW : Below w.heap.size w W) => h3.at hW)
  have HBX := hide (fun (W : World) (hW : Below w.heap.size w W) => And.intro ((hb.below hW).cell 0 (v := .slice A1 n c) rfl).1 (And.intro ((hb.below hW).cell 1 (v := .slice A2 m d) rfl).1 ((hb.below hW).cell 2 (v := .slice A3 q e) rfl).1))
  have lhs := hb.lt
  obtain ⟨b0, b1, b2⟩ := HBX.out w (Below.refl _ _)
  clear hb h1 h2 h3 hi0
  have hw1 : IntKind.i64.wrap ((n : Int) + (m : Int)) = (n : Int) + (m : Int) := by rw [IntWalk.i64_in _ ⟨by omega, by omega⟩]
  have hw2 : IntKind.i64.wrap ((n : Int) + (m : Int) + (q : Int)) = (n : Int) + (m : Int) + (q : Int) := by rw [IntWalk.i64_in _ ⟨by omega, by omega⟩]
  go_enter Try.func59, Try.ntmps59
  go_wp2
  go_loop [3, 11] (fun s i => (i = .int .i64 0 ∧ s = .int .i64 0) ∨ (i = .int .i64 1 ∧ s = .int .i64 (n : Int)) ∨ (i = .int .i64 2 ∧ s = .int .i64 ((n : Int) + (m : Int))) ∨ (i = .int .i64 3 ∧ s = .int .i64 ((n : Int) + (m : Int) + (q : Int)))) (fun _ i => 3 - (intOf i).toNat)
  case atStart => exact .inl ⟨rfl, rfl⟩
  case round =>
    rcases hrel with ⟨rfl, rfl⟩ | ⟨rfl, rfl⟩ | ⟨rfl, rfl⟩ | ⟨rfl, rfl⟩
    · go_wp2
      go_round
      case rel => exact .inr (.inl ⟨rfl, by simp⟩)
      case measure => simp [intOf]
    · have hnm : ¬ ((n : Int) + (m : Int) < 0) := by omega
      go_wp2
      go_round
      case rel => exact .inr (.inr (.inl ⟨rfl, by first | rfl | simp⟩))
      case measure => simp [intOf]
    · have hnm : ¬ ((n : Int) + (m : Int) + (q : Int) < 0) := by omega
      go_wp2
      go_round
      case rel => exact .inr (.inr (.inr ⟨rfl, by first | rfl | simp⟩))
      case measure => simp [intOf]
    · go_wp2_with (go_at_call 73; (with_reducible refine (HG.out w).mono ?_); rintro e w2 ⟨v2, rfl, ho2, hb2⟩; have HO := hide ho2; have HB2 := hide hb2; clear ho2 hb2)
      go_loopw [6, 27] (fun s i wr => ∃ (u : Value) (l : List (InsV × Value)), u = s ∧ ((i = .int .i64 0 ∧ l = []) ∨ (i = .int .i64 1 ∧ l = l1) ∨ (i = .int .i64 2 ∧ l = l1 ++ l2) ∨ (i = .int .i64 3 ∧ l = l1 ++ l2 ++ l3)) ∧ Hid (OwC insC 50 7 wr w.heap.size u l) ∧ Below w.heap.size w wr) (fun _ i _ => 3 - (intOf i).toNat)
      case atStart => exact ⟨_, [], rfl, .inl ⟨rfl, rfl⟩, HO, HB2.out⟩
      case round =>
        obtain ⟨u, l, rfl, hc, HO, hb⟩ := hrel
        obtain ⟨wo, rfl⟩ : ∃ wo, wo = wr := ⟨_, rfl⟩
        have hsz := hb.size
        have HB := hide hb
        obtain ⟨b0, b1, b2⟩ := HBX.out wo hb
        have lho : hs < wo.heap.size := by omega
        clear hb
        rcases hc with ⟨rfl, hl⟩ | ⟨rfl, hl⟩ | ⟨rfl, hl⟩ | ⟨rfl, hl⟩
        · have HRM := hide (show l.length + n ≤ 1000000 from by rw [hl]; simp; omega)
          have HLL := hide hl
          clear hl
          go_wp2_with (at_builtin; refine wpList_append_cs (c := insC) (sz := 7) (fun _ => rfl) _ rfl (.tmp 31) (.tmp 32) rfl w.heap.size i0 _ 72 Try.underlying51 HI.out hz0 hz1 hz2 rfl (by omega) (by omega) u l (by rfl) HO.out A1 n c l1 (by rfl) HL1.out HN1.out (HR1.out wo HB.out) HRM.out hsz ?_; intro v5 w5 ho5 hb5)
          go_roundw
          case rel => exact ⟨_, l1, rfl, .inr (.inl ⟨rfl, rfl⟩), hide (by have t := ho5; rw [HLL.out] at t; simpa using t), HB.out.trans hb5⟩
          case measure => simp [intOf]
        · have HRM := hide (show l.length + m ≤ 1000000 from by rw [hl]; have := HL1.out; omega)
          have HLL := hide hl
          clear hl
          go_wp2_with (at_builtin; refine wpList_append_cs (c := insC) (sz := 7) (fun _ => rfl) _ rfl (.tmp 31) (.tmp 32) rfl w.heap.size i0 _ 72 Try.underlying51 HI.out hz0 hz1 hz2 rfl (by omega) (by omega) u l (by rfl) HO.out A2 m d l2 (by rfl) HL2.out HN2.out (HR2.out wo HB.out) HRM.out hsz ?_; intro v5 w5 ho5 hb5)
          go_roundw
          case rel => exact ⟨_, l1 ++ l2, rfl, .inr (.inr (.inl ⟨rfl, rfl⟩)), hide (by have t := ho5; rw [HLL.out] at t; simpa using t), HB.out.trans hb5⟩
          case measure => simp [intOf]
        · have HRM := hide (show l.length + q ≤ 1000000 from by rw [hl, List.length_append]; have := HL1.out; have := HL2.out; omega)
          have HLL := hide hl
          clear hl
          go_wp2_with (at_builtin; refine wpList_append_cs (c := insC) (sz := 7) (fun _ => rfl) _ rfl (.tmp 31) (.tmp 32) rfl w.heap.size i0 _ 72 Try.underlying51 HI.out hz0 hz1 hz2 rfl (by omega) (by omega) u l (by rfl) HO.out A3 q e l3 (by rfl) HL3.out HN3.out (HR3.out wo HB.out) HRM.out hsz ?_; intro v5 w5 ho5 hb5)
          go_roundw
          case rel => exact ⟨_, l1 ++ l2 ++ l3, rfl, .inr (.inr (.inr ⟨rfl, rfl⟩)), hide (by have t := ho5; rw [HLL.out] at t; simpa using t), HB.out.trans hb5⟩
          case measure => simp [intOf]
        · have HLL := hide hl
          clear hl
          go_wp2
          go_ret
          exact ⟨u, rfl, by rw [← HLL.out]; exact HO.out, HB.out⟩
end Go.Proofs.Ytnoknodijombpaa
