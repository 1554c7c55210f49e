/- Layer 7: a head's loop, gathered (loops.body): what the program answers. Condition: the function is one of a program that may be. -/
import Derived.Test.YtlolgahaphmfoaaLF
set_option linter.unusedSimpArgs false
set_option linter.unusedVariables false
namespace Go.Proofs.Ytlolgahaphmfoaa
open Go.RowKit

theorem Box.ne7 {w : World} {a b : Nat} {cs ds : Array Value} {S T : TypeId} (x : Box w a cs S) (y : Box w b ds T) (h : S ≠ T) : a ≠ b := fun e => h (by
  subst e
  have h1 : w.heap[a]? = some (.cells cs S (0, 0)) := x
  have h2 : w.heap[a]? = some (.cells ds T (0, 0)) := y
  rw [h1] at h2
  injection h2 with h2
  injection h2 with _ h2)
/-- What body has met, in memory. -/
def MtS (w : World) (base ha hm gm n : Nat) (L : List Int) : Prop :=
  base ≤ ha ∧ base ≤ hm ∧ base ≤ gm ∧ Box w hm #[.slice (some ⟨gm, 0, none⟩) n n] 39 ∧ MarkW w gm n L ∧ ∃ A c, Box w ha #[.slice A L.length c] 27 ∧ Ow w base 3 .i64 (.slice A L.length c) L
theorem MtS.below {w w' : World} {base ha hm gm n : Nat} {L : List Int} (h : MtS w base ha hm gm n L) (hb : Below w.heap.size w w') : MtS w' base ha hm gm n L := by
  obtain ⟨h1, h2, h3, h4, h5, A, c, h6, h7⟩ := h
  exact ⟨h1, h2, h3, h4.below hb, Box.below h5 hb, A, c, h6.below hb, h7.below hb⟩
theorem sortX_any (v : Value) (l : List Int) (base : Nat) (w : World) (hv : Ow w base 3 .i64 v l) (hn : l.length ≤ 1000) :
    Calls Try.prog 52 #[v] w fun e w' => e = .returned (.tuple #[]) ∧ Ow w' base 3 .i64 v (sortL l) ∧ Below base w w' ∧ (∀ k, k < w.heap.size → v.ownBlock ≠ some k → w'.heap[k]? = w.heap[k]?) := by
  rcases hv.2 with ⟨rfl, hz⟩ | ⟨g, cap, cur, rfl, hg, hh, hnc, hcm, hsz, htake⟩
  · have hl : l = [] := List.eq_nil_of_length_eq_zero hz
    subst hl
    refine (sort_nil w).mono ?_
    rintro e w' ⟨rfl, rfl⟩
    exact ⟨rfl, by rw [show sortL [] = [] by simp [sortL]]; exact Ow.nil _ _ _ _, Below.refl _ _, fun _ _ _ => rfl⟩
  · have hgl : g < w.heap.size := (Array.getElem?_eq_some_iff.1 hh).1
    have hH := holds_of_blockI hh (by simpa using htake)
    refine (sort_int g 0 cap l w hH hgl (by omega)).mono fun e w' ⟨he, n, os, hw⟩ => ⟨he, ?_, ?_, ?_⟩
    · rw [hw]
      unfold Ow
      have h := ownsRow_sortedI (w := w) (n := n) (os := os) (ts := sortL l) (sortL_len l) hg hh hnc hcm hsz
      rw [sortL_len]
      exact h
    · rw [hw]
      exact (Below.refl _ _).grown (grownBy_sortedI _) (by omega) (fun k hk => by injection hk with hk; omega)
    · rw [hw]
      intro k hk hne
      exact (grownBy_sortedI _).block k hk (fun e => hne (by rw [e]; rfl))
set_option maxHeartbeats 2000000 in
set_option maxRecDepth 100000 in
theorem meet_any7 (base ha hm gm n b : Nat) (L : List Int) (w : World) (hs : MtS w base ha hm gm n L) (hb : b < n) (hn40 : n ≤ 40) (hL : L.length ≤ 40) (hbase : base ≤ w.heap.size) :
    Calls Try.prog 55 #[.int .i64 (b : Int), .pointer (some ⟨hm, 0, none⟩), .pointer (some ⟨ha, 0, none⟩)] w fun e w' => e = .returned (.tuple #[]) ∧ MtS w' base ha hm gm n (metL L (b : Int)) ∧ Below base w w' ∧ (∀ k cs, Box w k cs 42 → Box w' k cs 42) := by
  have HS := hide hs
  obtain ⟨h1, h2, h3, h4, h5, A, c, h6, h7⟩ := hs
  have HBX := hide h6
  have HMX := hide h4
  have HMK := hide h5
  have HO := hide h7
  obtain ⟨i0, hi0, iz0, iz1, iz2⟩ := info_parts info_i64
  have HI := hide hi0
  have ne1 := Box.ne7 h4 h5 (by decide)
  have ne2 := Box.ne7 h6 h5 (by decide)
  have ne3 := Box.ne7 h4 h6 (by decide)
  have ca := (h6.cell 0 (v := .slice A L.length c) rfl).1
  have cm := (h4.cell 0 (v := .slice (some ⟨gm, 0, none⟩) n n) rfl).1
  obtain ⟨cg, fg⟩ := h5.cell hb
  have la := h6.lt
  have lm := h4.lt
  have lg : gm < w.heap.size := Box.lt h5
  have j1 : (0 : Int) ≤ (b : Int) := by omega
  have j2 : (b : Int) < (n : Int) := by omega
  have HMP := hide (show metL L (b : Int) = if (b : Int) ∈ L then L else L ++ [(b : Int)] from rfl)
  obtain ⟨ML, hML⟩ : ∃ ML, metL L (b : Int) = ML := ⟨_, rfl⟩
  rw [hML] at HMP ⊢
  obtain ⟨nl, hnl⟩ : ∃ nl, L.length = nl := ⟨_, rfl⟩
  have HNL := hide hnl
  rw [hnl] at ca HBX HO hL
  clear h4 h5 h6 h7 hi0 hML hnl
  by_cases hin : (b : Int) ∈ L
  · rw [decide_eq_true hin] at cg
    have HE := hide (show ML = L by rw [HMP.out, if_pos hin])
    clear hin
    go_enter Try.func55, Try.ntmps55
    go_wp2
    go_end0
    exact ⟨rfl, by rw [HE.out]; exact HS.out, Below.refl _ _, fun _ _ h => h⟩
  · rw [decide_eq_false hin] at cg
    have HE := hide (show ML = L ++ [(b : Int)] by rw [HMP.out, if_neg hin])
    clear hin
    obtain ⟨w1, hw1⟩ : ∃ w1, w1 = w.setCell ⟨gm, b, none⟩ (.bool true) := ⟨_, rfl⟩
    have hg : Ow w base 3 .i64 (.slice A nl c) L := HO.out
    have hgm : (Value.slice A nl c).ownBlock ≠ some gm := hg.apart HMK.out (by decide)
    have hga : (Value.slice A nl c).ownBlock ≠ some ha := hg.apart HBX.out (by decide)
    have HO1 := hide (show Ow w1 base 3 .i64 (.slice A nl c) L by rw [hw1]; exact hg.kept' (fun g hgv => heap_setCell_other _ ⟨gm, b, none⟩ g _ (fun e => hgm (by rw [hgv, e]))))
    have HM1 := hide (show MarkW w1 gm n (L ++ [(b : Int)]) by rw [hw1]; exact HMK.out.add hb)
    have HBX1 := hide (show Box w1 ha #[.slice A nl c] 27 by rw [hw1]; exact Box.other (g := gm) (j := b) (v := .bool true) HBX.out ne2)
    have HMX1 := hide (show Box w1 hm #[.slice (some ⟨gm, 0, none⟩) n n] 39 by rw [hw1]; exact Box.other (g := gm) (j := b) (v := .bool true) HMX.out ne1)
    have HB1 := hide (show Below base w w1 by rw [hw1]; exact (Below.refl _ _).setCell (p := ⟨gm, b, none⟩) (by show base ≤ gm; exact h3) _)
    have hs1 : w1.heap.size = w.heap.size := by rw [hw1, World.size_setCell]
    have HED := hide (fun k cs (hbx : Box w k cs 42) => (show Box w1 k cs 42 by rw [hw1]; exact Box.other (g := gm) (j := b) (v := .bool true) hbx (Box.ne7 hbx HMK.out (by decide))))
    have HGA := hide hga
    have HGM := hide hgm
    have ca1 := (HBX1.out.cell 0 (v := .slice A nl c) rfl).1
    have la1 := HBX1.out.lt
    have hbase1 : base ≤ w1.heap.size := by omega
    have hro : nl < 1000000 := by omega
    have HRO := hide hro
    have HHH := hide (show base ≤ ha ∧ base ≤ hm ∧ base ≤ gm from ⟨h1, h2, h3⟩)
    clear hg hgm hga hro
    go_enter Try.func55, Try.ntmps55
    go_upto_region 2 with (fail)
    rw [← hw1]
    clear hw1 ca cm cg fg la lm lg hs1
    go_wp2_with (at_builtin; refine wpList_append_at w1 rfl (.tmp 12) (.tmp 14) _ rfl base i0 _ Try.underlying27 HI.out iz0 iz1 iz2 rfl (.slice A nl c) L (by rfl) HO1.out (b : Int) (by rfl) (by rw [HNL.out]; exact HRO.out) hbase1 ?_; intro v5 w5 ho5 hg5 hv5; obtain ⟨A5, k5, hw5, -⟩ := ho5.sl; subst hw5; have HO5 := hide ho5; have HG5 := hide hg5; have q5 := HBX1.out.alloc (.cells #[.int .i64 (b : Int)] 3); have hbx5 : Box w5 ha #[.slice A nl c] 27 := ((hg5.block ha q5.lt (fun e => HGA.out e.symm)).trans q5); have HBX5 := hide hbx5; have cb5 := (hbx5.cell 0 (v := .slice A nl c) rfl).1; have fb5 := (hbx5.cell 0 (v := .slice A nl c) rfl).2; have lb5 := hbx5.lt; clear hbx5 q5 ho5 hg5 hv5)
    go_end0
    have hh := HHH.out
    have q1 : Box w5 gm _ 4 := ((HG5.out.block gm (by have := Box.lt HM1.out; simp only [World.size_alloc]; omega) (fun e => HGM.out e.symm)).trans (Box.alloc HM1.out _))
    have q2 : Box w5 hm #[.slice (some ⟨gm, 0, none⟩) n n] 39 := (HG5.out.block hm (by have := HMX1.out.lt; simp only [World.size_alloc]; omega) (fun e => (HO1.out.apart HMX1.out (by decide)) e.symm)).trans (HMX1.out.alloc _)
    have q3 := HO5.out.apart HBX5.out (by decide)
    rw [HE.out]
    refine ⟨rfl, ⟨hh.1, hh.2.1, hh.2.2, q2.other ne3, Box.other q1 ne2.symm, A5, k5, by have := HBX5.out.set 0 (.slice A5 (L ++ [(b : Int)]).length k5); simpa using this, HO5.out.kept' (fun g hgv => heap_setCell_other _ ⟨ha, 0, none⟩ g _ (fun e => q3 (by rw [hgv, e])))⟩, ?_, fun k cs hbx => ?_⟩
    case refine_2 =>
      have q4 := HED.out k cs hbx
      have q5 : Box w5 k cs 42 := (HG5.out.block k (by have := q4.lt; simp only [World.size_alloc]; omega) (fun e => (HO1.out.apart q4 (by decide)) e.symm)).trans (q4.alloc _)
      exact q5.other (Box.ne7 q5 HBX5.out (by decide))
    exact (HB1.out.trans (((Below.refl _ _).alloc hbase1 _).grown HG5.out (by simp only [World.size_alloc]; omega) (fun g hgv => (HO1.out.row' g hgv).1))).setCell (p := ⟨ha, 0, none⟩) (by show base ≤ ha; exact hh.1) _
end Go.Proofs.Ytlolgahaphmfoaa
