/- Layer 15, the program: lengthen, mark. Condition: the library's table reads as listed. -/
import Derived.Test.YteoopilmdlhkhaaDoorPaQC
import Derived.Test.YteoopilmdlhkhaaDoorPaNQ
set_option linter.unusedSimpArgs false
set_option linter.unusedVariables false
namespace Go.Proofs.YteoopilmdlhkhaaDoor
open Go.RowKit

section
variable {b : Nat} {x y z : World}
theorem gr15_refl (b : Nat) (x : World) : x.grownBy x (some b) := ⟨rfl, rfl, rfl, Nat.le_refl _, fun _ _ _ => rfl⟩
theorem gr15_trans (h : x.grownBy y (some b)) (k : y.grownBy z (some b)) : x.grownBy z (some b) := ⟨k.os.trans h.os, k.tape.trans h.tape, k.output.trans h.output, Nat.le_trans h.size k.size, fun i hi hn => (k.block i (Nat.lt_of_lt_of_le hi h.size) hn).trans (h.block i hi hn)⟩
theorem gr15_below (h : Below x.heap.size x y) : x.grownBy y (some b) := ⟨h.os, h.tape, h.output, h.size, fun i hi _ => h.block i hi⟩
theorem gr15_set (h : x.grownBy y (some b)) {p : Addr} (hp : x.heap.size ≤ p.block) (v : Value) : x.grownBy (y.setCell p v) (some b) := ⟨h.os, h.tape, h.output, by rw [World.size_setCell]; exact h.size, fun i hi hn => (heap_setCell_other y p i v (by omega)).trans (h.block i hi hn)⟩
theorem gr15_alloc (h : x.grownBy y (some b)) (o : Obj) : x.grownBy (y.alloc o) (some b) := gr15_trans h (gr15_below (alloc1 y o))
theorem gr15_to {B : Nat} (h : x.grownBy y (some b)) (hb : B ≤ b) (hB : B ≤ x.heap.size) : Below B x y := (Below.refl B x).grown h hB (fun k e => by cases e; exact hb)
end
theorem ow15_at {w : World} {base n c : Nat} {A : Option Addr} {zs : List Int} {T : TypeId} (h : Ow w base T .i64 (.slice A n c) zs) {j : Nat} {z : Int} (hj : zs[j]? = some z) : ∃ g, A = some ⟨g, 0, none⟩ ∧ base ≤ g ∧ g < w.heap.size ∧ w.cell? ⟨g, j, none⟩ = some (.int .i64 z) := by
  have hl := (List.getElem?_eq_some_iff.1 hj).1
  have h' := h
  rcases h.2 with ⟨e, h1⟩ | ⟨g, cap, cur, e, hg, hh, -⟩
  · omega
  · injection e with e1 e2 e3
    subst e1
    subst e2
    subst e3
    refine ⟨g, rfl, hg, (Array.getElem?_eq_some_iff.1 hh).1, ?_⟩
    have t := World.ownsRow.cellAt h' j (by omega)
    rw [List.getElem?_map, hj] at t
    exact t
theorem list15_R {s : List Nat} (hk : SetOk s) {k : Nat} {z : Int} (h : (listL s)[k]? = some z) : 0 ≤ z ∧ z < 4096 := by
  obtain ⟨-, h1, h2⟩ := listL_at h
  have := hk.1
  omega
theorem blist15 {w : World} {v : Value} {s : List Nat} (hv : SetV w v s) (hk : SetOk s) (hW : TabW w) :
    Calls Tryd.prog 61 #[v] w fun e w' => ∃ A c, e = .returned (.slice A (listL s).length c) ∧ Ow w' w.heap.size 3 .i64 (.slice A (listL s).length c) (listL s) ∧ Below w.heap.size w w' := by
  obtain ⟨A, c, rfl, h2, h3, h4⟩ := hv
  refine (blist_any A s.length c s w h4 rfl (by have := hk.1; omega) hk.2 hW).mono ?_
  rintro e w' ⟨v, rfl, ho, hb⟩
  obtain ⟨A', c', rfl, -⟩ := ho.sl
  exact ⟨A', c', rfl, ho, hb⟩
set_option maxHeartbeats 4000000 in
set_option maxRecDepth 100000 in
theorem lengthen_any (b n : Nat) (F : SpF15) (v : Value) (s : List Nat) (pt : Int) (w : World) (hM : MpS15 w b n F) (hv : SetV w v s) (hk : SetOk s) (hW : TabW w) (hn : n + 4096 < 1000000000) :
    Calls Tryd.prog 39 #[.map (some b), v, .int .i64 pt] w fun e w' => e = .returned (.tuple #[]) ∧ MpS15 w' b (n + 4096) (len15 pt F (listL s)) ∧ w.grownBy w' (some b) := by
  have HLI := hide (blist15 hv hk hW)
  have HZR := hide (fun (k : Nat) (z : Int) (h : (listL s)[k]? = some z) => list15_R hk h)
  have hll := listL_len s
  have hs64 := hk.1
  obtain ⟨Av, cv, rfl, -, -, -⟩ := hv
  obtain ⟨l, hl⟩ := letl (listL s)
  rw [hl] at HLI HZR hll ⊢
  obtain ⟨nl, hnl⟩ := letl l.length
  rw [hnl] at HLI hll
  have HNL := hide hnl
  have HM := hide hM
  have hb := hM.lt
  clear hM hl hnl
  go_enter Tryd.func39, Tryd.ntmps39
  go_upto_region 1 with (go_at_call 61; (with_reducible refine HLI.out.mono ?_); rintro e w1 ⟨A1, c1, rfl, ho1, hb1⟩; have HO1 := hide ho1; have HB1 := hide hb1; clear ho1 hb1)
  have HM1 := hide (HM.out.below HB1.out)
  have hz1 := HB1.out.size
  go_loopw [13] (fun z wr => ∃ k : Nat, k ≤ nl ∧ z = .int .i64 (k : Int) ∧ Hid (MpS15 wr b (n + k) (len15 pt F (l.take k))) ∧ w1.grownBy wr (some b)) (fun z _ => nl - (intOf z).toNat)
  case atStart => exact ⟨0, Nat.zero_le _, rfl, HM1, gr15_refl _ _⟩
  case round =>
    obtain ⟨k, hkn, rfl, HMK, hg⟩ := hrel
    obtain ⟨wo, rfl⟩ : ∃ wo, wo = wr := ⟨_, rfl⟩
    have HG := hide hg
    have hzo := hg.size
    clear hg
    by_cases hlt : k < nl
    case neg =>
      obtain rfl : nl = k := by omega
      have hnn : ¬ ((nl : Int) < (nl : Int)) := by omega
      rw [List.take_of_length_le (Nat.le_of_eq HNL.out)] at HMK
      go_wp2
      go_end0
      exact ⟨rfl, HMK.out.mono (by omega), gr15_trans (gr15_below HB1.out) HG.out⟩
    have hlt' : (k : Int) < (nl : Int) := by omega
    have hk0 : (0 : Int) ≤ (k : Int) := by omega
    have HLT := hide hlt
    obtain ⟨z, hz⟩ : ∃ z, l[k]? = some z := ⟨_, List.getElem?_eq_getElem (by have := HNL.out; omega)⟩
    obtain ⟨g1, e1, hg1, lg1, c1⟩ := ow15_at HO1.out hz
    subst e1
    have d1 : wo.cell? ⟨g1, k, none⟩ = some (.int .i64 z) := (World.cell?_of_block (a := ⟨g1, k, none⟩) (HG.out.block g1 lg1 (by simp; omega))).trans c1
    have lg : g1 < wo.heap.size := Nat.lt_of_lt_of_le lg1 hzo
    obtain ⟨hz0, hz4⟩ := HZR.out k z hz
    have HZZ := hide (show i64R z from by unfold i64R; omega)
    have HSN := hide (show len15 pt F (l.take (k + 1)) = upd15 (len15 pt F (l.take k)) z (grow15 (len15 pt F (l.take k) z) z pt) from by
      rw [List.take_add_one, hz, Option.toList_some, len15_snoc])
    obtain ⟨F1, hF1⟩ := letl (len15 pt F (l.take k))
    rw [hF1] at HMK HSN
    clear hF1 hz lg1 c1
    obtain ⟨s0, hlk, hs0⟩ := HMK.out.look HZZ.out
    obtain ⟨o, ho⟩ := letl (F1 z)
    rw [ho] at hlk hs0 HSN
    clear ho
    obtain ⟨hs, hhs⟩ := letl wo.heap.size
    have HHS := hide hhs
    have hbs : b ≠ hs := by have := HMK.out.lt; omega
    have hw1s : w1.heap.size ≤ hs := by omega
    obtain ⟨sv, sf, st, sc⟩ := s0
    unfold spA at hlk
    cases o with
    | some t =>
      obtain rfl := hs0 t rfl
      simp only [Option.isSome_some] at hlk
      simp only [grow15] at HSN
      clear hs0
      have HM2 := hide (show MpS15 (wo.alloc (.cells #[.int .i64 sv, .int .i64 (min sf pt), .int .i64 (max st pt), .bool sc] 23)) b (n + k) F1 from HMK.out.below (alloc1 wo _))
      obtain ⟨w5, hup, hM5, hg5⟩ := HM2.out.put HZZ.out ⟨sv, (min sf pt), (max st pt), sc⟩ (by omega)
      unfold spA at hup
      rw [← HSN.out] at hM5
      have HM5 := hide hM5
      have HG5 := hide (gr15_trans (gr15_trans HG.out (gr15_below (alloc1 wo (.cells #[.int .i64 sv, .int .i64 (min sf pt), .int .i64 (max st pt), .bool sc] 23)))) hg5)
      clear hM5 hg5 hbs hw1s
      subst hhs
      go_wp2
      go_roundw
      case rel => exact ⟨k + 1, by have := HLT.out; omega, by go_num, HM5, HG5.out⟩
      case measure => have := HLT.out; simp [intOf]; omega
    | none =>
      simp only [Option.isSome_none] at hlk
      simp only [grow15] at HSN
      clear hs0
      have HM2 := hide (show MpS15 (wo.alloc (.cells #[.int .i64 z, .int .i64 pt, .int .i64 pt, .bool false] 23)) b (n + k) F1 from HMK.out.below (alloc1 wo _))
      obtain ⟨w5, hup, hM5, hg5⟩ := HM2.out.put HZZ.out ⟨z, pt, pt, false⟩ (by omega)
      unfold spA at hup
      rw [← HSN.out] at hM5
      have HM5 := hide hM5
      have HG5 := hide (gr15_trans (gr15_trans HG.out (gr15_below (alloc1 wo (.cells #[.int .i64 z, .int .i64 pt, .int .i64 pt, .bool false] 23)))) hg5)
      clear hM5 hg5 hbs hw1s
      subst hhs
      go_wp2
      go_roundw
      case rel => exact ⟨k + 1, by have := HLT.out; omega, by go_num, HM5, HG5.out⟩
      case measure => have := HLT.out; simp [intOf]; omega
theorem mrk15_some : ∀ (l : List Int) {F : SpF15} {z : Int}, (∃ t, F z = some t) → ∃ t, mrk15 F l z = some t
  | [], F, z, h => h
  | x :: l, F, z, h => by
    show ∃ t, mrk15 (upd15 F x (mark15 (F x))) l z = some t
    refine mrk15_some l ?_
    unfold upd15
    split
    · exact ⟨_, rfl⟩
    · exact h
set_option maxHeartbeats 4000000 in
set_option maxRecDepth 100000 in
theorem mark_any (b n : Nat) (F : SpF15) (v : Value) (s : List Nat) (w : World) (hM : MpS15 w b n F) (hv : SetV w v s) (hk : SetOk s) (hW : TabW w) (hn : n + 4096 < 1000000000) (hin : ∀ z ∈ listL s, ∃ t, F z = some t) :
    Calls Tryd.prog 59 #[.map (some b), v] w fun e w' => e = .returned (.tuple #[]) ∧ MpS15 w' b (n + 4096) (mrk15 F (listL s)) ∧ w.grownBy w' (some b) := by
  have HLI := hide (blist15 hv hk hW)
  have HZR := hide (fun (k : Nat) (z : Int) (h : (listL s)[k]? = some z) => list15_R hk h)
  have HIN := hide hin
  have hll := listL_len s
  have hs64 := hk.1
  obtain ⟨Av, cv, rfl, -, -, -⟩ := hv
  obtain ⟨l, hl⟩ := letl (listL s)
  rw [hl] at HLI HZR hll HIN ⊢
  obtain ⟨nl, hnl⟩ := letl l.length
  rw [hnl] at HLI hll
  have HNL := hide hnl
  have HM := hide hM
  have hb := hM.lt
  clear hM hl hnl hin
  go_enter Tryd.func59, Tryd.ntmps59
  go_upto_region 1 with (go_at_call 61; (with_reducible refine HLI.out.mono ?_); rintro e w1 ⟨A1, c1, rfl, ho1, hb1⟩; have HO1 := hide ho1; have HB1 := hide hb1; clear ho1 hb1)
  have HM1 := hide (HM.out.below HB1.out)
  have hz1 := HB1.out.size
  go_loopw [10] (fun z wr => ∃ k : Nat, k ≤ nl ∧ z = .int .i64 (k : Int) ∧ Hid (MpS15 wr b (n + k) (mrk15 F (l.take k))) ∧ w1.grownBy wr (some b)) (fun z _ => nl - (intOf z).toNat)
  case atStart => exact ⟨0, Nat.zero_le _, rfl, HM1, gr15_refl _ _⟩
  case round =>
    obtain ⟨k, hkn, rfl, HMK, hg⟩ := hrel
    obtain ⟨wo, rfl⟩ : ∃ wo, wo = wr := ⟨_, rfl⟩
    have HG := hide hg
    have hzo := hg.size
    clear hg
    by_cases hlt : k < nl
    case neg =>
      obtain rfl : nl = k := by omega
      have hnn : ¬ ((nl : Int) < (nl : Int)) := by omega
      rw [List.take_of_length_le (Nat.le_of_eq HNL.out)] at HMK
      go_wp2
      go_end0
      exact ⟨rfl, HMK.out.mono (by omega), gr15_trans (gr15_below HB1.out) HG.out⟩
    have hlt' : (k : Int) < (nl : Int) := by omega
    have hk0 : (0 : Int) ≤ (k : Int) := by omega
    have HLT := hide hlt
    obtain ⟨z, hz⟩ : ∃ z, l[k]? = some z := ⟨_, List.getElem?_eq_getElem (by have := HNL.out; omega)⟩
    obtain ⟨g1, e1, hg1, lg1, c1⟩ := ow15_at HO1.out hz
    subst e1
    have d1 : wo.cell? ⟨g1, k, none⟩ = some (.int .i64 z) := (World.cell?_of_block (a := ⟨g1, k, none⟩) (HG.out.block g1 lg1 (by simp; omega))).trans c1
    have lg : g1 < wo.heap.size := Nat.lt_of_lt_of_le lg1 hzo
    obtain ⟨hz0, hz4⟩ := HZR.out k z hz
    have HZZ := hide (show i64R z from by unfold i64R; omega)
    have HSN := hide (show mrk15 F (l.take (k + 1)) = upd15 (mrk15 F (l.take k)) z (mark15 (mrk15 F (l.take k) z)) from by
      rw [List.take_add_one, hz, Option.toList_some, mrk15_snoc])
    obtain ⟨t0, ht0⟩ := mrk15_some (l.take k) (HIN.out z (List.mem_of_getElem? hz))
    obtain ⟨F1, hF1⟩ := letl (mrk15 F (l.take k))
    rw [hF1] at ht0
    rw [hF1] at HMK HSN
    clear hF1 hz lg1 c1
    obtain ⟨s0, hlk, hs0⟩ := HMK.out.look1 HZZ.out
    obtain rfl := hs0 t0 ht0
    rw [ht0] at HSN
    simp only [mark15] at HSN
    clear ht0 hs0
    obtain ⟨hs, hhs⟩ := letl wo.heap.size
    have HHS := hide hhs
    have hbs : b ≠ hs := by have := HMK.out.lt; omega
    have hw1s : w1.heap.size ≤ hs := by omega
    obtain ⟨sv, sf, st, sc⟩ := s0
    unfold spA at hlk
    have HM2 := hide (show MpS15 (wo.alloc (.cells #[.int .i64 sv, .int .i64 sf, .int .i64 st, .bool true] 23)) b (n + k) F1 from HMK.out.below (alloc1 wo _))
    obtain ⟨w5, hup, hM5, hg5⟩ := HM2.out.put HZZ.out ⟨sv, sf, st, true⟩ (by omega)
    unfold spA at hup
    rw [← HSN.out] at hM5
    have HM5 := hide hM5
    have HG5 := hide (gr15_trans (gr15_trans HG.out (gr15_below (alloc1 wo (.cells #[.int .i64 sv, .int .i64 sf, .int .i64 st, .bool true] 23)))) hg5)
    clear hM5 hg5 hbs hw1s
    subst hhs
    go_wp2
    go_roundw
    case rel => exact ⟨k + 1, by have := HLT.out; omega, by go_num, HM5, HG5.out⟩
    case measure => have := HLT.out; simp [intOf]; omega
end Go.Proofs.YteoopilmdlhkhaaDoor
