/- Layer 17, the program: slices.Delete of moves. No condition but on lengths. -/
import Derived.Test.YtkilfejcohnceaaPaIC
set_option linter.unusedSimpArgs false
set_option linter.unusedVariables false
namespace Go.Proofs.Ytkilfejcohnceaa
open Go.RowKit

set_option maxHeartbeats 2000000 in
set_option maxRecDepth 100000 in
theorem idel_any (base g n c i : Nat) (l : List MvV) (w : World) (hl : l.length = n) (hi : i < n) (hn : n ≤ 1000) (hnc : n ≤ c) (hcm : c ≤ maxLen) (how : OwC mvC 38 4 w base (.slice (some ⟨g, 0, none⟩) n c) l) :
    Calls Try.prog 35 #[.slice (some ⟨g, 0, none⟩) n c, .int .i64 (i : Int), .int .i64 ((i : Int) + 1)] w fun e w' => e = .returned (.slice (some ⟨g, 0, none⟩) (n - 1) c) ∧ OwC mvC 38 4 w' base (.slice (some ⟨g, 0, none⟩) (n - 1) c) (l.eraseIdx i) ∧ FrG (some g) w w' := by
  obtain ⟨i0, hi0, iz0, iz1, iz2⟩ := info_parts info_mv
  have hdr : OwC mvC 38 4 w.drew base (.slice (some ⟨g, 0, none⟩) n c) l := how
  have hcm2 : c ≤ 9223372036854775807 := by simpa [maxLen] using hcm
  have e8 : ((i : Int) == (i : Int) + 1) = false := by first | (simp; done) | (simp; omega)
  have e1 : (0 : Int) ≤ (i : Int) := by omega
  have e5 : (0 : Int) ≤ (i : Int) + 1 := by omega
  have e9 : ((i : Int) + 1).toNat = i + 1 := by omega
  by_cases hci : c = i + 1
  · obtain rfl : n = i + 1 := by omega
    subst hci
    obtain ⟨w2, hr2, ho2, hg2⟩ := run_clear_c (c := mvC) (T := 38) (sz := 4) (P := Try.prog) w.drew 22 0 Try.underlying22 zero_mv rfl (by simp [Value.cells, Value.oneCell']) (fun _ => rfl) (by omega) g i (i + 1) (i + 1) 1 1 rfl (by omega) hl hdr
    have HO := hide (show OwC mvC 38 4 w2 base (.slice (some ⟨g, 0, none⟩) i (i + 1)) (l.eraseIdx i) from by
      rw [List.eraseIdx_eq_take_drop_succ, List.drop_of_length_le (by omega), List.append_nil]
      exact ho2)
    have HG := hide (show FrG (some g) w w2 from ⟨hg2.os, hg2.tape, hg2.output, hg2.size, fun k hk ho => hg2.block k hk (fun e => ho e.symm)⟩)
    clear hdr ho2 hg2 how hi0 hl hcm hi hnc
    go_enter Try.func35, Try.ntmps35
    go_wp2
    go_region
    all_goals go_wp2
    all_goals go_ret
    all_goals exact ⟨rfl, HO.out, HG.out⟩
  obtain ⟨m, rfl⟩ : ∃ m, n = m + 1 := ⟨n - 1, by omega⟩
  obtain ⟨cc, hcc⟩ := letl (c - (i + 1))
  have key : ∃ w1, (Builtin.append_ #[22, 22] 22 #[.slice (some ⟨g, 0, none⟩) i c, .slice (some ⟨g, (i + 1) * 4, none⟩) (m + 1 - (i + 1)) cc]).run Try.prog w.drew = .ok (.slice (some ⟨g, 0, none⟩) (m + 1 - 1) c) w1 ∧ OwC mvC 38 4 w1 base (.slice (some ⟨g, 0, none⟩) (m + 1) c) (l.eraseIdx i ++ l.drop (m + 1 - 1)) ∧ w.drew.grownBy w1 (some g) :=
    run_app_in (c := mvC) (sz := 4) w.drew 22 22 i0 Try.underlying22 hi0 iz1 (fun _ => rfl) (fun y u hu => by
      simp only [mvC, List.mem_cons, List.mem_nil_iff, or_false] at hu
      rcases hu with rfl | rfl | rfl | rfl <;> rfl) g i (m + 1) c cc _ hl hi (fun h => rfl) hdr
  obtain ⟨w1, hr1, ho1, hg1⟩ := key
  have hlen : (l.eraseIdx i ++ l.drop (m + 1 - 1)).length = m + 1 := by rw [List.length_append, List.length_eraseIdx_of_lt (by omega), List.length_drop]; omega
  obtain ⟨cd, hcd⟩ := letl (c - m)
  obtain ⟨w2, hr2, ho2, hg2⟩ := run_clear_c (c := mvC) (T := 38) (sz := 4) (P := Try.prog) w1 22 0 Try.underlying22 zero_mv rfl (by simp [Value.cells, Value.oneCell']) (fun _ => rfl) (by omega) g m (m + 1) c 1 cd rfl (by omega) hlen ho1
  have HO := hide (show OwC mvC 38 4 w2 base (.slice (some ⟨g, 0, none⟩) m c) (l.eraseIdx i) from by
    have t := ho2
    rw [List.take_append_of_le_length (by rw [List.length_eraseIdx_of_lt (by omega)]; omega), List.take_of_length_le (by rw [List.length_eraseIdx_of_lt (by omega)]; omega)] at t
    exact t)
  have HG := hide (show FrG (some g) w w2 from ⟨hg2.os.trans hg1.os, hg2.tape.trans hg1.tape, hg2.output.trans hg1.output, Nat.le_trans hg1.size hg2.size, fun k hk ho => (hg2.block k (Nat.lt_of_lt_of_le hk hg1.size) (fun e => ho e.symm)).trans (hg1.block k hk (fun e => ho e.symm))⟩)
  rw [show m + 1 - 1 = m by omega, show m + 1 - (i + 1) = m - i by omega] at hr1
  rw [show m + 1 - 1 = m by omega]
  have him : i ≤ m := by omega
  have e14 : m + 1 - (i + 1) = m - i := by omega
  have e16 : ¬ c = m := by omega
  have e17 : m ≤ c := by omega
  have e18 : i ≤ c := by omega
  have e19 : (m : Int) + 1 ≤ (c : Int) := by omega
  have e20 : (i : Int) ≤ (m : Int) := by omega
  clear hdr ho1 hg1 ho2 hg2 hlen how hl hi iz0 iz2 hn hcm
  have hsl : ∀ W : World, (Instr.slice 22 (.slice (some ⟨g, 0, none⟩) (m + 1) c) (some (.int .i64 ((i : Int) + 1))) none none).run Try.prog W = .ok (.slice (some ⟨g, (i + 1) * 4, none⟩) (m - i) cc) W := fun W => by
    simp [Instr.slice, Instr.sliceBounds, Instr.sliceBound, run_underlying Try.underlying22, asIntOf, hi0, iz1, sizeOf, typeInfo, e5, e9, him, hci, hcc, Addr.add, Result.andThen]
  have e21 : i + (m - i) = m := by omega
  have e22 : i + (m - i) ≤ c := by omega
  simp [Builtin.append_, run_underlying Try.underlying22, sizeOf, typeInfo, hi0, iz1, Builtin.lenOf, Builtin.firstCells, e21, e22, e17, Addr.add_lit, loadCells, Result.andThen] at hr1
  obtain ⟨r1, hL⟩ := letl ((loadCellsFrom ⟨g, (i + 1) * 4, none⟩ 0 ((m - i) * 4) #[]).run Try.prog w.drew)
  rw [hL] at hr1
  rcases r1 with ⟨a1, w5⟩ | ⟨h1, h2⟩
  rotate_left
  · cases hr1
  simp only at hr1
  obtain ⟨r2, hS⟩ := letl ((storeCells ⟨g, i * 4, none⟩ a1.toList).run Try.prog w5)
  rw [hS] at hr1
  rcases r2 with ⟨a2, w6⟩ | ⟨h1, h2⟩
  rotate_left
  · cases hr1
  injection hr1 with _ hr1
  subst hr1
  clear hi0 iz1
  go_enter Try.func35, Try.ntmps35
  go_wp2
  go_region
  all_goals go_wp2
  all_goals go_ret
  all_goals exact ⟨rfl, HO.out, HG.out⟩
end Go.Proofs.Ytkilfejcohnceaa
