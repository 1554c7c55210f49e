/- Layer 17: the reference: without. Condition: no more than 1000 moves. -/
import Derived.Test.YtkilfejcohnceaaPaIJ
set_option linter.unusedSimpArgs false
set_option linter.unusedVariables false
namespace Go.Proofs.Ytkilfejcohnceaa
open Go.RowKit

set_option maxHeartbeats 2000000 in
set_option maxRecDepth 100000 in
theorem irwithout_any (base g n c i : Nat) (l : List MvV) (w : World) (hl : l.length = n) (hi : i < n) (hn : n ≤ 1000) (hnc : n ≤ c) (hcm : c ≤ maxLen) (how : OwC mvC 38 4 w base (.slice (some ⟨g, 0, none⟩) n c) l) :
    Calls Try.prog 26 #[.slice (some ⟨g, 0, none⟩) n c, .int .i64 (i : Int)] w fun e w' => ∃ v', e = .returned v' ∧ OwC mvC 38 4 w' w.heap.size v' (l.eraseIdx i) ∧ Below w.heap.size w w' := by
  obtain ⟨i0, hi0, iz0, iz1, iz2⟩ := info_parts info_mv
  have HI := hide hi0
  have hcm2 : c ≤ 9223372036854775807 := by simpa [maxLen] using hcm
  have HCE := hide (fun (W : World) (hW : Below w.heap.size w W) (j : Nat) (u : Value) (hu : (l.flatMap mvC)[j]? = some u) => (show W.cell? ⟨g, j, none⟩ = some u from by
    have hj := (List.getElem?_eq_some_iff.1 hu).1
    have hfl : (l.flatMap mvC).length = l.length * 4 := flat_len (c := mvC) (sz := 4) (fun _ => rfl) l
    have how' := how
    rw [← hl] at how'
    have h1 := World.ownsRow.cellAt how' j (by rw [← hfl]; exact hj)
    rw [hu] at h1
    exact (hW.cell (p := ⟨g, j, none⟩) (how.lt g rfl).2).trans h1))
  have HT1 := hide (show (l.take i).length = i by rw [List.length_take]; omega)
  have HT2 := hide (show (l.drop (i + 1)).length = n - (i + 1) by rw [List.length_drop]; omega)
  have HE := hide (show l.take i ++ l.drop (i + 1) = l.eraseIdx i from (List.eraseIdx_eq_take_drop_succ ..).symm)
  have HF1 := hide (flat_take (c := mvC) (sz := 4) (fun _ => rfl) l i)
  have HF2 := hide (flat_drop (c := mvC) (sz := 4) (fun _ => rfl) l (i + 1))
  have e1 : (0 : Int) ≤ (i : Int) := by omega
  have e5 : (0 : Int) ≤ (i : Int) + 1 := by omega
  have e9 : ((i : Int) + 1).toNat = i + 1 := by omega
  have e18 : i ≤ c := by omega
  have hwr : IntKind.i64.wrap ((i : Int) + 1) = (i : Int) + 1 := IntWalk.i64_in _ ⟨by omega, by omega⟩
  have e2 : (i : Int) ≤ (c : Int) := by omega
  have e6 : (i : Int) + 1 ≤ (n : Int) := by omega
  have e7 : i + 1 ≤ n := by omega
  obtain ⟨cc, hcc⟩ := letl (c - (i + 1))
  obtain ⟨md, hmd⟩ := letl (n - (i + 1))
  obtain ⟨A2, hA2⟩ := letl (if c = i + 1 then (some ⟨g, 0, none⟩ : Option Addr) else some ⟨g, (i + 1) * 4, none⟩)
  have HA2 := hide (show 0 < md → A2 = some ⟨g, (i + 1) * 4, none⟩ from fun h => by rw [← hA2, if_neg (by omega)])
  have hsl : ∀ W : World, (Instr.slice 22 (.slice (some ⟨g, 0, none⟩) n c) (some (.int .i64 ((i : Int) + 1))) none none).run Try.prog W = .ok (.slice A2 md cc) W := fun W => by
    by_cases h : c = i + 1
    · rw [if_pos h] at hA2
      subst hA2
      simp [Instr.slice, Instr.sliceBounds, Instr.sliceBound, run_underlying Try.underlying22, asIntOf, hi0, iz1, sizeOf, typeInfo, e5, e6, e7, e9, h, hmd, Addr.add, Result.andThen]
      omega
    · rw [if_neg h] at hA2
      subst hA2
      simp [Instr.slice, Instr.sliceBounds, Instr.sliceBound, run_underlying Try.underlying22, asIntOf, hi0, iz1, sizeOf, typeInfo, e5, e6, e7, e9, h, hcc, hmd, Addr.add, Result.andThen]
  rw [hmd] at HT2
  have HMD := hide hmd
  clear how hi0 hA2 hcc hmd hi hnc hl
  go_enter Try.func26, Try.ntmps26
  go_upto_region 1 with (fail)
  have BE0 := hide (show Below w.heap.size w w.drew from below_drewN (Below.refl _ _) 1)
  refine wp_region_til (fun w' => True) 9 (by kernel_rfl) (True.intro) ?_
  obtain ⟨w100, hw100⟩ : ∃ w100, w100 = w.drew := ⟨_, rfl⟩
  have BE100 := hide (show Below w.heap.size w w100 by rw [hw100]; exact BE0.out)
  rw [← hw100]
  have hSd := True.intro
  clear hw100
  refine tilM 1 (Or.inr hSd) ?_
  refine tilM 2 (Or.inr hSd) ?_
  refine tilM 3 (Or.inr hSd) ?_
  refine tilM 5 (Or.inr hSd) ?_
  refine tilM 6 (Or.inr hSd) ?_
  refine tilM 7 (Or.inr hSd) ?_
  refine tilM 8 (Or.inr hSd) ?_
  refine wpTil_ready (rs := [0]) (by kernel_rfl) (by simp) ?_
  refine AllTil.cons rfl (fun K hK => ?_) ?_
  · skip
    rw [if_pos (by rfl)]
    go_simp
    obtain ⟨w101, hw101⟩ := letr (w100.alloc (.cells #[] 38))
    have HO101 := hide (show OwC mvC 38 4 w101 w100.heap.size (.slice (some ⟨w100.heap.size, 0, none⟩) 0 0) [] from by rw [hw101]; exact OwC.lit0 w100)
    have BE101 := hide (BE100.out.trans ((lBel hw101).out.mono BE100.out.size))
    have HS101 := hide (show w100.heap.size ≤ w101.heap.size from (lBel hw101).out.size)
    rw [← hw101]
    obtain ⟨hb0, hhb0⟩ := letl w100.heap.size
    rw [hhb0] at HO101 HS101 ⊢
    have HB0 := hide (show w.heap.size ≤ hb0 from by rw [← hhb0]; exact BE100.out.size)
    clear hw101 hhb0
    refine hK.out _ _ (True.intro) ?_
    clear hK K
    try clear hSd
    have hSd := True.intro
    try simp only [tilS, Act.put]
    refine wpTil_ready (rs := [4]) (by kernel_rfl) (by simp) ?_
    refine AllTil.cons rfl (fun K hK => ?_) ?_
    · skip
      refine step_append_cs (c := mvC) (sz := 4) (T := 38) (fun _ => rfl) w101 (by rfl) _ _ (by rfl) hb0 i0 _ 32 Try.underlying22 HI.out iz0 iz1 iz2 rfl (by omega) (by omega) (.slice (some ⟨hb0, 0, none⟩) 0 0) [] (by rfl) HO101.out (some ⟨g, 0, none⟩) i c (l.take i) (by rfl) HT1.out (mvC_one _) (fun _ => ⟨g, 0, rfl, fun j u hu => by rw [HF1.out, List.getElem?_take] at hu; split at hu; rw [Nat.zero_add]; exact HCE.out w101 BE101.out j u hu; cases hu⟩) (by simp only [List.length_nil]; omega) HS101.out ?_
      intro v5 w102 ho5 hg5
      have HO5 := hide (show OwC mvC 38 4 w102 hb0 v5 (l.take i) from ho5)
      have BE102 := hide (BE101.out.grown hg5 BE101.out.size (fun k hk => by have := (HO101.out.lt k hk).1; have := HB0.out; omega))
      have HS102 := hide (Nat.le_trans HS101.out hg5.size)
      clear ho5 hg5
      refine hK.out _ _ (True.intro) ?_
      clear hK K
      try clear hSd
      have hSd := True.intro
      try simp only [tilS, Act.put]
      refine wpTil_ready (rs := [9]) (by kernel_rfl) (by simp) ?_
      refine AllTil.last rfl (by rfl) (fun K hK => ?_)
      refine step_append_cs (c := mvC) (sz := 4) (T := 38) (fun _ => rfl) w102 (by rfl) _ _ (by rfl) hb0 i0 _ 32 Try.underlying22 HI.out iz0 iz1 iz2 rfl (by omega) (by omega) v5 (l.take i) (by rfl) HO5.out A2 md cc (l.drop (i + 1)) (by rfl) HT2.out (mvC_one _) (fun hp => ⟨g, (i + 1) * 4, HA2.out hp, fun j u hu => by rw [HF2.out, List.getElem?_drop] at hu; exact HCE.out w102 BE102.out _ u hu⟩) (by have := HT1.out; have := HMD.out; omega) HS102.out ?_
      intro v6 w103 ho6 hg6
      have HO6 := hide (show OwC mvC 38 4 w103 hb0 v6 (l.eraseIdx i) from by rw [← HE.out]; exact ho6)
      have BE103 := hide (BE102.out.grown hg6 BE102.out.size (fun k hk => by have := (HO5.out.lt k hk).1; have := HB0.out; omega))
      clear ho6 hg6
      refine hK.out _ _ ?_
      clear hK K hSd
      try simp only [tilS, Act.put]
      refine tilM 10 (Or.inl (by rfl)) ?_
      refine wpTil_done (by kernel_rfl) ?_ _
      go_wp2_with fail
      go_ret
      exact ⟨_, rfl, HO6.out.lower HB0.out, BE103.out⟩
    exact AllTil.nil
  exact AllTil.nil
end Go.Proofs.Ytkilfejcohnceaa
