/- Layer 16: cmp.Or, rising. No condition but on lengths. -/
import Derived.Test.YtojobajeffipdaaPcQA
import Derived.Test.YtojobajeffipdaaPcTIL
import Derived.Sort.Grow
import Derived.Deep.Cut
import Derived.Deep.CutRange
import Derived.Deep.CutBlock
import Derived.Deep.LoopGhost
set_option linter.unusedSimpArgs false
set_option linter.unusedVariables false
namespace Go.Proofs.Ytojobajeffipdaa
open Go.RowKit

def orL (zs : List Int) : Int := (zs.find? (fun z => decide (z ≠ 0))).getD 0
theorem orL_take {zs : List Int} {k : Nat} {z : Int} (h : ∀ y ∈ zs.take k, y = 0) (hz : zs[k]? = some z) (hn : z ≠ 0) : orL zs = z := by
  unfold orL
  obtain ⟨hk1, hk2⟩ := List.getElem?_eq_some_iff.1 hz
  have e := (List.take_append_drop k zs).symm
  rw [List.drop_eq_getElem_cons hk1, hk2] at e
  rw [e, List.find?_append, List.find?_eq_none.2 (fun y hy => by simp [h y hy])]
  simp [hn]
theorem orL_none {zs : List Int} (h : ∀ y ∈ zs, y = 0) : orL zs = 0 := by
  unfold orL
  rw [List.find?_eq_none.2 (fun y hy => by simp [h y hy])]
  rfl
set_option maxRecDepth 100000 in
theorem qor_any (A : Option Addr) (n c B : Nat) (zs : List Int) (w : World) (hn : zs.length = n) (hm : n ≤ 1000000) (hs : Sl w B .i64 A zs) : Calls Try.prog 25 #[.slice A n c] w fun e w' => e = .returned (.int .i64 (orL zs)) ∧ w = w' := by
  have HS := hide hs
  have HN := hide hn
  clear hs hn
  go_enter Try.func25, Try.ntmps25
  go_wp2
  go_loop [8] (fun i => ∃ k : Nat, k ≤ n ∧ i = .int .i64 k ∧ Hid (∀ y ∈ zs.take k, y = 0)) (fun i => n - (intOf i).toNat)
  case atStart => exact ⟨0, Nat.zero_le _, rfl, hide (by simp)⟩
  case round =>
    obtain ⟨k, hk, rfl, hz⟩ := hrel
    by_cases hlt : k < n
    · obtain ⟨y, hy⟩ : ∃ y, zs[k]? = some y := ⟨_, List.getElem?_eq_getElem (by have := HN.out; omega)⟩
      obtain ⟨b, o, rfl, hb, hc⟩ := HS.out (by have := HN.out; omega)
      have c0 := hc k (by have := HN.out; omega)
      have hyd : zs.getD k 0 = y := by rw [List.getD, hy]; rfl
      rw [hyd] at c0
      have HY := hide hy
      clear hy hc hyd
      by_cases h0 : y = 0
      · have HE := hide h0
        subst h0
        go_wp2
        go_round
        case rel => exact ⟨k + 1, by omega, by go_num, hide (fun z hz' => by
          rw [List.take_add_one, HY.out] at hz'
          simp at hz'
          rcases hz' with h | h
          · exact hz.out z h
          · exact h)⟩
        case measure => simp [intOf]; omega
      · go_wp2
        go_ret
        exact ⟨by rw [orL_take hz.out HY.out h0]; rfl, rfl⟩
    · go_wp2
      go_ret
      exact ⟨by rw [orL_none (fun y hy => hz.out y (by rw [List.take_of_length_le (by have := HN.out; omega)]; exact hy))]; rfl, rfl⟩
def riseN (a b : SpV) : Int := orL [cmpI a.f b.f, cmpI a.v b.v]
set_option maxHeartbeats 1000000 in
set_option maxRecDepth 100000 in
theorem qrising_any (a b : SpV) (w : World) : Calls Try.prog 21 #[spA a, spA b] w fun e w' => e = .returned (.int .i64 (riseN a b)) ∧ ∃ q os', w' = Go.Sort.grow (w.drewN q) os' := by
  obtain ⟨av, af, at', ac⟩ := a
  obtain ⟨bv, bf, bt, bc⟩ := b
  unfold spA riseN
  have HC1 := hide (fun (W : World) => qcmp_any af bf W)
  have HC2 := hide (fun (W : World) => qcmp_any av bv W)
  generalize cmpI af bf = x1, cmpI av bv = x2 at *
  have HO := hide (fun (W : World) (B : Nat) (A : Option Addr) (hs : Sl W B .i64 A [x1, x2]) => qor_any A 2 2 B [x1, x2] W rfl (by omega) hs)
  generalize orL [x1, x2] = r at *
  go_enter Try.func21, Try.ntmps21
  go_upto_region 1 with (fail)
  obtain ⟨w1, hw1⟩ : ∃ w1, w1 = (w.alloc (.cells #[.int .i64 av, .int .i64 af, .int .i64 at', .bool ac] 35)).alloc (.cells #[.int .i64 bv, .int .i64 bf, .int .i64 bt, .bool bc] 35) := ⟨_, rfl⟩
  obtain ⟨h0, hh0⟩ : ∃ h0, w.heap.size = h0 := ⟨_, rfl⟩
  have HX0 := hide (show Box w1 h0 #[.int .i64 av, .int .i64 af, .int .i64 at', .bool ac] 35 by rw [hw1, ← hh0]; exact (Box.new w _ _).alloc _)
  have HX1 := hide (show Box w1 (h0 + 1) #[.int .i64 bv, .int .i64 bf, .int .i64 bt, .bool bc] 35 by rw [hw1, ← hh0]; have t := Box.new (w.alloc (.cells #[.int .i64 av, .int .i64 af, .int .i64 at', .bool ac] 35)) #[.int .i64 bv, .int .i64 bf, .int .i64 bt, .bool bc] 35; (try simp only [World.size_alloc] at t); exact t)
  have HW := hide (show ∃ os', w1 = Go.Sort.grow w os' from ⟨_, by rw [hw1, Go.Sort.alloc_eq_grow, Go.Sort.alloc_eq_grow, Go.Sort.grow_grow]⟩)
  rw [← hw1, hh0]
  clear hw1 hh0
  have HKS := hide (fun (W : World) (hW : Below w1.heap.size w1 W) => (And.intro ((HX0.out.below hW).cell 1 (v := .int .i64 af) rfl).1 (And.intro ((HX1.out.below hW).cell 1 (v := .int .i64 bf) rfl).1 (And.intro ((HX0.out.below hW).cell 0 (v := .int .i64 av) rfl).1 ((HX1.out.below hW).cell 0 (v := .int .i64 bv) rfl).1))))
  have BE0 := hide (show Below w1.heap.size w1 w1.drew from below_drewN (Below.refl _ _) 1)
  refine wp_region_til (fun w' => w'.cell? ⟨h0, 1, none⟩ = some (.int .i64 af) ∧ w'.cell? ⟨h0 + 1, 1, none⟩ = some (.int .i64 bf) ∧ w'.cell? ⟨h0, 0, none⟩ = some (.int .i64 av) ∧ w'.cell? ⟨h0 + 1, 0, none⟩ = some (.int .i64 bv)) 11 (by kernel_rfl) (HKS.out _ BE0.out) ?_
  obtain ⟨w100, hw100⟩ : ∃ w100, w100 = w1.drew := ⟨_, rfl⟩
  have BE100 := hide (show Below w1.heap.size w1 w100 by rw [hw100]; exact BE0.out)
  rw [← hw100]
  have hSd := HKS.out w100 BE100.out
  have HW100 := hide hw100
  clear hw100
  refine tilM 0 (Or.inr hSd) ?_
  refine tilM 2 (Or.inr hSd) ?_
  refine tilM 5 (Or.inr hSd) ?_
  refine tilM 7 (Or.inr hSd) ?_
  refine tilD 1 [11, 10, 4] hSd ?_
  refine tilD 3 [11, 10, 4] hSd ?_
  refine tilD 6 [11, 9] hSd ?_
  refine tilD 8 [11, 9] hSd ?_
  refine wpTil_ready (rs := [4]) (by kernel_rfl) (by simp) ?_
  refine AllTil.cons rfl (fun K hK => ?_) ?_
  · skip
    rw [if_pos (by rfl)]
    go_simp
    go_at_call 26
    (with_reducible refine (HC1.out _).mono ?_)
    rintro e w0 ⟨rfl, rfl⟩
    refine hK.out _ _ (HKS.out w100 BE100.out) ?_
    clear hK K
    try clear hSd
    have hSd := HKS.out w100 BE100.out
    try simp only [tilS, Act.put]
    refine wpTil_ready (rs := [9]) (by kernel_rfl) (by simp) ?_
    refine AllTil.cons rfl (fun K hK => ?_) ?_
    · skip
      rw [if_pos (by rfl)]
      go_simp
      go_at_call 26
      (with_reducible refine (HC2.out _).mono ?_)
      rintro e w0 ⟨rfl, rfl⟩
      refine hK.out _ _ (HKS.out w100 BE100.out) ?_
      clear hK K
      try clear hSd
      have hSd := HKS.out w100 BE100.out
      try simp only [tilS, Act.put]
      refine wpTil_ready (rs := [10]) (by kernel_rfl) (by simp) ?_
      refine AllTil.cons rfl (fun K hK => ?_) ?_
      · skip
        rw [if_pos (by rfl)]
        go_simp
        obtain ⟨w101, hw101⟩ : ∃ wM, wM = w100.alloc (.cells #[.int .i64 x1, .int .i64 x2] 3) := ⟨_, rfl⟩
        obtain ⟨g, hg⟩ : ∃ g, w100.heap.size = g := ⟨_, rfl⟩
        have BE101 := hide (show Below w1.heap.size w1 w101 by rw [hw101]; exact BE100.out.alloc BE100.out.size _)
        have HSL := hide (show Sl w101 (g + 1) .i64 (some ⟨g, 0, none⟩) [x1, x2] by rw [hw101, ← hg]; exact Sl.lit w100 _ .i64 _ [x1, x2] rfl)
        have HG := hide (show ∃ q os', w101 = Go.Sort.grow (w1.drewN q) os' from ⟨1, _, by rw [hw101, HW100.out, Go.Sort.alloc_eq_grow]; rfl⟩)
        rw [← hw101, hg]
        clear hw101 hg
        refine hK.out _ _ (HKS.out w101 BE101.out) ?_
        clear hK K
        try clear hSd
        have hSd := HKS.out w101 BE101.out
        try simp only [tilS, Act.put]
        refine wpTil_ready (rs := [11]) (by kernel_rfl) (by simp) ?_
        refine AllTil.last rfl (by rfl) (fun K hK => ?_)
        rw [if_pos (by rfl)]
        go_simp
        go_at_call 25
        (with_reducible refine (HO.out w101 _ _ HSL.out).mono ?_)
        rintro e w0 ⟨rfl, rfl⟩
        refine hK.out _ _ ?_
        clear hK K hSd
        try simp only [tilS, Act.put]
        refine tilM 12 (Or.inl (by rfl)) ?_
        refine wpTil_done (by kernel_rfl) ?_ _
        go_wp2_with fail
        go_ret
        obtain ⟨q, os, h1⟩ := HG.out
        obtain ⟨os', h2⟩ := HW.out
        exact ⟨rfl, q, os' ++ os, by rw [h1, h2, ← Go.Sort.grow_grow]; rfl⟩
      exact AllTil.nil
    exact AllTil.nil
  exact AllTil.nil
end Go.Proofs.Ytojobajeffipdaa
