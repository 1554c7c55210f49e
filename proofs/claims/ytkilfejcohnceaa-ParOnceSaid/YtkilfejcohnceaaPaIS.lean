/- Layer 17: the fixed fact. No condition. -/
import Derived.Test.YtkilfejcohnceaaPaIQ
import Derived.Test.YtkilfejcohnceaaPaMV
import Derived.Test.YtkilfejcohnceaaPaQJ
set_option linter.unusedSimpArgs false
set_option linter.unusedVariables false
namespace Go.Proofs.Ytkilfejcohnceaa
open Go.RowKit

theorem size_loc17 : (Try.prog.info? 24).map (·.size) = some 2 := by kernel_rfl
set_option maxRecDepth 100000 in
theorem ireg_any (k : Int) (w : World) : Calls Try.prog 19 #[.int .i64 k] w fun e w' => e = .returned (.agg #[.int .i64 1, .int .i64 k]) ∧ Below w.heap.size w w' := by
  go_enter Try.func19, Try.ntmps19
  have HZ := hide (show Box (w.alloc (.cells #[.int .i64 1, .int .i64 k] 24)) w.heap.size #[.int .i64 1, .int .i64 k] 24 from Box.new w _ _)
  go_wp2
  refine bodyPost_ret (results_cell_row rfl _ _ w.heap.size 24 #[.int .i64 1, .int .i64 k] (0, 0) _ (by rfl) HZ.out Try.underlying24 rfl size_loc17) rfl ?_
  exact ⟨rfl, alloc1 w _⟩
set_option maxRecDepth 100000 in
theorem islot_any (k : Int) (w : World) : Calls Try.prog 20 #[.int .i64 k] w fun e w' => e = .returned (.agg #[.int .i64 2, .int .i64 k]) ∧ Below w.heap.size w w' := by
  go_enter Try.func20, Try.ntmps20
  have HZ := hide (show Box (w.alloc (.cells #[.int .i64 2, .int .i64 k] 24)) w.heap.size #[.int .i64 2, .int .i64 k] 24 from Box.new w _ _)
  go_wp2
  refine bodyPost_ret (results_cell_row rfl _ _ w.heap.size 24 #[.int .i64 2, .int .i64 k] (0, 0) _ (by rfl) HZ.out Try.underlying24 rfl size_loc17) rfl ?_
  exact ⟨rfl, alloc1 w _⟩
theorem ints_of_box {w : World} {g n : Nat} {zs : List Int} {T : TypeId} (b : Box w g (intsA zs) T) (hr : ∀ z ∈ zs, i64R z) (hn : zs.length = n) (hm : n ≤ 1000000) : IntsV w (· < w.heap.size) (.slice (some ⟨g, 0, none⟩) n n) zs := by
  subst hn
  refine ⟨_, _, rfl, Nat.le_refl _, by omega, fun hp => ⟨g, 0, rfl, b.lt, fun j x hj => ?_⟩⟩
  refine ⟨?_, hr x (List.mem_of_getElem? hj)⟩
  have t := (b.it hj).1
  rwa [Nat.zero_add, Nat.mul_one]
theorem mvs_two (w : World) (g : Nat) (a b : MvV) (ha : lcR a.t ∧ lcR a.f) (hb : lcR b.t ∧ lcR b.f) (h : Box w g #[.int .i64 a.t.k, .int .i64 a.t.n, .int .i64 a.f.k, .int .i64 a.f.n, .int .i64 b.t.k, .int .i64 b.t.n, .int .i64 b.f.k, .int .i64 b.f.n] 38) : MvsV w (· < w.heap.size) (.slice (some ⟨g, 0, none⟩) 2 2) [a, b] := by
  refine ⟨_, _, rfl, Nat.le_refl _, by omega, fun _ => ⟨g, 0, rfl, h.lt, fun j x hj => ?_⟩⟩
  match j, hj with
  | 0, hj =>
    simp at hj
    subst hj
    exact ⟨⟨(h.cell 0 rfl).1, (h.cell 1 rfl).1, (h.cell 2 rfl).1, (h.cell 3 rfl).1⟩, ha⟩
  | 1, hj =>
    simp at hj
    subst hj
    exact ⟨⟨(h.cell 4 rfl).1, (h.cell 5 rfl).1, (h.cell 6 rfl).1, (h.cell 7 rfl).1⟩, hb⟩
  | j + 2, hj => simp at hj
def two17 : List MvV := [⟨⟨1, 0⟩, ⟨1, 1⟩⟩, ⟨⟨1, 1⟩, ⟨1, 0⟩⟩]
def ord17 : List MvV := [⟨⟨2, 5⟩, ⟨1, 0⟩⟩, ⟨⟨1, 0⟩, ⟨1, 1⟩⟩, ⟨⟨1, 1⟩, ⟨2, 5⟩⟩]
theorem two_ok : okO two17 ⟨2, 5⟩ = true := by decide +kernel
theorem two_ord : orderL two17 ⟨2, 5⟩ = ord17 := by decide +kernel
theorem two_play : playL ord17 [⟨1, 0⟩, ⟨1, 1⟩] [7, 8] = [8, 7] := by decide +kernel
theorem lcR_small {k n : Int} (h : 0 ≤ k ∧ k ≤ 1000 ∧ 0 ≤ n ∧ n ≤ 1000) : lcR ⟨k, n⟩ := ⟨show i64R k from ⟨by omega, by omega⟩, show i64R n from ⟨by omega, by omega⟩⟩
set_option maxHeartbeats 4000000 in
set_option maxRecDepth 100000 in
theorem alive17_any (w : World) : Calls Try.prog 8 #[] w fun e w' => e = .returned (.bool true) ∧ Below w.heap.size w w' := by
  have HOR := hide (fun (W : World) (g : Nat) (h : Box W g #[.int .i64 1, .int .i64 0, .int .i64 1, .int .i64 1, .int .i64 1, .int .i64 1, .int .i64 1, .int .i64 0] 38) => (iorder_any (.slice (some ⟨g, 0, none⟩) 2 2) two17 ⟨2, 5⟩ W (mvs_two W g ⟨⟨1, 0⟩, ⟨1, 1⟩⟩ ⟨⟨1, 1⟩, ⟨1, 0⟩⟩ ⟨lcR_small (by omega), lcR_small (by omega)⟩ ⟨lcR_small (by omega), lcR_small (by omega)⟩ h) (by simp [two17]) (lcR_small (by omega))).mono (R' := fun e w' => ∃ g' c', e = .returned (.tuple #[.slice (some ⟨g', 0, none⟩) 3 c', .int .i64 0]) ∧ (OwC mvC 38 4 w' W.heap.size (.slice (some ⟨g', 0, none⟩) 3 c') ord17 ∧ mvR ord17) ∧ Below W.heap.size W w') (fun e w' h => by
    obtain ⟨h1, -, h3⟩ := h
    obtain ⟨v, he, ho, hr⟩ := h1 two_ok
    rw [two_ord] at ho hr
    obtain ⟨g', c', hv, -⟩ := ho.blk (by simp [ord17])
    subst hv
    exact ⟨g', c', he, ⟨ho, hr⟩, h3⟩))
  have HPL := hide (fun (W : World) (v : Value) (hm : MvsV W (· < W.heap.size) v ord17) (g1 g2 : Nat) (b1 : Box W g1 #[.int .i64 1, .int .i64 0, .int .i64 1, .int .i64 1] 24) (b2 : Box W g2 #[.int .i64 7, .int .i64 8] 3) => (show Calls Try.prog 15 #[v, .slice (some ⟨g1, 0, none⟩) 2 2, .slice (some ⟨g2, 0, none⟩) 2 2] W fun e w' => ∃ g, e = .returned (.slice (some ⟨g, 0, none⟩) 2 2) ∧ Box w' g #[.int .i64 8, .int .i64 7] 3 ∧ Below W.heap.size W w' from
    (iplay_any v (.slice (some ⟨g1, 0, none⟩) 2 2) (.slice (some ⟨g2, 0, none⟩) 2 2) ord17 [⟨1, 0⟩, ⟨1, 1⟩] [7, 8] W hm (lcs_of_box (ls := [⟨1, 0⟩, ⟨1, 1⟩]) b1 (fun x hx => by simp at hx; rcases hx with rfl | rfl <;> exact lcR_small (by omega)) rfl (Nat.le_refl _) (by omega)) (ints_of_box (zs := [7, 8]) b2 (fun z hz => by simp at hz; rcases hz with rfl | rfl <;> exact ⟨by omega, by omega⟩) rfl (by omega)) (by simp [ord17]) (by simp) (by simp)).mono (fun e w' h => by
      obtain ⟨g, he, hx, -, hb⟩ := h
      rw [two_play] at hx
      exact ⟨g, he, hx, hb⟩)))
  have HIN := hide (fun (W : World) (g1 g2 : Nat) (b1 : Box W g1 #[.int .i64 8, .int .i64 7] 3) (b2 : Box W g2 #[.int .i64 8, .int .i64 7] 3) => (show Calls Try.prog 14 #[.slice (some ⟨g1, 0, none⟩) 2 2, .slice (some ⟨g2, 0, none⟩) 2 2] W fun e w' => e = .returned (.bool true) ∧ Below W.heap.size W w' from by
    obtain ⟨A1, c1, e1, -, -, s1, -⟩ := (ints_of_box (n := 2) (zs := [8, 7]) b1 (fun z hz => by simp at hz; rcases hz with rfl | rfl <;> exact ⟨by omega, by omega⟩) rfl (by omega)).sl
    obtain ⟨A2, c2, e2, -, -, s2, -⟩ := (ints_of_box (n := 2) (zs := [8, 7]) b2 (fun z hz => by simp at hz; rcases hz with rfl | rfl <;> exact ⟨by omega, by omega⟩) rfl (by omega)).sl
    injection e1 with e1 _ _
    injection e2 with e2 _ _
    subst e1
    subst e2
    refine (ints_any _ _ 2 2 2 2 [8, 7] [8, 7] W _ _ s1 s2 rfl rfl (by omega) (by omega)).mono ?_
    rintro e w' ⟨he, q, rfl⟩
    exact ⟨by rw [he]; rfl, below_drewN (Below.refl _ _) q⟩))
  unfold lcA at HOR
  have HB := hide (Below.refl w.heap.size w)
  go_enter Try.func8, Try.ntmps8
  go_upto_region 2 with (first
    | (go_at_call 9; (with_reducible refine (HOR.out w6 h0 HX6.out).mono ?_); rintro e w7 ⟨g', c', rfl, ⟨ho, hr⟩, hb⟩; have HO7 := hide ho; have HR7 := hide hr; have HB := hide (HB.out.trans (hb.mono HB.out.size)); clear hb ho hr HX6)
    | (obtain ⟨h0, hh0⟩ := letl w4.heap.size; obtain ⟨w5, hw5⟩ := letr (w4.alloc (.cells #[.int .i64 1, .int .i64 0, .int .i64 1, .int .i64 1, .int .i64 1, .int .i64 1, .int .i64 1, .int .i64 0] 38)); have HX5 := lBox hw5 hh0; have hb5 := (lBel hw5).out; rw [← hw5, hh0]; clear hw5 hh0; go_at_call 20; (with_reducible refine (islot_any 5 w5).mono ?_); rintro e w6 ⟨rfl, hb⟩; have HX6 := hide (HX5.out.below hb); have HB := hide (HB.out.trans ((hb5.trans (hb.mono hb5.size)).mono HB.out.size)); clear hb hb5 HX5)
    | (go_at_call 19; (with_reducible refine (ireg_any 0 w3).mono ?_); rintro e w4 ⟨rfl, hb⟩; have HB := hide (HB.out.trans (hb.mono HB.out.size)); clear hb)
    | (go_at_call 19; (with_reducible refine (ireg_any 1 w2).mono ?_); rintro e w3 ⟨rfl, hb⟩; have HB := hide (HB.out.trans (hb.mono HB.out.size)); clear hb)
    | (go_at_call 19; (with_reducible refine (ireg_any 1 w1).mono ?_); rintro e w2 ⟨rfl, hb⟩; have HB := hide (HB.out.trans (hb.mono HB.out.size)); clear hb)
    | (go_at_call 19; (with_reducible refine (ireg_any 0 w).mono ?_); rintro e w1 ⟨rfl, hb⟩; have HB := hide (HB.out.trans (hb.mono HB.out.size)); clear hb))
  have HMV := hide (mvs_own HO7.out HR7.out)
  have HC7 := hide (mv_cells HO7.out (n := 3) (a := 0) (e := ⟨⟨2, 5⟩, ⟨1, 0⟩⟩) rfl rfl)
  have HGL := hide (show g' < w7.heap.size from (HO7.out.lt g' rfl).2)
  have HKS := hide (fun (W : World) (hW : Below w7.heap.size w7 W) => (show W.cell? ⟨g', 0, none⟩ = some (.int .i64 2) ∧ W.cell? ⟨g', 1, none⟩ = some (.int .i64 5) ∧ W.cell? ⟨g', 2, none⟩ = some (.int .i64 1) ∧ W.cell? ⟨g', 3, none⟩ = some (.int .i64 0) ∧ g' < W.heap.size from ⟨(hW.cell (p := ⟨g', 0, none⟩) HGL.out).trans (by have t := HC7.out.1.1; simpa using t), (hW.cell (p := ⟨g', 1, none⟩) HGL.out).trans (by have t := HC7.out.2.1.1; simpa using t), (hW.cell (p := ⟨g', 2, none⟩) HGL.out).trans (by have t := HC7.out.2.2.1.1; simpa using t), (hW.cell (p := ⟨g', 3, none⟩) HGL.out).trans (by have t := HC7.out.2.2.2.1; simpa using t), Nat.lt_of_lt_of_le HGL.out hW.size⟩))
  have BE0 := hide (show Below w7.heap.size w7 w7.drew from below_drewN (Below.refl _ _) 1)
  refine wp_region_til (fun w' => w'.cell? ⟨g', 0, none⟩ = some (.int .i64 2) ∧ w'.cell? ⟨g', 1, none⟩ = some (.int .i64 5) ∧ w'.cell? ⟨g', 2, none⟩ = some (.int .i64 1) ∧ w'.cell? ⟨g', 3, none⟩ = some (.int .i64 0) ∧ g' < w'.heap.size) 24 (by kernel_rfl) (HKS.out _ BE0.out) ?_
  obtain ⟨w100, hw100⟩ : ∃ w100, w100 = w7.drew := ⟨_, rfl⟩
  have BE100 := hide (show Below w7.heap.size w7 w100 by rw [hw100]; exact BE0.out)
  rw [← hw100]
  have hSd := HKS.out w100 BE100.out
  clear hw100
  refine tilM 0 (Or.inr hSd) ?_
  refine tilM 1 (Or.inr hSd) ?_
  refine tilM 2 (Or.inr hSd) ?_
  refine tilM 3 (Or.inr hSd) ?_
  refine tilM 4 (Or.inr hSd) ?_
  refine tilM 5 (Or.inr hSd) ?_
  refine tilM 6 (Or.inr hSd) ?_
  refine tilM 7 (Or.inr hSd) ?_
  refine tilM 8 (Or.inr hSd) ?_
  refine tilM 9 (Or.inr hSd) ?_
  refine tilD 10 [24, 16, 15, 14] hSd ?_
  refine wpTil_ready (rs := [11]) (by kernel_rfl) (by simp) ?_
  refine AllTil.cons rfl (fun K hK => ?_) ?_
  · skip
    rw [if_pos (by rfl)]
    go_simp
    go_at_call 20
    (with_reducible refine (islot_any 5 w100).mono ?_)
    rintro e w101 ⟨rfl, hb⟩
    have BE101 := hide (BE100.out.trans (hb.mono BE100.out.size))
    clear hb
    refine hK.out _ _ (HKS.out w101 BE101.out) ?_
    clear hK K
    try clear hSd
    have hSd := HKS.out w101 BE101.out
    try simp only [tilS, Act.put]
    refine wpTil_ready (rs := [12]) (by kernel_rfl) (by simp) ?_
    refine AllTil.cons rfl (fun K hK => ?_) ?_
    · skip
      rw [if_pos (by rfl)]
      go_simp
      go_at_call 19
      (with_reducible refine (ireg_any 0 w101).mono ?_)
      rintro e w102 ⟨rfl, hb⟩
      have BE102 := hide (BE101.out.trans (hb.mono BE101.out.size))
      clear hb
      refine hK.out _ _ (HKS.out w102 BE102.out) ?_
      clear hK K
      try clear hSd
      have hSd := HKS.out w102 BE102.out
      try simp only [tilS, Act.put]
      refine tilM 13 (Or.inr hSd) ?_
      refine tilM 14 (Or.inr hSd) ?_
      refine tilM 15 (Or.inr hSd) ?_
      refine tilM 16 (Or.inr hSd) ?_
      refine tilM 17 (Or.inr hSd) ?_
      refine wpTil_ready (rs := [18, 21, 23]) (by kernel_rfl) (by simp) ?_
      refine AllTil.cons rfl (fun K hK => ?_) ?_
      · skip
        rw [if_pos (by rfl)]
        go_simp
        go_at_call 19
        (with_reducible refine (ireg_any 0 w102).mono ?_)
        rintro e w103 ⟨rfl, hb⟩
        have BE103 := hide (BE102.out.trans (hb.mono BE102.out.size))
        clear hb
        refine hK.out _ _ (HKS.out w103 BE103.out) ?_
        clear hK K
        try clear hSd
        have hSd := HKS.out w103 BE103.out
        try simp only [tilS, Act.put]
        refine wpTil_ready (rs := [19, 21, 23]) (by kernel_rfl) (by simp) ?_
        refine AllTil.cons rfl (fun K hK => ?_) ?_
        · skip
          rw [if_pos (by rfl)]
          go_simp
          go_at_call 19
          (with_reducible refine (ireg_any 1 w103).mono ?_)
          rintro e w104 ⟨rfl, hb⟩
          have BE104 := hide (BE103.out.trans (hb.mono BE103.out.size))
          clear hb
          refine hK.out _ _ (HKS.out w104 BE104.out) ?_
          clear hK K
          try clear hSd
          have hSd := HKS.out w104 BE104.out
          try simp only [tilS, Act.put]
          refine wpTil_ready (rs := [20, 21, 23]) (by kernel_rfl) (by simp) ?_
          refine AllTil.cons rfl (fun K hK => ?_) ?_
          · skip
            rw [if_pos (by rfl)]
            go_simp
            obtain ⟨h20, hh20⟩ := letl w104.heap.size
            obtain ⟨w105, hw105⟩ := letr (w104.alloc (.cells #[.int .i64 1, .int .i64 0, .int .i64 1, .int .i64 1] 24))
            have BX20 := lBox hw105 hh20
            have hb := (show Below w104.heap.size w104 w105 from by rw [hw105]; exact alloc1 _ _)
            have BE105 := hide (BE104.out.trans (hb.mono BE104.out.size))
            rw [← hw105, hh20]
            clear hb hw105 hh20
            refine hK.out _ _ (HKS.out w105 BE105.out) ?_
            clear hK K
            try clear hSd
            have hSd := HKS.out w105 BE105.out
            try simp only [tilS, Act.put]
            refine wpTil_ready (rs := [21, 23]) (by kernel_rfl) (by simp) ?_
            refine AllTil.cons rfl (fun K hK => ?_) ?_
            · skip
              rw [if_pos (by rfl)]
              go_simp
              obtain ⟨h21, hh21⟩ := letl w105.heap.size
              obtain ⟨w106, hw106⟩ := letr (w105.alloc (.cells #[.int .i64 7, .int .i64 8] 3))
              have BX21 := lBox hw106 hh21
              have hb := (show Below w105.heap.size w105 w106 from by rw [hw106]; exact alloc1 _ _)
              have BE106 := hide (BE105.out.trans (hb.mono BE105.out.size))
              have BX20 := hide (BX20.out.below hb)
              rw [← hw106, hh21]
              clear hb hw106 hh21
              refine hK.out _ _ (HKS.out w106 BE106.out) ?_
              clear hK K
              try clear hSd
              have hSd := HKS.out w106 BE106.out
              try simp only [tilS, Act.put]
              refine wpTil_ready (rs := [22, 23]) (by kernel_rfl) (by simp) ?_
              refine AllTil.cons rfl (fun K hK => ?_) ?_
              · skip
                rw [if_pos (by rfl)]
                go_simp
                go_at_call 15
                (with_reducible refine (HPL.out w106 _ (HMV.out.up BE106.out) h20 h21 BX20.out BX21.out).mono ?_)
                rintro e w107 ⟨h22, rfl, hx, hb⟩
                have BX22 := hide hx
                have BE107 := hide (BE106.out.trans (hb.mono BE106.out.size))
                have BX20 := hide (BX20.out.below hb)
                have BX21 := hide (BX21.out.below hb)
                clear hb hx
                refine hK.out _ _ (HKS.out w107 BE107.out) ?_
                clear hK K
                try clear hSd
                have hSd := HKS.out w107 BE107.out
                try simp only [tilS, Act.put]
                refine wpTil_ready (rs := [23]) (by kernel_rfl) (by simp) ?_
                refine AllTil.cons rfl (fun K hK => ?_) ?_
                · skip
                  rw [if_pos (by rfl)]
                  go_simp
                  obtain ⟨h23, hh23⟩ := letl w107.heap.size
                  obtain ⟨w108, hw108⟩ := letr (w107.alloc (.cells #[.int .i64 8, .int .i64 7] 3))
                  have BX23 := lBox hw108 hh23
                  have hb := (show Below w107.heap.size w107 w108 from by rw [hw108]; exact alloc1 _ _)
                  have BE108 := hide (BE107.out.trans (hb.mono BE107.out.size))
                  have BX20 := hide (BX20.out.below hb)
                  have BX21 := hide (BX21.out.below hb)
                  have BX22 := hide (BX22.out.below hb)
                  rw [← hw108, hh23]
                  clear hb hw108 hh23
                  refine hK.out _ _ (HKS.out w108 BE108.out) ?_
                  clear hK K
                  try clear hSd
                  have hSd := HKS.out w108 BE108.out
                  try simp only [tilS, Act.put]
                  refine wpTil_ready (rs := [24]) (by kernel_rfl) (by simp) ?_
                  refine AllTil.last rfl (by rfl) (fun K hK => ?_)
                  rw [if_pos (by rfl)]
                  go_simp
                  go_at_call 14
                  (with_reducible refine (HIN.out w108 h22 h23 BX22.out BX23.out).mono ?_)
                  rintro e w109 ⟨rfl, hb⟩
                  have BE109 := hide (BE108.out.trans (hb.mono BE108.out.size))
                  clear hb
                  refine hK.out _ _ ?_
                  clear hK K hSd
                  try simp only [tilS, Act.put]
                  refine tilM 25 (Or.inl (by rfl)) ?_
                  refine tilM 26 (Or.inl (by rfl)) ?_
                  refine wpTil_done (by kernel_rfl) ?_ _
                  go_wp2_with fail
                  go_ret
                  exact ⟨rfl, HB.out.trans (BE109.out.mono HB.out.size)⟩
                exact AllTil.nil
              refine AllTil.cons rfl (fun K hK => ?_) ?_
              · skip
                rw [if_pos (by rfl)]
                go_simp
                obtain ⟨h23, hh23⟩ := letl w106.heap.size
                obtain ⟨w110, hw110⟩ := letr (w106.alloc (.cells #[.int .i64 8, .int .i64 7] 3))
                have BX23 := lBox hw110 hh23
                have hb := (show Below w106.heap.size w106 w110 from by rw [hw110]; exact alloc1 _ _)
                have BE110 := hide (BE106.out.trans (hb.mono BE106.out.size))
                have BX20 := hide (BX20.out.below hb)
                have BX21 := hide (BX21.out.below hb)
                rw [← hw110, hh23]
                clear hb hw110 hh23
                refine hK.out _ _ (HKS.out w110 BE110.out) ?_
                clear hK K
                try clear hSd
                have hSd := HKS.out w110 BE110.out
                try simp only [tilS, Act.put]
                refine wpTil_ready (rs := [22]) (by kernel_rfl) (by simp) ?_
                refine AllTil.cons rfl (fun K hK => ?_) ?_
                · skip
                  rw [if_pos (by rfl)]
                  go_simp
                  go_at_call 15
                  (with_reducible refine (HPL.out w110 _ (HMV.out.up BE110.out) h20 h21 BX20.out BX21.out).mono ?_)
                  rintro e w111 ⟨h22, rfl, hx, hb⟩
                  have BX22 := hide hx
                  have BE111 := hide (BE110.out.trans (hb.mono BE110.out.size))
                  have BX20 := hide (BX20.out.below hb)
                  have BX21 := hide (BX21.out.below hb)
                  have BX23 := hide (BX23.out.below hb)
                  clear hb hx
                  refine hK.out _ _ (HKS.out w111 BE111.out) ?_
                  clear hK K
                  try clear hSd
                  have hSd := HKS.out w111 BE111.out
                  try simp only [tilS, Act.put]
                  refine wpTil_ready (rs := [24]) (by kernel_rfl) (by simp) ?_
                  refine AllTil.last rfl (by rfl) (fun K hK => ?_)
                  rw [if_pos (by rfl)]
                  go_simp
                  go_at_call 14
                  (with_reducible refine (HIN.out w111 h22 h23 BX22.out BX23.out).mono ?_)
                  rintro e w112 ⟨rfl, hb⟩
                  have BE112 := hide (BE111.out.trans (hb.mono BE111.out.size))
                  clear hb
                  refine hK.out _ _ ?_
                  clear hK K hSd
                  try simp only [tilS, Act.put]
                  refine tilM 25 (Or.inl (by rfl)) ?_
                  refine tilM 26 (Or.inl (by rfl)) ?_
                  refine wpTil_done (by kernel_rfl) ?_ _
                  go_wp2_with fail
                  go_ret
                  exact ⟨rfl, HB.out.trans (BE112.out.mono HB.out.size)⟩
                exact AllTil.nil
              exact AllTil.nil
            refine AllTil.cons rfl (fun K hK => ?_) ?_
            · skip
              rw [if_pos (by rfl)]
              go_simp
              obtain ⟨h23, hh23⟩ := letl w105.heap.size
              obtain ⟨w113, hw113⟩ := letr (w105.alloc (.cells #[.int .i64 8, .int .i64 7] 3))
              have BX23 := lBox hw113 hh23
              have hb := (show Below w105.heap.size w105 w113 from by rw [hw113]; exact alloc1 _ _)
              have BE113 := hide (BE105.out.trans (hb.mono BE105.out.size))
              have BX20 := hide (BX20.out.below hb)
              rw [← hw113, hh23]
              clear hb hw113 hh23
              refine hK.out _ _ (HKS.out w113 BE113.out) ?_
              clear hK K
              try clear hSd
              have hSd := HKS.out w113 BE113.out
              try simp only [tilS, Act.put]
              refine wpTil_ready (rs := [21]) (by kernel_rfl) (by simp) ?_
              refine AllTil.cons rfl (fun K hK => ?_) ?_
              · skip
                rw [if_pos (by rfl)]
                go_simp
                obtain ⟨h21, hh21⟩ := letl w113.heap.size
                obtain ⟨w114, hw114⟩ := letr (w113.alloc (.cells #[.int .i64 7, .int .i64 8] 3))
                have BX21 := lBox hw114 hh21
                have hb := (show Below w113.heap.size w113 w114 from by rw [hw114]; exact alloc1 _ _)
                have BE114 := hide (BE113.out.trans (hb.mono BE113.out.size))
                have BX20 := hide (BX20.out.below hb)
                have BX23 := hide (BX23.out.below hb)
                rw [← hw114, hh21]
                clear hb hw114 hh21
                refine hK.out _ _ (HKS.out w114 BE114.out) ?_
                clear hK K
                try clear hSd
                have hSd := HKS.out w114 BE114.out
                try simp only [tilS, Act.put]
                refine wpTil_ready (rs := [22]) (by kernel_rfl) (by simp) ?_
                refine AllTil.cons rfl (fun K hK => ?_) ?_
                · skip
                  rw [if_pos (by rfl)]
                  go_simp
                  go_at_call 15
                  (with_reducible refine (HPL.out w114 _ (HMV.out.up BE114.out) h20 h21 BX20.out BX21.out).mono ?_)
                  rintro e w115 ⟨h22, rfl, hx, hb⟩
                  have BX22 := hide hx
                  have BE115 := hide (BE114.out.trans (hb.mono BE114.out.size))
                  have BX20 := hide (BX20.out.below hb)
                  have BX21 := hide (BX21.out.below hb)
                  have BX23 := hide (BX23.out.below hb)
                  clear hb hx
                  refine hK.out _ _ (HKS.out w115 BE115.out) ?_
                  clear hK K
                  try clear hSd
                  have hSd := HKS.out w115 BE115.out
                  try simp only [tilS, Act.put]
                  refine wpTil_ready (rs := [24]) (by kernel_rfl) (by simp) ?_
                  refine AllTil.last rfl (by rfl) (fun K hK => ?_)
                  rw [if_pos (by rfl)]
                  go_simp
                  go_at_call 14
                  (with_reducible refine (HIN.out w115 h22 h23 BX22.out BX23.out).mono ?_)
                  rintro e w116 ⟨rfl, hb⟩
                  have BE116 := hide (BE115.out.trans (hb.mono BE115.out.size))
                  clear hb
                  refine hK.out _ _ ?_
                  clear hK K hSd
                  try simp only [tilS, Act.put]
                  refine tilM 25 (Or.inl (by rfl)) ?_
                  refine tilM 26 (Or.inl (by rfl)) ?_
                  refine wpTil_done (by kernel_rfl) ?_ _
                  go_wp2_with fail
                  go_ret
                  exact ⟨rfl, HB.out.trans (BE116.out.mono HB.out.size)⟩
                exact AllTil.nil
              exact AllTil.nil
            exact AllTil.nil
          refine AllTil.cons rfl (fun K hK => ?_) ?_
          · skip
            rw [if_pos (by rfl)]
            go_simp
            obtain ⟨h21, hh21⟩ := letl w104.heap.size
            obtain ⟨w117, hw117⟩ := letr (w104.alloc (.cells #[.int .i64 7, .int .i64 8] 3))
            have BX21 := lBox hw117 hh21
            have hb := (show Below w104.heap.size w104 w117 from by rw [hw117]; exact alloc1 _ _)
            have BE117 := hide (BE104.out.trans (hb.mono BE104.out.size))
            rw [← hw117, hh21]
            clear hb hw117 hh21
            refine hK.out _ _ (HKS.out w117 BE117.out) ?_
            clear hK K
            try clear hSd
            have hSd := HKS.out w117 BE117.out
            try simp only [tilS, Act.put]
            refine wpTil_ready (rs := [20, 23]) (by kernel_rfl) (by simp) ?_
            refine AllTil.cons rfl (fun K hK => ?_) ?_
            · skip
              rw [if_pos (by rfl)]
              go_simp
              obtain ⟨h20, hh20⟩ := letl w117.heap.size
              obtain ⟨w118, hw118⟩ := letr (w117.alloc (.cells #[.int .i64 1, .int .i64 0, .int .i64 1, .int .i64 1] 24))
              have BX20 := lBox hw118 hh20
              have hb := (show Below w117.heap.size w117 w118 from by rw [hw118]; exact alloc1 _ _)
              have BE118 := hide (BE117.out.trans (hb.mono BE117.out.size))
              have BX21 := hide (BX21.out.below hb)
              rw [← hw118, hh20]
              clear hb hw118 hh20
              refine hK.out _ _ (HKS.out w118 BE118.out) ?_
              clear hK K
              try clear hSd
              have hSd := HKS.out w118 BE118.out
              try simp only [tilS, Act.put]
              refine wpTil_ready (rs := [22, 23]) (by kernel_rfl) (by simp) ?_
              refine AllTil.cons rfl (fun K hK => ?_) ?_
              · skip
                rw [if_pos (by rfl)]
                go_simp
                go_at_call 15
                (with_reducible refine (HPL.out w118 _ (HMV.out.up BE118.out) h20 h21 BX20.out BX21.out).mono ?_)
                rintro e w119 ⟨h22, rfl, hx, hb⟩
                have BX22 := hide hx
                have BE119 := hide (BE118.out.trans (hb.mono BE118.out.size))
                have BX20 := hide (BX20.out.below hb)
                have BX21 := hide (BX21.out.below hb)
                clear hb hx
                refine hK.out _ _ (HKS.out w119 BE119.out) ?_
                clear hK K
                try clear hSd
                have hSd := HKS.out w119 BE119.out
                try simp only [tilS, Act.put]
                refine wpTil_ready (rs := [23]) (by kernel_rfl) (by simp) ?_
                refine AllTil.cons rfl (fun K hK => ?_) ?_
                · skip
                  rw [if_pos (by rfl)]
                  go_simp
                  obtain ⟨h23, hh23⟩ := letl w119.heap.size
                  obtain ⟨w120, hw120⟩ := letr (w119.alloc (.cells #[.int .i64 8, .int .i64 7] 3))
                  have BX23 := lBox hw120 hh23
                  have hb := (show Below w119.heap.size w119 w120 from by rw [hw120]; exact alloc1 _ _)
                  have BE120 := hide (BE119.out.trans (hb.mono BE119.out.size))
                  have BX20 := hide (BX20.out.below hb)
                  have BX21 := hide (BX21.out.below hb)
                  have BX22 := hide (BX22.out.below hb)
                  rw [← hw120, hh23]
                  clear hb hw120 hh23
                  refine hK.out _ _ (HKS.out w120 BE120.out) ?_
                  clear hK K
                  try clear hSd
                  have hSd := HKS.out w120 BE120.out
                  try simp only [tilS, Act.put]
                  refine wpTil_ready (rs := [24]) (by kernel_rfl) (by simp) ?_
                  refine AllTil.last rfl (by rfl) (fun K hK => ?_)
                  rw [if_pos (by rfl)]
                  go_simp
                  go_at_call 14
                  (with_reducible refine (HIN.out w120 h22 h23 BX22.out BX23.out).mono ?_)
                  rintro e w121 ⟨rfl, hb⟩
                  have BE121 := hide (BE120.out.trans (hb.mono BE120.out.size))
                  clear hb
                  refine hK.out _ _ ?_
                  clear hK K hSd
                  try simp only [tilS, Act.put]
                  refine tilM 25 (Or.inl (by rfl)) ?_
                  refine tilM 26 (Or.inl (by rfl)) ?_
                  refine wpTil_done (by kernel_rfl) ?_ _
                  go_wp2_with fail
                  go_ret
                  exact ⟨rfl, HB.out.trans (BE121.out.mono HB.out.size)⟩
                exact AllTil.nil
              refine AllTil.cons rfl (fun K hK => ?_) ?_
              · skip
                rw [if_pos (by rfl)]
                go_simp
                obtain ⟨h23, hh23⟩ := letl w118.heap.size
                obtain ⟨w122, hw122⟩ := letr (w118.alloc (.cells #[.int .i64 8, .int .i64 7] 3))
                have BX23 := lBox hw122 hh23
                have hb := (show Below w118.heap.size w118 w122 from by rw [hw122]; exact alloc1 _ _)
                have BE122 := hide (BE118.out.trans (hb.mono BE118.out.size))
                have BX20 := hide (BX20.out.below hb)
                have BX21 := hide (BX21.out.below hb)
                rw [← hw122, hh23]
                clear hb hw122 hh23
                refine hK.out _ _ (HKS.out w122 BE122.out) ?_
                clear hK K
                try clear hSd
                have hSd := HKS.out w122 BE122.out
                try simp only [tilS, Act.put]
                refine wpTil_ready (rs := [22]) (by kernel_rfl) (by simp) ?_
                refine AllTil.cons rfl (fun K hK => ?_) ?_
                · skip
                  rw [if_pos (by rfl)]
                  go_simp
                  go_at_call 15
                  (with_reducible refine (HPL.out w122 _ (HMV.out.up BE122.out) h20 h21 BX20.out BX21.out).mono ?_)
                  rintro e w123 ⟨h22, rfl, hx, hb⟩
                  have BX22 := hide hx
                  have BE123 := hide (BE122.out.trans (hb.mono BE122.out.size))
                  have BX20 := hide (BX20.out.below hb)
                  have BX21 := hide (BX21.out.below hb)
                  have BX23 := hide (BX23.out.below hb)
                  clear hb hx
                  refine hK.out _ _ (HKS.out w123 BE123.out) ?_
                  clear hK K
                  try clear hSd
                  have hSd := HKS.out w123 BE123.out
                  try simp only [tilS, Act.put]
                  refine wpTil_ready (rs := [24]) (by kernel_rfl) (by simp) ?_
                  refine AllTil.last rfl (by rfl) (fun K hK => ?_)
                  rw [if_pos (by rfl)]
                  go_simp
                  go_at_call 14
                  (with_reducible refine (HIN.out w123 h22 h23 BX22.out BX23.out).mono ?_)
                  rintro e w124 ⟨rfl, hb⟩
                  have BE124 := hide (BE123.out.trans (hb.mono BE123.out.size))
                  clear hb
                  refine hK.out _ _ ?_
                  clear hK K hSd
                  try simp only [tilS, Act.put]
                  refine tilM 25 (Or.inl (by rfl)) ?_
                  refine tilM 26 (Or.inl (by rfl)) ?_
                  refine wpTil_done (by kernel_rfl) ?_ _
                  go_wp2_with fail
                  go_ret
                  exact ⟨rfl, HB.out.trans (BE124.out.mono HB.out.size)⟩
                exact AllTil.nil
              exact AllTil.nil
            refine AllTil.cons rfl (fun K hK => ?_) ?_
            · skip
              rw [if_pos (by rfl)]
              go_simp
              obtain ⟨h23, hh23⟩ := letl w117.heap.size
              obtain ⟨w125, hw125⟩ := letr (w117.alloc (.cells #[.int .i64 8, .int .i64 7] 3))
              have BX23 := lBox hw125 hh23
              have hb := (show Below w117.heap.size w117 w125 from by rw [hw125]; exact alloc1 _ _)
              have BE125 := hide (BE117.out.trans (hb.mono BE117.out.size))
              have BX21 := hide (BX21.out.below hb)
              rw [← hw125, hh23]
              clear hb hw125 hh23
              refine hK.out _ _ (HKS.out w125 BE125.out) ?_
              clear hK K
              try clear hSd
              have hSd := HKS.out w125 BE125.out
              try simp only [tilS, Act.put]
              refine wpTil_ready (rs := [20]) (by kernel_rfl) (by simp) ?_
              refine AllTil.cons rfl (fun K hK => ?_) ?_
              · skip
                rw [if_pos (by rfl)]
                go_simp
                obtain ⟨h20, hh20⟩ := letl w125.heap.size
                obtain ⟨w126, hw126⟩ := letr (w125.alloc (.cells #[.int .i64 1, .int .i64 0, .int .i64 1, .int .i64 1] 24))
                have BX20 := lBox hw126 hh20
                have hb := (show Below w125.heap.size w125 w126 from by rw [hw126]; exact alloc1 _ _)
                have BE126 := hide (BE125.out.trans (hb.mono BE125.out.size))
                have BX21 := hide (BX21.out.below hb)
                have BX23 := hide (BX23.out.below hb)
                rw [← hw126, hh20]
                clear hb hw126 hh20
                refine hK.out _ _ (HKS.out w126 BE126.out) ?_
                clear hK K
                try clear hSd
                have hSd := HKS.out w126 BE126.out
                try simp only [tilS, Act.put]
                refine wpTil_ready (rs := [22]) (by kernel_rfl) (by simp) ?_
                refine AllTil.cons rfl (fun K hK => ?_) ?_
                · skip
                  rw [if_pos (by rfl)]
                  go_simp
                  go_at_call 15
                  (with_reducible refine (HPL.out w126 _ (HMV.out.up BE126.out) h20 h21 BX20.out BX21.out).mono ?_)
                  rintro e w127 ⟨h22, rfl, hx, hb⟩
                  have BX22 := hide hx
                  have BE127 := hide (BE126.out.trans (hb.mono BE126.out.size))
                  have BX20 := hide (BX20.out.below hb)
                  have BX21 := hide (BX21.out.below hb)
                  have BX23 := hide (BX23.out.below hb)
                  clear hb hx
                  refine hK.out _ _ (HKS.out w127 BE127.out) ?_
                  clear hK K
                  try clear hSd
                  have hSd := HKS.out w127 BE127.out
                  try simp only [tilS, Act.put]
                  refine wpTil_ready (rs := [24]) (by kernel_rfl) (by simp) ?_
                  refine AllTil.last rfl (by rfl) (fun K hK => ?_)
                  rw [if_pos (by rfl)]
                  go_simp
                  go_at_call 14
                  (with_reducible refine (HIN.out w127 h22 h23 BX22.out BX23.out).mono ?_)
                  rintro e w128 ⟨rfl, hb⟩
                  have BE128 := hide (BE127.out.trans (hb.mono BE127.out.size))
                  clear hb
                  refine hK.out _ _ ?_
                  clear hK K hSd
                  try simp only [tilS, Act.put]
                  refine tilM 25 (Or.inl (by rfl)) ?_
                  refine tilM 26 (Or.inl (by rfl)) ?_
                  refine wpTil_done (by kernel_rfl) ?_ _
                  go_wp2_with fail
                  go_ret
                  exact ⟨rfl, HB.out.trans (BE128.out.mono HB.out.size)⟩
                exact AllTil.nil
              exact AllTil.nil
            exact AllTil.nil
          refine AllTil.cons rfl (fun K hK => ?_) ?_
          · skip
            rw [if_pos (by rfl)]
            go_simp
            obtain ⟨h23, hh23⟩ := letl w104.heap.size
            obtain ⟨w129, hw129⟩ := letr (w104.alloc (.cells #[.int .i64 8, .int .i64 7] 3))
            have BX23 := lBox hw129 hh23
            have hb := (show Below w104.heap.size w104 w129 from by rw [hw129]; exact alloc1 _ _)
            have BE129 := hide (BE104.out.trans (hb.mono BE104.out.size))
            rw [← hw129, hh23]
            clear hb hw129 hh23
            refine hK.out _ _ (HKS.out w129 BE129.out) ?_
            clear hK K
            try clear hSd
            have hSd := HKS.out w129 BE129.out
            try simp only [tilS, Act.put]
            refine wpTil_ready (rs := [20, 21]) (by kernel_rfl) (by simp) ?_
            refine AllTil.cons rfl (fun K hK => ?_) ?_
            · skip
              rw [if_pos (by rfl)]
              go_simp
              obtain ⟨h20, hh20⟩ := letl w129.heap.size
              obtain ⟨w130, hw130⟩ := letr (w129.alloc (.cells #[.int .i64 1, .int .i64 0, .int .i64 1, .int .i64 1] 24))
              have BX20 := lBox hw130 hh20
              have hb := (show Below w129.heap.size w129 w130 from by rw [hw130]; exact alloc1 _ _)
              have BE130 := hide (BE129.out.trans (hb.mono BE129.out.size))
              have BX23 := hide (BX23.out.below hb)
              rw [← hw130, hh20]
              clear hb hw130 hh20
              refine hK.out _ _ (HKS.out w130 BE130.out) ?_
              clear hK K
              try clear hSd
              have hSd := HKS.out w130 BE130.out
              try simp only [tilS, Act.put]
              refine wpTil_ready (rs := [21]) (by kernel_rfl) (by simp) ?_
              refine AllTil.cons rfl (fun K hK => ?_) ?_
              · skip
                rw [if_pos (by rfl)]
                go_simp
                obtain ⟨h21, hh21⟩ := letl w130.heap.size
                obtain ⟨w131, hw131⟩ := letr (w130.alloc (.cells #[.int .i64 7, .int .i64 8] 3))
                have BX21 := lBox hw131 hh21
                have hb := (show Below w130.heap.size w130 w131 from by rw [hw131]; exact alloc1 _ _)
                have BE131 := hide (BE130.out.trans (hb.mono BE130.out.size))
                have BX20 := hide (BX20.out.below hb)
                have BX23 := hide (BX23.out.below hb)
                rw [← hw131, hh21]
                clear hb hw131 hh21
                refine hK.out _ _ (HKS.out w131 BE131.out) ?_
                clear hK K
                try clear hSd
                have hSd := HKS.out w131 BE131.out
                try simp only [tilS, Act.put]
                refine wpTil_ready (rs := [22]) (by kernel_rfl) (by simp) ?_
                refine AllTil.cons rfl (fun K hK => ?_) ?_
                · skip
                  rw [if_pos (by rfl)]
                  go_simp
                  go_at_call 15
                  (with_reducible refine (HPL.out w131 _ (HMV.out.up BE131.out) h20 h21 BX20.out BX21.out).mono ?_)
                  rintro e w132 ⟨h22, rfl, hx, hb⟩
                  have BX22 := hide hx
                  have BE132 := hide (BE131.out.trans (hb.mono BE131.out.size))
                  have BX20 := hide (BX20.out.below hb)
                  have BX21 := hide (BX21.out.below hb)
                  have BX23 := hide (BX23.out.below hb)
                  clear hb hx
                  refine hK.out _ _ (HKS.out w132 BE132.out) ?_
                  clear hK K
                  try clear hSd
                  have hSd := HKS.out w132 BE132.out
                  try simp only [tilS, Act.put]
                  refine wpTil_ready (rs := [24]) (by kernel_rfl) (by simp) ?_
                  refine AllTil.last rfl (by rfl) (fun K hK => ?_)
                  rw [if_pos (by rfl)]
                  go_simp
                  go_at_call 14
                  (with_reducible refine (HIN.out w132 h22 h23 BX22.out BX23.out).mono ?_)
                  rintro e w133 ⟨rfl, hb⟩
                  have BE133 := hide (BE132.out.trans (hb.mono BE132.out.size))
                  clear hb
                  refine hK.out _ _ ?_
                  clear hK K hSd
                  try simp only [tilS, Act.put]
                  refine tilM 25 (Or.inl (by rfl)) ?_
                  refine tilM 26 (Or.inl (by rfl)) ?_
                  refine wpTil_done (by kernel_rfl) ?_ _
                  go_wp2_with fail
                  go_ret
                  exact ⟨rfl, HB.out.trans (BE133.out.mono HB.out.size)⟩
                exact AllTil.nil
              exact AllTil.nil
            refine AllTil.cons rfl (fun K hK => ?_) ?_
            · skip
              rw [if_pos (by rfl)]
              go_simp
              obtain ⟨h21, hh21⟩ := letl w129.heap.size
              obtain ⟨w134, hw134⟩ := letr (w129.alloc (.cells #[.int .i64 7, .int .i64 8] 3))
              have BX21 := lBox hw134 hh21
              have hb := (show Below w129.heap.size w129 w134 from by rw [hw134]; exact alloc1 _ _)
              have BE134 := hide (BE129.out.trans (hb.mono BE129.out.size))
              have BX23 := hide (BX23.out.below hb)
              rw [← hw134, hh21]
              clear hb hw134 hh21
              refine hK.out _ _ (HKS.out w134 BE134.out) ?_
              clear hK K
              try clear hSd
              have hSd := HKS.out w134 BE134.out
              try simp only [tilS, Act.put]
              refine wpTil_ready (rs := [20]) (by kernel_rfl) (by simp) ?_
              refine AllTil.cons rfl (fun K hK => ?_) ?_
              · skip
                rw [if_pos (by rfl)]
                go_simp
                obtain ⟨h20, hh20⟩ := letl w134.heap.size
                obtain ⟨w135, hw135⟩ := letr (w134.alloc (.cells #[.int .i64 1, .int .i64 0, .int .i64 1, .int .i64 1] 24))
                have BX20 := lBox hw135 hh20
                have hb := (show Below w134.heap.size w134 w135 from by rw [hw135]; exact alloc1 _ _)
                have BE135 := hide (BE134.out.trans (hb.mono BE134.out.size))
                have BX21 := hide (BX21.out.below hb)
                have BX23 := hide (BX23.out.below hb)
                rw [← hw135, hh20]
                clear hb hw135 hh20
                refine hK.out _ _ (HKS.out w135 BE135.out) ?_
                clear hK K
                try clear hSd
                have hSd := HKS.out w135 BE135.out
                try simp only [tilS, Act.put]
                refine wpTil_ready (rs := [22]) (by kernel_rfl) (by simp) ?_
                refine AllTil.cons rfl (fun K hK => ?_) ?_
                · skip
                  rw [if_pos (by rfl)]
                  go_simp
                  go_at_call 15
                  (with_reducible refine (HPL.out w135 _ (HMV.out.up BE135.out) h20 h21 BX20.out BX21.out).mono ?_)
                  rintro e w136 ⟨h22, rfl, hx, hb⟩
                  have BX22 := hide hx
                  have BE136 := hide (BE135.out.trans (hb.mono BE135.out.size))
                  have BX20 := hide (BX20.out.below hb)
                  have BX21 := hide (BX21.out.below hb)
                  have BX23 := hide (BX23.out.below hb)
                  clear hb hx
                  refine hK.out _ _ (HKS.out w136 BE136.out) ?_
                  clear hK K
                  try clear hSd
                  have hSd := HKS.out w136 BE136.out
                  try simp only [tilS, Act.put]
                  refine wpTil_ready (rs := [24]) (by kernel_rfl) (by simp) ?_
                  refine AllTil.last rfl (by rfl) (fun K hK => ?_)
                  rw [if_pos (by rfl)]
                  go_simp
                  go_at_call 14
                  (with_reducible refine (HIN.out w136 h22 h23 BX22.out BX23.out).mono ?_)
                  rintro e w137 ⟨rfl, hb⟩
                  have BE137 := hide (BE136.out.trans (hb.mono BE136.out.size))
                  clear hb
                  refine hK.out _ _ ?_
                  clear hK K hSd
                  try simp only [tilS, Act.put]
                  refine tilM 25 (Or.inl (by rfl)) ?_
                  refine tilM 26 (Or.inl (by rfl)) ?_
                  refine wpTil_done (by kernel_rfl) ?_ _
                  go_wp2_with fail
                  go_ret
                  exact ⟨rfl, HB.out.trans (BE137.out.mono HB.out.size)⟩
                exact AllTil.nil
              exact AllTil.nil
            exact AllTil.nil
          exact AllTil.nil
        refine AllTil.cons rfl (fun K hK => ?_) ?_
        · skip
          rw [if_pos (by rfl)]
          go_simp
          obtain ⟨h21, hh21⟩ := letl w103.heap.size
          obtain ⟨w138, hw138⟩ := letr (w103.alloc (.cells #[.int .i64 7, .int .i64 8] 3))
          have BX21 := lBox hw138 hh21
          have hb := (show Below w103.heap.size w103 w138 from by rw [hw138]; exact alloc1 _ _)
          have BE138 := hide (BE103.out.trans (hb.mono BE103.out.size))
          rw [← hw138, hh21]
          clear hb hw138 hh21
          refine hK.out _ _ (HKS.out w138 BE138.out) ?_
          clear hK K
          try clear hSd
          have hSd := HKS.out w138 BE138.out
          try simp only [tilS, Act.put]
          refine wpTil_ready (rs := [19, 23]) (by kernel_rfl) (by simp) ?_
          refine AllTil.cons rfl (fun K hK => ?_) ?_
          · skip
            rw [if_pos (by rfl)]
            go_simp
            go_at_call 19
            (with_reducible refine (ireg_any 1 w138).mono ?_)
            rintro e w139 ⟨rfl, hb⟩
            have BE139 := hide (BE138.out.trans (hb.mono BE138.out.size))
            have BX21 := hide (BX21.out.below hb)
            clear hb
            refine hK.out _ _ (HKS.out w139 BE139.out) ?_
            clear hK K
            try clear hSd
            have hSd := HKS.out w139 BE139.out
            try simp only [tilS, Act.put]
            refine wpTil_ready (rs := [20, 23]) (by kernel_rfl) (by simp) ?_
            refine AllTil.cons rfl (fun K hK => ?_) ?_
            · skip
              rw [if_pos (by rfl)]
              go_simp
              obtain ⟨h20, hh20⟩ := letl w139.heap.size
              obtain ⟨w140, hw140⟩ := letr (w139.alloc (.cells #[.int .i64 1, .int .i64 0, .int .i64 1, .int .i64 1] 24))
              have BX20 := lBox hw140 hh20
              have hb := (show Below w139.heap.size w139 w140 from by rw [hw140]; exact alloc1 _ _)
              have BE140 := hide (BE139.out.trans (hb.mono BE139.out.size))
              have BX21 := hide (BX21.out.below hb)
              rw [← hw140, hh20]
              clear hb hw140 hh20
              refine hK.out _ _ (HKS.out w140 BE140.out) ?_
              clear hK K
              try clear hSd
              have hSd := HKS.out w140 BE140.out
              try simp only [tilS, Act.put]
              refine wpTil_ready (rs := [22, 23]) (by kernel_rfl) (by simp) ?_
              refine AllTil.cons rfl (fun K hK => ?_) ?_
              · skip
                rw [if_pos (by rfl)]
                go_simp
                go_at_call 15
                (with_reducible refine (HPL.out w140 _ (HMV.out.up BE140.out) h20 h21 BX20.out BX21.out).mono ?_)
                rintro e w141 ⟨h22, rfl, hx, hb⟩
                have BX22 := hide hx
                have BE141 := hide (BE140.out.trans (hb.mono BE140.out.size))
                have BX20 := hide (BX20.out.below hb)
                have BX21 := hide (BX21.out.below hb)
                clear hb hx
                refine hK.out _ _ (HKS.out w141 BE141.out) ?_
                clear hK K
                try clear hSd
                have hSd := HKS.out w141 BE141.out
                try simp only [tilS, Act.put]
                refine wpTil_ready (rs := [23]) (by kernel_rfl) (by simp) ?_
                refine AllTil.cons rfl (fun K hK => ?_) ?_
                · skip
                  rw [if_pos (by rfl)]
                  go_simp
                  obtain ⟨h23, hh23⟩ := letl w141.heap.size
                  obtain ⟨w142, hw142⟩ := letr (w141.alloc (.cells #[.int .i64 8, .int .i64 7] 3))
                  have BX23 := lBox hw142 hh23
                  have hb := (show Below w141.heap.size w141 w142 from by rw [hw142]; exact alloc1 _ _)
                  have BE142 := hide (BE141.out.trans (hb.mono BE141.out.size))
                  have BX20 := hide (BX20.out.below hb)
                  have BX21 := hide (BX21.out.below hb)
                  have BX22 := hide (BX22.out.below hb)
                  rw [← hw142, hh23]
                  clear hb hw142 hh23
                  refine hK.out _ _ (HKS.out w142 BE142.out) ?_
                  clear hK K
                  try clear hSd
                  have hSd := HKS.out w142 BE142.out
                  try simp only [tilS, Act.put]
                  refine wpTil_ready (rs := [24]) (by kernel_rfl) (by simp) ?_
                  refine AllTil.last rfl (by rfl) (fun K hK => ?_)
                  rw [if_pos (by rfl)]
                  go_simp
                  go_at_call 14
                  (with_reducible refine (HIN.out w142 h22 h23 BX22.out BX23.out).mono ?_)
                  rintro e w143 ⟨rfl, hb⟩
                  have BE143 := hide (BE142.out.trans (hb.mono BE142.out.size))
                  clear hb
                  refine hK.out _ _ ?_
                  clear hK K hSd
                  try simp only [tilS, Act.put]
                  refine tilM 25 (Or.inl (by rfl)) ?_
                  refine tilM 26 (Or.inl (by rfl)) ?_
                  refine wpTil_done (by kernel_rfl) ?_ _
                  go_wp2_with fail
                  go_ret
                  exact ⟨rfl, HB.out.trans (BE143.out.mono HB.out.size)⟩
                exact AllTil.nil
              refine AllTil.cons rfl (fun K hK => ?_) ?_
              · skip
                rw [if_pos (by rfl)]
                go_simp
                obtain ⟨h23, hh23⟩ := letl w140.heap.size
                obtain ⟨w144, hw144⟩ := letr (w140.alloc (.cells #[.int .i64 8, .int .i64 7] 3))
                have BX23 := lBox hw144 hh23
                have hb := (show Below w140.heap.size w140 w144 from by rw [hw144]; exact alloc1 _ _)
                have BE144 := hide (BE140.out.trans (hb.mono BE140.out.size))
                have BX20 := hide (BX20.out.below hb)
                have BX21 := hide (BX21.out.below hb)
                rw [← hw144, hh23]
                clear hb hw144 hh23
                refine hK.out _ _ (HKS.out w144 BE144.out) ?_
                clear hK K
                try clear hSd
                have hSd := HKS.out w144 BE144.out
                try simp only [tilS, Act.put]
                refine wpTil_ready (rs := [22]) (by kernel_rfl) (by simp) ?_
                refine AllTil.cons rfl (fun K hK => ?_) ?_
                · skip
                  rw [if_pos (by rfl)]
                  go_simp
                  go_at_call 15
                  (with_reducible refine (HPL.out w144 _ (HMV.out.up BE144.out) h20 h21 BX20.out BX21.out).mono ?_)
                  rintro e w145 ⟨h22, rfl, hx, hb⟩
                  have BX22 := hide hx
                  have BE145 := hide (BE144.out.trans (hb.mono BE144.out.size))
                  have BX20 := hide (BX20.out.below hb)
                  have BX21 := hide (BX21.out.below hb)
                  have BX23 := hide (BX23.out.below hb)
                  clear hb hx
                  refine hK.out _ _ (HKS.out w145 BE145.out) ?_
                  clear hK K
                  try clear hSd
                  have hSd := HKS.out w145 BE145.out
                  try simp only [tilS, Act.put]
                  refine wpTil_ready (rs := [24]) (by kernel_rfl) (by simp) ?_
                  refine AllTil.last rfl (by rfl) (fun K hK => ?_)
                  rw [if_pos (by rfl)]
                  go_simp
                  go_at_call 14
                  (with_reducible refine (HIN.out w145 h22 h23 BX22.out BX23.out).mono ?_)
                  rintro e w146 ⟨rfl, hb⟩
                  have BE146 := hide (BE145.out.trans (hb.mono BE145.out.size))
                  clear hb
                  refine hK.out _ _ ?_
                  clear hK K hSd
                  try simp only [tilS, Act.put]
                  refine tilM 25 (Or.inl (by rfl)) ?_
                  refine tilM 26 (Or.inl (by rfl)) ?_
                  refine wpTil_done (by kernel_rfl) ?_ _
                  go_wp2_with fail
                  go_ret
                  exact ⟨rfl, HB.out.trans (BE146.out.mono HB.out.size)⟩
                exact AllTil.nil
              exact AllTil.nil
            refine AllTil.cons rfl (fun K hK => ?_) ?_
            · skip
              rw [if_pos (by rfl)]
              go_simp
              obtain ⟨h23, hh23⟩ := letl w139.heap.size
              obtain ⟨w147, hw147⟩ := letr (w139.alloc (.cells #[.int .i64 8, .int .i64 7] 3))
              have BX23 := lBox hw147 hh23
              have hb := (show Below w139.heap.size w139 w147 from by rw [hw147]; exact alloc1 _ _)
              have BE147 := hide (BE139.out.trans (hb.mono BE139.out.size))
              have BX21 := hide (BX21.out.below hb)
              rw [← hw147, hh23]
              clear hb hw147 hh23
              refine hK.out _ _ (HKS.out w147 BE147.out) ?_
              clear hK K
              try clear hSd
              have hSd := HKS.out w147 BE147.out
              try simp only [tilS, Act.put]
              refine wpTil_ready (rs := [20]) (by kernel_rfl) (by simp) ?_
              refine AllTil.cons rfl (fun K hK => ?_) ?_
              · skip
                rw [if_pos (by rfl)]
                go_simp
                obtain ⟨h20, hh20⟩ := letl w147.heap.size
                obtain ⟨w148, hw148⟩ := letr (w147.alloc (.cells #[.int .i64 1, .int .i64 0, .int .i64 1, .int .i64 1] 24))
                have BX20 := lBox hw148 hh20
                have hb := (show Below w147.heap.size w147 w148 from by rw [hw148]; exact alloc1 _ _)
                have BE148 := hide (BE147.out.trans (hb.mono BE147.out.size))
                have BX21 := hide (BX21.out.below hb)
                have BX23 := hide (BX23.out.below hb)
                rw [← hw148, hh20]
                clear hb hw148 hh20
                refine hK.out _ _ (HKS.out w148 BE148.out) ?_
                clear hK K
                try clear hSd
                have hSd := HKS.out w148 BE148.out
                try simp only [tilS, Act.put]
                refine wpTil_ready (rs := [22]) (by kernel_rfl) (by simp) ?_
                refine AllTil.cons rfl (fun K hK => ?_) ?_
                · skip
                  rw [if_pos (by rfl)]
                  go_simp
                  go_at_call 15
                  (with_reducible refine (HPL.out w148 _ (HMV.out.up BE148.out) h20 h21 BX20.out BX21.out).mono ?_)
                  rintro e w149 ⟨h22, rfl, hx, hb⟩
                  have BX22 := hide hx
                  have BE149 := hide (BE148.out.trans (hb.mono BE148.out.size))
                  have BX20 := hide (BX20.out.below hb)
                  have BX21 := hide (BX21.out.below hb)
                  have BX23 := hide (BX23.out.below hb)
                  clear hb hx
                  refine hK.out _ _ (HKS.out w149 BE149.out) ?_
                  clear hK K
                  try clear hSd
                  have hSd := HKS.out w149 BE149.out
                  try simp only [tilS, Act.put]
                  refine wpTil_ready (rs := [24]) (by kernel_rfl) (by simp) ?_
                  refine AllTil.last rfl (by rfl) (fun K hK => ?_)
                  rw [if_pos (by rfl)]
                  go_simp
                  go_at_call 14
                  (with_reducible refine (HIN.out w149 h22 h23 BX22.out BX23.out).mono ?_)
                  rintro e w150 ⟨rfl, hb⟩
                  have BE150 := hide (BE149.out.trans (hb.mono BE149.out.size))
                  clear hb
                  refine hK.out _ _ ?_
                  clear hK K hSd
                  try simp only [tilS, Act.put]
                  refine tilM 25 (Or.inl (by rfl)) ?_
                  refine tilM 26 (Or.inl (by rfl)) ?_
                  refine wpTil_done (by kernel_rfl) ?_ _
                  go_wp2_with fail
                  go_ret
                  exact ⟨rfl, HB.out.trans (BE150.out.mono HB.out.size)⟩
                exact AllTil.nil
              exact AllTil.nil
            exact AllTil.nil
          refine AllTil.cons rfl (fun K hK => ?_) ?_
          · skip
            rw [if_pos (by rfl)]
            go_simp
            obtain ⟨h23, hh23⟩ := letl w138.heap.size
            obtain ⟨w151, hw151⟩ := letr (w138.alloc (.cells #[.int .i64 8, .int .i64 7] 3))
            have BX23 := lBox hw151 hh23
            have hb := (show Below w138.heap.size w138 w151 from by rw [hw151]; exact alloc1 _ _)
            have BE151 := hide (BE138.out.trans (hb.mono BE138.out.size))
            have BX21 := hide (BX21.out.below hb)
            rw [← hw151, hh23]
            clear hb hw151 hh23
            refine hK.out _ _ (HKS.out w151 BE151.out) ?_
            clear hK K
            try clear hSd
            have hSd := HKS.out w151 BE151.out
            try simp only [tilS, Act.put]
            refine wpTil_ready (rs := [19]) (by kernel_rfl) (by simp) ?_
            refine AllTil.cons rfl (fun K hK => ?_) ?_
            · skip
              rw [if_pos (by rfl)]
              go_simp
              go_at_call 19
              (with_reducible refine (ireg_any 1 w151).mono ?_)
              rintro e w152 ⟨rfl, hb⟩
              have BE152 := hide (BE151.out.trans (hb.mono BE151.out.size))
              have BX21 := hide (BX21.out.below hb)
              have BX23 := hide (BX23.out.below hb)
              clear hb
              refine hK.out _ _ (HKS.out w152 BE152.out) ?_
              clear hK K
              try clear hSd
              have hSd := HKS.out w152 BE152.out
              try simp only [tilS, Act.put]
              refine wpTil_ready (rs := [20]) (by kernel_rfl) (by simp) ?_
              refine AllTil.cons rfl (fun K hK => ?_) ?_
              · skip
                rw [if_pos (by rfl)]
                go_simp
                obtain ⟨h20, hh20⟩ := letl w152.heap.size
                obtain ⟨w153, hw153⟩ := letr (w152.alloc (.cells #[.int .i64 1, .int .i64 0, .int .i64 1, .int .i64 1] 24))
                have BX20 := lBox hw153 hh20
                have hb := (show Below w152.heap.size w152 w153 from by rw [hw153]; exact alloc1 _ _)
                have BE153 := hide (BE152.out.trans (hb.mono BE152.out.size))
                have BX21 := hide (BX21.out.below hb)
                have BX23 := hide (BX23.out.below hb)
                rw [← hw153, hh20]
                clear hb hw153 hh20
                refine hK.out _ _ (HKS.out w153 BE153.out) ?_
                clear hK K
                try clear hSd
                have hSd := HKS.out w153 BE153.out
                try simp only [tilS, Act.put]
                refine wpTil_ready (rs := [22]) (by kernel_rfl) (by simp) ?_
                refine AllTil.cons rfl (fun K hK => ?_) ?_
                · skip
                  rw [if_pos (by rfl)]
                  go_simp
                  go_at_call 15
                  (with_reducible refine (HPL.out w153 _ (HMV.out.up BE153.out) h20 h21 BX20.out BX21.out).mono ?_)
                  rintro e w154 ⟨h22, rfl, hx, hb⟩
                  have BX22 := hide hx
                  have BE154 := hide (BE153.out.trans (hb.mono BE153.out.size))
                  have BX20 := hide (BX20.out.below hb)
                  have BX21 := hide (BX21.out.below hb)
                  have BX23 := hide (BX23.out.below hb)
                  clear hb hx
                  refine hK.out _ _ (HKS.out w154 BE154.out) ?_
                  clear hK K
                  try clear hSd
                  have hSd := HKS.out w154 BE154.out
                  try simp only [tilS, Act.put]
                  refine wpTil_ready (rs := [24]) (by kernel_rfl) (by simp) ?_
                  refine AllTil.last rfl (by rfl) (fun K hK => ?_)
                  rw [if_pos (by rfl)]
                  go_simp
                  go_at_call 14
                  (with_reducible refine (HIN.out w154 h22 h23 BX22.out BX23.out).mono ?_)
                  rintro e w155 ⟨rfl, hb⟩
                  have BE155 := hide (BE154.out.trans (hb.mono BE154.out.size))
                  clear hb
                  refine hK.out _ _ ?_
                  clear hK K hSd
                  try simp only [tilS, Act.put]
                  refine tilM 25 (Or.inl (by rfl)) ?_
                  refine tilM 26 (Or.inl (by rfl)) ?_
                  refine wpTil_done (by kernel_rfl) ?_ _
                  go_wp2_with fail
                  go_ret
                  exact ⟨rfl, HB.out.trans (BE155.out.mono HB.out.size)⟩
                exact AllTil.nil
              exact AllTil.nil
            exact AllTil.nil
          exact AllTil.nil
        refine AllTil.cons rfl (fun K hK => ?_) ?_
        · skip
          rw [if_pos (by rfl)]
          go_simp
          obtain ⟨h23, hh23⟩ := letl w103.heap.size
          obtain ⟨w156, hw156⟩ := letr (w103.alloc (.cells #[.int .i64 8, .int .i64 7] 3))
          have BX23 := lBox hw156 hh23
          have hb := (show Below w103.heap.size w103 w156 from by rw [hw156]; exact alloc1 _ _)
          have BE156 := hide (BE103.out.trans (hb.mono BE103.out.size))
          rw [← hw156, hh23]
          clear hb hw156 hh23
          refine hK.out _ _ (HKS.out w156 BE156.out) ?_
          clear hK K
          try clear hSd
          have hSd := HKS.out w156 BE156.out
          try simp only [tilS, Act.put]
          refine wpTil_ready (rs := [19, 21]) (by kernel_rfl) (by simp) ?_
          refine AllTil.cons rfl (fun K hK => ?_) ?_
          · skip
            rw [if_pos (by rfl)]
            go_simp
            go_at_call 19
            (with_reducible refine (ireg_any 1 w156).mono ?_)
            rintro e w157 ⟨rfl, hb⟩
            have BE157 := hide (BE156.out.trans (hb.mono BE156.out.size))
            have BX23 := hide (BX23.out.below hb)
            clear hb
            refine hK.out _ _ (HKS.out w157 BE157.out) ?_
            clear hK K
            try clear hSd
            have hSd := HKS.out w157 BE157.out
            try simp only [tilS, Act.put]
            refine wpTil_ready (rs := [20, 21]) (by kernel_rfl) (by simp) ?_
            refine AllTil.cons rfl (fun K hK => ?_) ?_
            · skip
              rw [if_pos (by rfl)]
              go_simp
              obtain ⟨h20, hh20⟩ := letl w157.heap.size
              obtain ⟨w158, hw158⟩ := letr (w157.alloc (.cells #[.int .i64 1, .int .i64 0, .int .i64 1, .int .i64 1] 24))
              have BX20 := lBox hw158 hh20
              have hb := (show Below w157.heap.size w157 w158 from by rw [hw158]; exact alloc1 _ _)
              have BE158 := hide (BE157.out.trans (hb.mono BE157.out.size))
              have BX23 := hide (BX23.out.below hb)
              rw [← hw158, hh20]
              clear hb hw158 hh20
              refine hK.out _ _ (HKS.out w158 BE158.out) ?_
              clear hK K
              try clear hSd
              have hSd := HKS.out w158 BE158.out
              try simp only [tilS, Act.put]
              refine wpTil_ready (rs := [21]) (by kernel_rfl) (by simp) ?_
              refine AllTil.cons rfl (fun K hK => ?_) ?_
              · skip
                rw [if_pos (by rfl)]
                go_simp
                obtain ⟨h21, hh21⟩ := letl w158.heap.size
                obtain ⟨w159, hw159⟩ := letr (w158.alloc (.cells #[.int .i64 7, .int .i64 8] 3))
                have BX21 := lBox hw159 hh21
                have hb := (show Below w158.heap.size w158 w159 from by rw [hw159]; exact alloc1 _ _)
                have BE159 := hide (BE158.out.trans (hb.mono BE158.out.size))
                have BX20 := hide (BX20.out.below hb)
                have BX23 := hide (BX23.out.below hb)
                rw [← hw159, hh21]
                clear hb hw159 hh21
                refine hK.out _ _ (HKS.out w159 BE159.out) ?_
                clear hK K
                try clear hSd
                have hSd := HKS.out w159 BE159.out
                try simp only [tilS, Act.put]
                refine wpTil_ready (rs := [22]) (by kernel_rfl) (by simp) ?_
                refine AllTil.cons rfl (fun K hK => ?_) ?_
                · skip
                  rw [if_pos (by rfl)]
                  go_simp
                  go_at_call 15
                  (with_reducible refine (HPL.out w159 _ (HMV.out.up BE159.out) h20 h21 BX20.out BX21.out).mono ?_)
                  rintro e w160 ⟨h22, rfl, hx, hb⟩
                  have BX22 := hide hx
                  have BE160 := hide (BE159.out.trans (hb.mono BE159.out.size))
                  have BX20 := hide (BX20.out.below hb)
                  have BX21 := hide (BX21.out.below hb)
                  have BX23 := hide (BX23.out.below hb)
                  clear hb hx
                  refine hK.out _ _ (HKS.out w160 BE160.out) ?_
                  clear hK K
                  try clear hSd
                  have hSd := HKS.out w160 BE160.out
                  try simp only [tilS, Act.put]
                  refine wpTil_ready (rs := [24]) (by kernel_rfl) (by simp) ?_
                  refine AllTil.last rfl (by rfl) (fun K hK => ?_)
                  rw [if_pos (by rfl)]
                  go_simp
                  go_at_call 14
                  (with_reducible refine (HIN.out w160 h22 h23 BX22.out BX23.out).mono ?_)
                  rintro e w161 ⟨rfl, hb⟩
                  have BE161 := hide (BE160.out.trans (hb.mono BE160.out.size))
                  clear hb
                  refine hK.out _ _ ?_
                  clear hK K hSd
                  try simp only [tilS, Act.put]
                  refine tilM 25 (Or.inl (by rfl)) ?_
                  refine tilM 26 (Or.inl (by rfl)) ?_
                  refine wpTil_done (by kernel_rfl) ?_ _
                  go_wp2_with fail
                  go_ret
                  exact ⟨rfl, HB.out.trans (BE161.out.mono HB.out.size)⟩
                exact AllTil.nil
              exact AllTil.nil
            refine AllTil.cons rfl (fun K hK => ?_) ?_
            · skip
              rw [if_pos (by rfl)]
              go_simp
              obtain ⟨h21, hh21⟩ := letl w157.heap.size
              obtain ⟨w162, hw162⟩ := letr (w157.alloc (.cells #[.int .i64 7, .int .i64 8] 3))
              have BX21 := lBox hw162 hh21
              have hb := (show Below w157.heap.size w157 w162 from by rw [hw162]; exact alloc1 _ _)
              have BE162 := hide (BE157.out.trans (hb.mono BE157.out.size))
              have BX23 := hide (BX23.out.below hb)
              rw [← hw162, hh21]
              clear hb hw162 hh21
              refine hK.out _ _ (HKS.out w162 BE162.out) ?_
              clear hK K
              try clear hSd
              have hSd := HKS.out w162 BE162.out
              try simp only [tilS, Act.put]
              refine wpTil_ready (rs := [20]) (by kernel_rfl) (by simp) ?_
              refine AllTil.cons rfl (fun K hK => ?_) ?_
              · skip
                rw [if_pos (by rfl)]
                go_simp
                obtain ⟨h20, hh20⟩ := letl w162.heap.size
                obtain ⟨w163, hw163⟩ := letr (w162.alloc (.cells #[.int .i64 1, .int .i64 0, .int .i64 1, .int .i64 1] 24))
                have BX20 := lBox hw163 hh20
                have hb := (show Below w162.heap.size w162 w163 from by rw [hw163]; exact alloc1 _ _)
                have BE163 := hide (BE162.out.trans (hb.mono BE162.out.size))
                have BX21 := hide (BX21.out.below hb)
                have BX23 := hide (BX23.out.below hb)
                rw [← hw163, hh20]
                clear hb hw163 hh20
                refine hK.out _ _ (HKS.out w163 BE163.out) ?_
                clear hK K
                try clear hSd
                have hSd := HKS.out w163 BE163.out
                try simp only [tilS, Act.put]
                refine wpTil_ready (rs := [22]) (by kernel_rfl) (by simp) ?_
                refine AllTil.cons rfl (fun K hK => ?_) ?_
                · skip
                  rw [if_pos (by rfl)]
                  go_simp
                  go_at_call 15
                  (with_reducible refine (HPL.out w163 _ (HMV.out.up BE163.out) h20 h21 BX20.out BX21.out).mono ?_)
                  rintro e w164 ⟨h22, rfl, hx, hb⟩
                  have BX22 := hide hx
                  have BE164 := hide (BE163.out.trans (hb.mono BE163.out.size))
                  have BX20 := hide (BX20.out.below hb)
                  have BX21 := hide (BX21.out.below hb)
                  have BX23 := hide (BX23.out.below hb)
                  clear hb hx
                  refine hK.out _ _ (HKS.out w164 BE164.out) ?_
                  clear hK K
                  try clear hSd
                  have hSd := HKS.out w164 BE164.out
                  try simp only [tilS, Act.put]
                  refine wpTil_ready (rs := [24]) (by kernel_rfl) (by simp) ?_
                  refine AllTil.last rfl (by rfl) (fun K hK => ?_)
                  rw [if_pos (by rfl)]
                  go_simp
                  go_at_call 14
                  (with_reducible refine (HIN.out w164 h22 h23 BX22.out BX23.out).mono ?_)
                  rintro e w165 ⟨rfl, hb⟩
                  have BE165 := hide (BE164.out.trans (hb.mono BE164.out.size))
                  clear hb
                  refine hK.out _ _ ?_
                  clear hK K hSd
                  try simp only [tilS, Act.put]
                  refine tilM 25 (Or.inl (by rfl)) ?_
                  refine tilM 26 (Or.inl (by rfl)) ?_
                  refine wpTil_done (by kernel_rfl) ?_ _
                  go_wp2_with fail
                  go_ret
                  exact ⟨rfl, HB.out.trans (BE165.out.mono HB.out.size)⟩
                exact AllTil.nil
              exact AllTil.nil
            exact AllTil.nil
          refine AllTil.cons rfl (fun K hK => ?_) ?_
          · skip
            rw [if_pos (by rfl)]
            go_simp
            obtain ⟨h21, hh21⟩ := letl w156.heap.size
            obtain ⟨w166, hw166⟩ := letr (w156.alloc (.cells #[.int .i64 7, .int .i64 8] 3))
            have BX21 := lBox hw166 hh21
            have hb := (show Below w156.heap.size w156 w166 from by rw [hw166]; exact alloc1 _ _)
            have BE166 := hide (BE156.out.trans (hb.mono BE156.out.size))
            have BX23 := hide (BX23.out.below hb)
            rw [← hw166, hh21]
            clear hb hw166 hh21
            refine hK.out _ _ (HKS.out w166 BE166.out) ?_
            clear hK K
            try clear hSd
            have hSd := HKS.out w166 BE166.out
            try simp only [tilS, Act.put]
            refine wpTil_ready (rs := [19]) (by kernel_rfl) (by simp) ?_
            refine AllTil.cons rfl (fun K hK => ?_) ?_
            · skip
              rw [if_pos (by rfl)]
              go_simp
              go_at_call 19
              (with_reducible refine (ireg_any 1 w166).mono ?_)
              rintro e w167 ⟨rfl, hb⟩
              have BE167 := hide (BE166.out.trans (hb.mono BE166.out.size))
              have BX21 := hide (BX21.out.below hb)
              have BX23 := hide (BX23.out.below hb)
              clear hb
              refine hK.out _ _ (HKS.out w167 BE167.out) ?_
              clear hK K
              try clear hSd
              have hSd := HKS.out w167 BE167.out
              try simp only [tilS, Act.put]
              refine wpTil_ready (rs := [20]) (by kernel_rfl) (by simp) ?_
              refine AllTil.cons rfl (fun K hK => ?_) ?_
              · skip
                rw [if_pos (by rfl)]
                go_simp
                obtain ⟨h20, hh20⟩ := letl w167.heap.size
                obtain ⟨w168, hw168⟩ := letr (w167.alloc (.cells #[.int .i64 1, .int .i64 0, .int .i64 1, .int .i64 1] 24))
                have BX20 := lBox hw168 hh20
                have hb := (show Below w167.heap.size w167 w168 from by rw [hw168]; exact alloc1 _ _)
                have BE168 := hide (BE167.out.trans (hb.mono BE167.out.size))
                have BX21 := hide (BX21.out.below hb)
                have BX23 := hide (BX23.out.below hb)
                rw [← hw168, hh20]
                clear hb hw168 hh20
                refine hK.out _ _ (HKS.out w168 BE168.out) ?_
                clear hK K
                try clear hSd
                have hSd := HKS.out w168 BE168.out
                try simp only [tilS, Act.put]
                refine wpTil_ready (rs := [22]) (by kernel_rfl) (by simp) ?_
                refine AllTil.cons rfl (fun K hK => ?_) ?_
                · skip
                  rw [if_pos (by rfl)]
                  go_simp
                  go_at_call 15
                  (with_reducible refine (HPL.out w168 _ (HMV.out.up BE168.out) h20 h21 BX20.out BX21.out).mono ?_)
                  rintro e w169 ⟨h22, rfl, hx, hb⟩
                  have BX22 := hide hx
                  have BE169 := hide (BE168.out.trans (hb.mono BE168.out.size))
                  have BX20 := hide (BX20.out.below hb)
                  have BX21 := hide (BX21.out.below hb)
                  have BX23 := hide (BX23.out.below hb)
                  clear hb hx
                  refine hK.out _ _ (HKS.out w169 BE169.out) ?_
                  clear hK K
                  try clear hSd
                  have hSd := HKS.out w169 BE169.out
                  try simp only [tilS, Act.put]
                  refine wpTil_ready (rs := [24]) (by kernel_rfl) (by simp) ?_
                  refine AllTil.last rfl (by rfl) (fun K hK => ?_)
                  rw [if_pos (by rfl)]
                  go_simp
                  go_at_call 14
                  (with_reducible refine (HIN.out w169 h22 h23 BX22.out BX23.out).mono ?_)
                  rintro e w170 ⟨rfl, hb⟩
                  have BE170 := hide (BE169.out.trans (hb.mono BE169.out.size))
                  clear hb
                  refine hK.out _ _ ?_
                  clear hK K hSd
                  try simp only [tilS, Act.put]
                  refine tilM 25 (Or.inl (by rfl)) ?_
                  refine tilM 26 (Or.inl (by rfl)) ?_
                  refine wpTil_done (by kernel_rfl) ?_ _
                  go_wp2_with fail
                  go_ret
                  exact ⟨rfl, HB.out.trans (BE170.out.mono HB.out.size)⟩
                exact AllTil.nil
              exact AllTil.nil
            exact AllTil.nil
          exact AllTil.nil
        exact AllTil.nil
      refine AllTil.cons rfl (fun K hK => ?_) ?_
      · skip
        rw [if_pos (by rfl)]
        go_simp
        obtain ⟨h21, hh21⟩ := letl w102.heap.size
        obtain ⟨w171, hw171⟩ := letr (w102.alloc (.cells #[.int .i64 7, .int .i64 8] 3))
        have BX21 := lBox hw171 hh21
        have hb := (show Below w102.heap.size w102 w171 from by rw [hw171]; exact alloc1 _ _)
        have BE171 := hide (BE102.out.trans (hb.mono BE102.out.size))
        rw [← hw171, hh21]
        clear hb hw171 hh21
        refine hK.out _ _ (HKS.out w171 BE171.out) ?_
        clear hK K
        try clear hSd
        have hSd := HKS.out w171 BE171.out
        try simp only [tilS, Act.put]
        refine wpTil_ready (rs := [18, 23]) (by kernel_rfl) (by simp) ?_
        refine AllTil.cons rfl (fun K hK => ?_) ?_
        · skip
          rw [if_pos (by rfl)]
          go_simp
          go_at_call 19
          (with_reducible refine (ireg_any 0 w171).mono ?_)
          rintro e w172 ⟨rfl, hb⟩
          have BE172 := hide (BE171.out.trans (hb.mono BE171.out.size))
          have BX21 := hide (BX21.out.below hb)
          clear hb
          refine hK.out _ _ (HKS.out w172 BE172.out) ?_
          clear hK K
          try clear hSd
          have hSd := HKS.out w172 BE172.out
          try simp only [tilS, Act.put]
          refine wpTil_ready (rs := [19, 23]) (by kernel_rfl) (by simp) ?_
          refine AllTil.cons rfl (fun K hK => ?_) ?_
          · skip
            rw [if_pos (by rfl)]
            go_simp
            go_at_call 19
            (with_reducible refine (ireg_any 1 w172).mono ?_)
            rintro e w173 ⟨rfl, hb⟩
            have BE173 := hide (BE172.out.trans (hb.mono BE172.out.size))
            have BX21 := hide (BX21.out.below hb)
            clear hb
            refine hK.out _ _ (HKS.out w173 BE173.out) ?_
            clear hK K
            try clear hSd
            have hSd := HKS.out w173 BE173.out
            try simp only [tilS, Act.put]
            refine wpTil_ready (rs := [20, 23]) (by kernel_rfl) (by simp) ?_
            refine AllTil.cons rfl (fun K hK => ?_) ?_
            · skip
              rw [if_pos (by rfl)]
              go_simp
              obtain ⟨h20, hh20⟩ := letl w173.heap.size
              obtain ⟨w174, hw174⟩ := letr (w173.alloc (.cells #[.int .i64 1, .int .i64 0, .int .i64 1, .int .i64 1] 24))
              have BX20 := lBox hw174 hh20
              have hb := (show Below w173.heap.size w173 w174 from by rw [hw174]; exact alloc1 _ _)
              have BE174 := hide (BE173.out.trans (hb.mono BE173.out.size))
              have BX21 := hide (BX21.out.below hb)
              rw [← hw174, hh20]
              clear hb hw174 hh20
              refine hK.out _ _ (HKS.out w174 BE174.out) ?_
              clear hK K
              try clear hSd
              have hSd := HKS.out w174 BE174.out
              try simp only [tilS, Act.put]
              refine wpTil_ready (rs := [22, 23]) (by kernel_rfl) (by simp) ?_
              refine AllTil.cons rfl (fun K hK => ?_) ?_
              · skip
                rw [if_pos (by rfl)]
                go_simp
                go_at_call 15
                (with_reducible refine (HPL.out w174 _ (HMV.out.up BE174.out) h20 h21 BX20.out BX21.out).mono ?_)
                rintro e w175 ⟨h22, rfl, hx, hb⟩
                have BX22 := hide hx
                have BE175 := hide (BE174.out.trans (hb.mono BE174.out.size))
                have BX20 := hide (BX20.out.below hb)
                have BX21 := hide (BX21.out.below hb)
                clear hb hx
                refine hK.out _ _ (HKS.out w175 BE175.out) ?_
                clear hK K
                try clear hSd
                have hSd := HKS.out w175 BE175.out
                try simp only [tilS, Act.put]
                refine wpTil_ready (rs := [23]) (by kernel_rfl) (by simp) ?_
                refine AllTil.cons rfl (fun K hK => ?_) ?_
                · skip
                  rw [if_pos (by rfl)]
                  go_simp
                  obtain ⟨h23, hh23⟩ := letl w175.heap.size
                  obtain ⟨w176, hw176⟩ := letr (w175.alloc (.cells #[.int .i64 8, .int .i64 7] 3))
                  have BX23 := lBox hw176 hh23
                  have hb := (show Below w175.heap.size w175 w176 from by rw [hw176]; exact alloc1 _ _)
                  have BE176 := hide (BE175.out.trans (hb.mono BE175.out.size))
                  have BX20 := hide (BX20.out.below hb)
                  have BX21 := hide (BX21.out.below hb)
                  have BX22 := hide (BX22.out.below hb)
                  rw [← hw176, hh23]
                  clear hb hw176 hh23
                  refine hK.out _ _ (HKS.out w176 BE176.out) ?_
                  clear hK K
                  try clear hSd
                  have hSd := HKS.out w176 BE176.out
                  try simp only [tilS, Act.put]
                  refine wpTil_ready (rs := [24]) (by kernel_rfl) (by simp) ?_
                  refine AllTil.last rfl (by rfl) (fun K hK => ?_)
                  rw [if_pos (by rfl)]
                  go_simp
                  go_at_call 14
                  (with_reducible refine (HIN.out w176 h22 h23 BX22.out BX23.out).mono ?_)
                  rintro e w177 ⟨rfl, hb⟩
                  have BE177 := hide (BE176.out.trans (hb.mono BE176.out.size))
                  clear hb
                  refine hK.out _ _ ?_
                  clear hK K hSd
                  try simp only [tilS, Act.put]
                  refine tilM 25 (Or.inl (by rfl)) ?_
                  refine tilM 26 (Or.inl (by rfl)) ?_
                  refine wpTil_done (by kernel_rfl) ?_ _
                  go_wp2_with fail
                  go_ret
                  exact ⟨rfl, HB.out.trans (BE177.out.mono HB.out.size)⟩
                exact AllTil.nil
              refine AllTil.cons rfl (fun K hK => ?_) ?_
              · skip
                rw [if_pos (by rfl)]
                go_simp
                obtain ⟨h23, hh23⟩ := letl w174.heap.size
                obtain ⟨w178, hw178⟩ := letr (w174.alloc (.cells #[.int .i64 8, .int .i64 7] 3))
                have BX23 := lBox hw178 hh23
                have hb := (show Below w174.heap.size w174 w178 from by rw [hw178]; exact alloc1 _ _)
                have BE178 := hide (BE174.out.trans (hb.mono BE174.out.size))
                have BX20 := hide (BX20.out.below hb)
                have BX21 := hide (BX21.out.below hb)
                rw [← hw178, hh23]
                clear hb hw178 hh23
                refine hK.out _ _ (HKS.out w178 BE178.out) ?_
                clear hK K
                try clear hSd
                have hSd := HKS.out w178 BE178.out
                try simp only [tilS, Act.put]
                refine wpTil_ready (rs := [22]) (by kernel_rfl) (by simp) ?_
                refine AllTil.cons rfl (fun K hK => ?_) ?_
                · skip
                  rw [if_pos (by rfl)]
                  go_simp
                  go_at_call 15
                  (with_reducible refine (HPL.out w178 _ (HMV.out.up BE178.out) h20 h21 BX20.out BX21.out).mono ?_)
                  rintro e w179 ⟨h22, rfl, hx, hb⟩
                  have BX22 := hide hx
                  have BE179 := hide (BE178.out.trans (hb.mono BE178.out.size))
                  have BX20 := hide (BX20.out.below hb)
                  have BX21 := hide (BX21.out.below hb)
                  have BX23 := hide (BX23.out.below hb)
                  clear hb hx
                  refine hK.out _ _ (HKS.out w179 BE179.out) ?_
                  clear hK K
                  try clear hSd
                  have hSd := HKS.out w179 BE179.out
                  try simp only [tilS, Act.put]
                  refine wpTil_ready (rs := [24]) (by kernel_rfl) (by simp) ?_
                  refine AllTil.last rfl (by rfl) (fun K hK => ?_)
                  rw [if_pos (by rfl)]
                  go_simp
                  go_at_call 14
                  (with_reducible refine (HIN.out w179 h22 h23 BX22.out BX23.out).mono ?_)
                  rintro e w180 ⟨rfl, hb⟩
                  have BE180 := hide (BE179.out.trans (hb.mono BE179.out.size))
                  clear hb
                  refine hK.out _ _ ?_
                  clear hK K hSd
                  try simp only [tilS, Act.put]
                  refine tilM 25 (Or.inl (by rfl)) ?_
                  refine tilM 26 (Or.inl (by rfl)) ?_
                  refine wpTil_done (by kernel_rfl) ?_ _
                  go_wp2_with fail
                  go_ret
                  exact ⟨rfl, HB.out.trans (BE180.out.mono HB.out.size)⟩
                exact AllTil.nil
              exact AllTil.nil
            refine AllTil.cons rfl (fun K hK => ?_) ?_
            · skip
              rw [if_pos (by rfl)]
              go_simp
              obtain ⟨h23, hh23⟩ := letl w173.heap.size
              obtain ⟨w181, hw181⟩ := letr (w173.alloc (.cells #[.int .i64 8, .int .i64 7] 3))
              have BX23 := lBox hw181 hh23
              have hb := (show Below w173.heap.size w173 w181 from by rw [hw181]; exact alloc1 _ _)
              have BE181 := hide (BE173.out.trans (hb.mono BE173.out.size))
              have BX21 := hide (BX21.out.below hb)
              rw [← hw181, hh23]
              clear hb hw181 hh23
              refine hK.out _ _ (HKS.out w181 BE181.out) ?_
              clear hK K
              try clear hSd
              have hSd := HKS.out w181 BE181.out
              try simp only [tilS, Act.put]
              refine wpTil_ready (rs := [20]) (by kernel_rfl) (by simp) ?_
              refine AllTil.cons rfl (fun K hK => ?_) ?_
              · skip
                rw [if_pos (by rfl)]
                go_simp
                obtain ⟨h20, hh20⟩ := letl w181.heap.size
                obtain ⟨w182, hw182⟩ := letr (w181.alloc (.cells #[.int .i64 1, .int .i64 0, .int .i64 1, .int .i64 1] 24))
                have BX20 := lBox hw182 hh20
                have hb := (show Below w181.heap.size w181 w182 from by rw [hw182]; exact alloc1 _ _)
                have BE182 := hide (BE181.out.trans (hb.mono BE181.out.size))
                have BX21 := hide (BX21.out.below hb)
                have BX23 := hide (BX23.out.below hb)
                rw [← hw182, hh20]
                clear hb hw182 hh20
                refine hK.out _ _ (HKS.out w182 BE182.out) ?_
                clear hK K
                try clear hSd
                have hSd := HKS.out w182 BE182.out
                try simp only [tilS, Act.put]
                refine wpTil_ready (rs := [22]) (by kernel_rfl) (by simp) ?_
                refine AllTil.cons rfl (fun K hK => ?_) ?_
                · skip
                  rw [if_pos (by rfl)]
                  go_simp
                  go_at_call 15
                  (with_reducible refine (HPL.out w182 _ (HMV.out.up BE182.out) h20 h21 BX20.out BX21.out).mono ?_)
                  rintro e w183 ⟨h22, rfl, hx, hb⟩
                  have BX22 := hide hx
                  have BE183 := hide (BE182.out.trans (hb.mono BE182.out.size))
                  have BX20 := hide (BX20.out.below hb)
                  have BX21 := hide (BX21.out.below hb)
                  have BX23 := hide (BX23.out.below hb)
                  clear hb hx
                  refine hK.out _ _ (HKS.out w183 BE183.out) ?_
                  clear hK K
                  try clear hSd
                  have hSd := HKS.out w183 BE183.out
                  try simp only [tilS, Act.put]
                  refine wpTil_ready (rs := [24]) (by kernel_rfl) (by simp) ?_
                  refine AllTil.last rfl (by rfl) (fun K hK => ?_)
                  rw [if_pos (by rfl)]
                  go_simp
                  go_at_call 14
                  (with_reducible refine (HIN.out w183 h22 h23 BX22.out BX23.out).mono ?_)
                  rintro e w184 ⟨rfl, hb⟩
                  have BE184 := hide (BE183.out.trans (hb.mono BE183.out.size))
                  clear hb
                  refine hK.out _ _ ?_
                  clear hK K hSd
                  try simp only [tilS, Act.put]
                  refine tilM 25 (Or.inl (by rfl)) ?_
                  refine tilM 26 (Or.inl (by rfl)) ?_
                  refine wpTil_done (by kernel_rfl) ?_ _
                  go_wp2_with fail
                  go_ret
                  exact ⟨rfl, HB.out.trans (BE184.out.mono HB.out.size)⟩
                exact AllTil.nil
              exact AllTil.nil
            exact AllTil.nil
          refine AllTil.cons rfl (fun K hK => ?_) ?_
          · skip
            rw [if_pos (by rfl)]
            go_simp
            obtain ⟨h23, hh23⟩ := letl w172.heap.size
            obtain ⟨w185, hw185⟩ := letr (w172.alloc (.cells #[.int .i64 8, .int .i64 7] 3))
            have BX23 := lBox hw185 hh23
            have hb := (show Below w172.heap.size w172 w185 from by rw [hw185]; exact alloc1 _ _)
            have BE185 := hide (BE172.out.trans (hb.mono BE172.out.size))
            have BX21 := hide (BX21.out.below hb)
            rw [← hw185, hh23]
            clear hb hw185 hh23
            refine hK.out _ _ (HKS.out w185 BE185.out) ?_
            clear hK K
            try clear hSd
            have hSd := HKS.out w185 BE185.out
            try simp only [tilS, Act.put]
            refine wpTil_ready (rs := [19]) (by kernel_rfl) (by simp) ?_
            refine AllTil.cons rfl (fun K hK => ?_) ?_
            · skip
              rw [if_pos (by rfl)]
              go_simp
              go_at_call 19
              (with_reducible refine (ireg_any 1 w185).mono ?_)
              rintro e w186 ⟨rfl, hb⟩
              have BE186 := hide (BE185.out.trans (hb.mono BE185.out.size))
              have BX21 := hide (BX21.out.below hb)
              have BX23 := hide (BX23.out.below hb)
              clear hb
              refine hK.out _ _ (HKS.out w186 BE186.out) ?_
              clear hK K
              try clear hSd
              have hSd := HKS.out w186 BE186.out
              try simp only [tilS, Act.put]
              refine wpTil_ready (rs := [20]) (by kernel_rfl) (by simp) ?_
              refine AllTil.cons rfl (fun K hK => ?_) ?_
              · skip
                rw [if_pos (by rfl)]
                go_simp
                obtain ⟨h20, hh20⟩ := letl w186.heap.size
                obtain ⟨w187, hw187⟩ := letr (w186.alloc (.cells #[.int .i64 1, .int .i64 0, .int .i64 1, .int .i64 1] 24))
                have BX20 := lBox hw187 hh20
                have hb := (show Below w186.heap.size w186 w187 from by rw [hw187]; exact alloc1 _ _)
                have BE187 := hide (BE186.out.trans (hb.mono BE186.out.size))
                have BX21 := hide (BX21.out.below hb)
                have BX23 := hide (BX23.out.below hb)
                rw [← hw187, hh20]
                clear hb hw187 hh20
                refine hK.out _ _ (HKS.out w187 BE187.out) ?_
                clear hK K
                try clear hSd
                have hSd := HKS.out w187 BE187.out
                try simp only [tilS, Act.put]
                refine wpTil_ready (rs := [22]) (by kernel_rfl) (by simp) ?_
                refine AllTil.cons rfl (fun K hK => ?_) ?_
                · skip
                  rw [if_pos (by rfl)]
                  go_simp
                  go_at_call 15
                  (with_reducible refine (HPL.out w187 _ (HMV.out.up BE187.out) h20 h21 BX20.out BX21.out).mono ?_)
                  rintro e w188 ⟨h22, rfl, hx, hb⟩
                  have BX22 := hide hx
                  have BE188 := hide (BE187.out.trans (hb.mono BE187.out.size))
                  have BX20 := hide (BX20.out.below hb)
                  have BX21 := hide (BX21.out.below hb)
                  have BX23 := hide (BX23.out.below hb)
                  clear hb hx
                  refine hK.out _ _ (HKS.out w188 BE188.out) ?_
                  clear hK K
                  try clear hSd
                  have hSd := HKS.out w188 BE188.out
                  try simp only [tilS, Act.put]
                  refine wpTil_ready (rs := [24]) (by kernel_rfl) (by simp) ?_
                  refine AllTil.last rfl (by rfl) (fun K hK => ?_)
                  rw [if_pos (by rfl)]
                  go_simp
                  go_at_call 14
                  (with_reducible refine (HIN.out w188 h22 h23 BX22.out BX23.out).mono ?_)
                  rintro e w189 ⟨rfl, hb⟩
                  have BE189 := hide (BE188.out.trans (hb.mono BE188.out.size))
                  clear hb
                  refine hK.out _ _ ?_
                  clear hK K hSd
                  try simp only [tilS, Act.put]
                  refine tilM 25 (Or.inl (by rfl)) ?_
                  refine tilM 26 (Or.inl (by rfl)) ?_
                  refine wpTil_done (by kernel_rfl) ?_ _
                  go_wp2_with fail
                  go_ret
                  exact ⟨rfl, HB.out.trans (BE189.out.mono HB.out.size)⟩
                exact AllTil.nil
              exact AllTil.nil
            exact AllTil.nil
          exact AllTil.nil
        refine AllTil.cons rfl (fun K hK => ?_) ?_
        · skip
          rw [if_pos (by rfl)]
          go_simp
          obtain ⟨h23, hh23⟩ := letl w171.heap.size
          obtain ⟨w190, hw190⟩ := letr (w171.alloc (.cells #[.int .i64 8, .int .i64 7] 3))
          have BX23 := lBox hw190 hh23
          have hb := (show Below w171.heap.size w171 w190 from by rw [hw190]; exact alloc1 _ _)
          have BE190 := hide (BE171.out.trans (hb.mono BE171.out.size))
          have BX21 := hide (BX21.out.below hb)
          rw [← hw190, hh23]
          clear hb hw190 hh23
          refine hK.out _ _ (HKS.out w190 BE190.out) ?_
          clear hK K
          try clear hSd
          have hSd := HKS.out w190 BE190.out
          try simp only [tilS, Act.put]
          refine wpTil_ready (rs := [18]) (by kernel_rfl) (by simp) ?_
          refine AllTil.cons rfl (fun K hK => ?_) ?_
          · skip
            rw [if_pos (by rfl)]
            go_simp
            go_at_call 19
            (with_reducible refine (ireg_any 0 w190).mono ?_)
            rintro e w191 ⟨rfl, hb⟩
            have BE191 := hide (BE190.out.trans (hb.mono BE190.out.size))
            have BX21 := hide (BX21.out.below hb)
            have BX23 := hide (BX23.out.below hb)
            clear hb
            refine hK.out _ _ (HKS.out w191 BE191.out) ?_
            clear hK K
            try clear hSd
            have hSd := HKS.out w191 BE191.out
            try simp only [tilS, Act.put]
            refine wpTil_ready (rs := [19]) (by kernel_rfl) (by simp) ?_
            refine AllTil.cons rfl (fun K hK => ?_) ?_
            · skip
              rw [if_pos (by rfl)]
              go_simp
              go_at_call 19
              (with_reducible refine (ireg_any 1 w191).mono ?_)
              rintro e w192 ⟨rfl, hb⟩
              have BE192 := hide (BE191.out.trans (hb.mono BE191.out.size))
              have BX21 := hide (BX21.out.below hb)
              have BX23 := hide (BX23.out.below hb)
              clear hb
              refine hK.out _ _ (HKS.out w192 BE192.out) ?_
              clear hK K
              try clear hSd
              have hSd := HKS.out w192 BE192.out
              try simp only [tilS, Act.put]
              refine wpTil_ready (rs := [20]) (by kernel_rfl) (by simp) ?_
              refine AllTil.cons rfl (fun K hK => ?_) ?_
              · skip
                rw [if_pos (by rfl)]
                go_simp
                obtain ⟨h20, hh20⟩ := letl w192.heap.size
                obtain ⟨w193, hw193⟩ := letr (w192.alloc (.cells #[.int .i64 1, .int .i64 0, .int .i64 1, .int .i64 1] 24))
                have BX20 := lBox hw193 hh20
                have hb := (show Below w192.heap.size w192 w193 from by rw [hw193]; exact alloc1 _ _)
                have BE193 := hide (BE192.out.trans (hb.mono BE192.out.size))
                have BX21 := hide (BX21.out.below hb)
                have BX23 := hide (BX23.out.below hb)
                rw [← hw193, hh20]
                clear hb hw193 hh20
                refine hK.out _ _ (HKS.out w193 BE193.out) ?_
                clear hK K
                try clear hSd
                have hSd := HKS.out w193 BE193.out
                try simp only [tilS, Act.put]
                refine wpTil_ready (rs := [22]) (by kernel_rfl) (by simp) ?_
                refine AllTil.cons rfl (fun K hK => ?_) ?_
                · skip
                  rw [if_pos (by rfl)]
                  go_simp
                  go_at_call 15
                  (with_reducible refine (HPL.out w193 _ (HMV.out.up BE193.out) h20 h21 BX20.out BX21.out).mono ?_)
                  rintro e w194 ⟨h22, rfl, hx, hb⟩
                  have BX22 := hide hx
                  have BE194 := hide (BE193.out.trans (hb.mono BE193.out.size))
                  have BX20 := hide (BX20.out.below hb)
                  have BX21 := hide (BX21.out.below hb)
                  have BX23 := hide (BX23.out.below hb)
                  clear hb hx
                  refine hK.out _ _ (HKS.out w194 BE194.out) ?_
                  clear hK K
                  try clear hSd
                  have hSd := HKS.out w194 BE194.out
                  try simp only [tilS, Act.put]
                  refine wpTil_ready (rs := [24]) (by kernel_rfl) (by simp) ?_
                  refine AllTil.last rfl (by rfl) (fun K hK => ?_)
                  rw [if_pos (by rfl)]
                  go_simp
                  go_at_call 14
                  (with_reducible refine (HIN.out w194 h22 h23 BX22.out BX23.out).mono ?_)
                  rintro e w195 ⟨rfl, hb⟩
                  have BE195 := hide (BE194.out.trans (hb.mono BE194.out.size))
                  clear hb
                  refine hK.out _ _ ?_
                  clear hK K hSd
                  try simp only [tilS, Act.put]
                  refine tilM 25 (Or.inl (by rfl)) ?_
                  refine tilM 26 (Or.inl (by rfl)) ?_
                  refine wpTil_done (by kernel_rfl) ?_ _
                  go_wp2_with fail
                  go_ret
                  exact ⟨rfl, HB.out.trans (BE195.out.mono HB.out.size)⟩
                exact AllTil.nil
              exact AllTil.nil
            exact AllTil.nil
          exact AllTil.nil
        exact AllTil.nil
      refine AllTil.cons rfl (fun K hK => ?_) ?_
      · skip
        rw [if_pos (by rfl)]
        go_simp
        obtain ⟨h23, hh23⟩ := letl w102.heap.size
        obtain ⟨w196, hw196⟩ := letr (w102.alloc (.cells #[.int .i64 8, .int .i64 7] 3))
        have BX23 := lBox hw196 hh23
        have hb := (show Below w102.heap.size w102 w196 from by rw [hw196]; exact alloc1 _ _)
        have BE196 := hide (BE102.out.trans (hb.mono BE102.out.size))
        rw [← hw196, hh23]
        clear hb hw196 hh23
        refine hK.out _ _ (HKS.out w196 BE196.out) ?_
        clear hK K
        try clear hSd
        have hSd := HKS.out w196 BE196.out
        try simp only [tilS, Act.put]
        refine wpTil_ready (rs := [18, 21]) (by kernel_rfl) (by simp) ?_
        refine AllTil.cons rfl (fun K hK => ?_) ?_
        · skip
          rw [if_pos (by rfl)]
          go_simp
          go_at_call 19
          (with_reducible refine (ireg_any 0 w196).mono ?_)
          rintro e w197 ⟨rfl, hb⟩
          have BE197 := hide (BE196.out.trans (hb.mono BE196.out.size))
          have BX23 := hide (BX23.out.below hb)
          clear hb
          refine hK.out _ _ (HKS.out w197 BE197.out) ?_
          clear hK K
          try clear hSd
          have hSd := HKS.out w197 BE197.out
          try simp only [tilS, Act.put]
          refine wpTil_ready (rs := [19, 21]) (by kernel_rfl) (by simp) ?_
          refine AllTil.cons rfl (fun K hK => ?_) ?_
          · skip
            rw [if_pos (by rfl)]
            go_simp
            go_at_call 19
            (with_reducible refine (ireg_any 1 w197).mono ?_)
            rintro e w198 ⟨rfl, hb⟩
            have BE198 := hide (BE197.out.trans (hb.mono BE197.out.size))
            have BX23 := hide (BX23.out.below hb)
            clear hb
            refine hK.out _ _ (HKS.out w198 BE198.out) ?_
            clear hK K
            try clear hSd
            have hSd := HKS.out w198 BE198.out
            try simp only [tilS, Act.put]
            refine wpTil_ready (rs := [20, 21]) (by kernel_rfl) (by simp) ?_
            refine AllTil.cons rfl (fun K hK => ?_) ?_
            · skip
              rw [if_pos (by rfl)]
              go_simp
              obtain ⟨h20, hh20⟩ := letl w198.heap.size
              obtain ⟨w199, hw199⟩ := letr (w198.alloc (.cells #[.int .i64 1, .int .i64 0, .int .i64 1, .int .i64 1] 24))
              have BX20 := lBox hw199 hh20
              have hb := (show Below w198.heap.size w198 w199 from by rw [hw199]; exact alloc1 _ _)
              have BE199 := hide (BE198.out.trans (hb.mono BE198.out.size))
              have BX23 := hide (BX23.out.below hb)
              rw [← hw199, hh20]
              clear hb hw199 hh20
              refine hK.out _ _ (HKS.out w199 BE199.out) ?_
              clear hK K
              try clear hSd
              have hSd := HKS.out w199 BE199.out
              try simp only [tilS, Act.put]
              refine wpTil_ready (rs := [21]) (by kernel_rfl) (by simp) ?_
              refine AllTil.cons rfl (fun K hK => ?_) ?_
              · skip
                rw [if_pos (by rfl)]
                go_simp
                obtain ⟨h21, hh21⟩ := letl w199.heap.size
                obtain ⟨w200, hw200⟩ := letr (w199.alloc (.cells #[.int .i64 7, .int .i64 8] 3))
                have BX21 := lBox hw200 hh21
                have hb := (show Below w199.heap.size w199 w200 from by rw [hw200]; exact alloc1 _ _)
                have BE200 := hide (BE199.out.trans (hb.mono BE199.out.size))
                have BX20 := hide (BX20.out.below hb)
                have BX23 := hide (BX23.out.below hb)
                rw [← hw200, hh21]
                clear hb hw200 hh21
                refine hK.out _ _ (HKS.out w200 BE200.out) ?_
                clear hK K
                try clear hSd
                have hSd := HKS.out w200 BE200.out
                try simp only [tilS, Act.put]
                refine wpTil_ready (rs := [22]) (by kernel_rfl) (by simp) ?_
                refine AllTil.cons rfl (fun K hK => ?_) ?_
                · skip
                  rw [if_pos (by rfl)]
                  go_simp
                  go_at_call 15
                  (with_reducible refine (HPL.out w200 _ (HMV.out.up BE200.out) h20 h21 BX20.out BX21.out).mono ?_)
                  rintro e w201 ⟨h22, rfl, hx, hb⟩
                  have BX22 := hide hx
                  have BE201 := hide (BE200.out.trans (hb.mono BE200.out.size))
                  have BX20 := hide (BX20.out.below hb)
                  have BX21 := hide (BX21.out.below hb)
                  have BX23 := hide (BX23.out.below hb)
                  clear hb hx
                  refine hK.out _ _ (HKS.out w201 BE201.out) ?_
                  clear hK K
                  try clear hSd
                  have hSd := HKS.out w201 BE201.out
                  try simp only [tilS, Act.put]
                  refine wpTil_ready (rs := [24]) (by kernel_rfl) (by simp) ?_
                  refine AllTil.last rfl (by rfl) (fun K hK => ?_)
                  rw [if_pos (by rfl)]
                  go_simp
                  go_at_call 14
                  (with_reducible refine (HIN.out w201 h22 h23 BX22.out BX23.out).mono ?_)
                  rintro e w202 ⟨rfl, hb⟩
                  have BE202 := hide (BE201.out.trans (hb.mono BE201.out.size))
                  clear hb
                  refine hK.out _ _ ?_
                  clear hK K hSd
                  try simp only [tilS, Act.put]
                  refine tilM 25 (Or.inl (by rfl)) ?_
                  refine tilM 26 (Or.inl (by rfl)) ?_
                  refine wpTil_done (by kernel_rfl) ?_ _
                  go_wp2_with fail
                  go_ret
                  exact ⟨rfl, HB.out.trans (BE202.out.mono HB.out.size)⟩
                exact AllTil.nil
              exact AllTil.nil
            refine AllTil.cons rfl (fun K hK => ?_) ?_
            · skip
              rw [if_pos (by rfl)]
              go_simp
              obtain ⟨h21, hh21⟩ := letl w198.heap.size
              obtain ⟨w203, hw203⟩ := letr (w198.alloc (.cells #[.int .i64 7, .int .i64 8] 3))
              have BX21 := lBox hw203 hh21
              have hb := (show Below w198.heap.size w198 w203 from by rw [hw203]; exact alloc1 _ _)
              have BE203 := hide (BE198.out.trans (hb.mono BE198.out.size))
              have BX23 := hide (BX23.out.below hb)
              rw [← hw203, hh21]
              clear hb hw203 hh21
              refine hK.out _ _ (HKS.out w203 BE203.out) ?_
              clear hK K
              try clear hSd
              have hSd := HKS.out w203 BE203.out
              try simp only [tilS, Act.put]
              refine wpTil_ready (rs := [20]) (by kernel_rfl) (by simp) ?_
              refine AllTil.cons rfl (fun K hK => ?_) ?_
              · skip
                rw [if_pos (by rfl)]
                go_simp
                obtain ⟨h20, hh20⟩ := letl w203.heap.size
                obtain ⟨w204, hw204⟩ := letr (w203.alloc (.cells #[.int .i64 1, .int .i64 0, .int .i64 1, .int .i64 1] 24))
                have BX20 := lBox hw204 hh20
                have hb := (show Below w203.heap.size w203 w204 from by rw [hw204]; exact alloc1 _ _)
                have BE204 := hide (BE203.out.trans (hb.mono BE203.out.size))
                have BX21 := hide (BX21.out.below hb)
                have BX23 := hide (BX23.out.below hb)
                rw [← hw204, hh20]
                clear hb hw204 hh20
                refine hK.out _ _ (HKS.out w204 BE204.out) ?_
                clear hK K
                try clear hSd
                have hSd := HKS.out w204 BE204.out
                try simp only [tilS, Act.put]
                refine wpTil_ready (rs := [22]) (by kernel_rfl) (by simp) ?_
                refine AllTil.cons rfl (fun K hK => ?_) ?_
                · skip
                  rw [if_pos (by rfl)]
                  go_simp
                  go_at_call 15
                  (with_reducible refine (HPL.out w204 _ (HMV.out.up BE204.out) h20 h21 BX20.out BX21.out).mono ?_)
                  rintro e w205 ⟨h22, rfl, hx, hb⟩
                  have BX22 := hide hx
                  have BE205 := hide (BE204.out.trans (hb.mono BE204.out.size))
                  have BX20 := hide (BX20.out.below hb)
                  have BX21 := hide (BX21.out.below hb)
                  have BX23 := hide (BX23.out.below hb)
                  clear hb hx
                  refine hK.out _ _ (HKS.out w205 BE205.out) ?_
                  clear hK K
                  try clear hSd
                  have hSd := HKS.out w205 BE205.out
                  try simp only [tilS, Act.put]
                  refine wpTil_ready (rs := [24]) (by kernel_rfl) (by simp) ?_
                  refine AllTil.last rfl (by rfl) (fun K hK => ?_)
                  rw [if_pos (by rfl)]
                  go_simp
                  go_at_call 14
                  (with_reducible refine (HIN.out w205 h22 h23 BX22.out BX23.out).mono ?_)
                  rintro e w206 ⟨rfl, hb⟩
                  have BE206 := hide (BE205.out.trans (hb.mono BE205.out.size))
                  clear hb
                  refine hK.out _ _ ?_
                  clear hK K hSd
                  try simp only [tilS, Act.put]
                  refine tilM 25 (Or.inl (by rfl)) ?_
                  refine tilM 26 (Or.inl (by rfl)) ?_
                  refine wpTil_done (by kernel_rfl) ?_ _
                  go_wp2_with fail
                  go_ret
                  exact ⟨rfl, HB.out.trans (BE206.out.mono HB.out.size)⟩
                exact AllTil.nil
              exact AllTil.nil
            exact AllTil.nil
          refine AllTil.cons rfl (fun K hK => ?_) ?_
          · skip
            rw [if_pos (by rfl)]
            go_simp
            obtain ⟨h21, hh21⟩ := letl w197.heap.size
            obtain ⟨w207, hw207⟩ := letr (w197.alloc (.cells #[.int .i64 7, .int .i64 8] 3))
            have BX21 := lBox hw207 hh21
            have hb := (show Below w197.heap.size w197 w207 from by rw [hw207]; exact alloc1 _ _)
            have BE207 := hide (BE197.out.trans (hb.mono BE197.out.size))
            have BX23 := hide (BX23.out.below hb)
            rw [← hw207, hh21]
            clear hb hw207 hh21
            refine hK.out _ _ (HKS.out w207 BE207.out) ?_
            clear hK K
            try clear hSd
            have hSd := HKS.out w207 BE207.out
            try simp only [tilS, Act.put]
            refine wpTil_ready (rs := [19]) (by kernel_rfl) (by simp) ?_
            refine AllTil.cons rfl (fun K hK => ?_) ?_
            · skip
              rw [if_pos (by rfl)]
              go_simp
              go_at_call 19
              (with_reducible refine (ireg_any 1 w207).mono ?_)
              rintro e w208 ⟨rfl, hb⟩
              have BE208 := hide (BE207.out.trans (hb.mono BE207.out.size))
              have BX21 := hide (BX21.out.below hb)
              have BX23 := hide (BX23.out.below hb)
              clear hb
              refine hK.out _ _ (HKS.out w208 BE208.out) ?_
              clear hK K
              try clear hSd
              have hSd := HKS.out w208 BE208.out
              try simp only [tilS, Act.put]
              refine wpTil_ready (rs := [20]) (by kernel_rfl) (by simp) ?_
              refine AllTil.cons rfl (fun K hK => ?_) ?_
              · skip
                rw [if_pos (by rfl)]
                go_simp
                obtain ⟨h20, hh20⟩ := letl w208.heap.size
                obtain ⟨w209, hw209⟩ := letr (w208.alloc (.cells #[.int .i64 1, .int .i64 0, .int .i64 1, .int .i64 1] 24))
                have BX20 := lBox hw209 hh20
                have hb := (show Below w208.heap.size w208 w209 from by rw [hw209]; exact alloc1 _ _)
                have BE209 := hide (BE208.out.trans (hb.mono BE208.out.size))
                have BX21 := hide (BX21.out.below hb)
                have BX23 := hide (BX23.out.below hb)
                rw [← hw209, hh20]
                clear hb hw209 hh20
                refine hK.out _ _ (HKS.out w209 BE209.out) ?_
                clear hK K
                try clear hSd
                have hSd := HKS.out w209 BE209.out
                try simp only [tilS, Act.put]
                refine wpTil_ready (rs := [22]) (by kernel_rfl) (by simp) ?_
                refine AllTil.cons rfl (fun K hK => ?_) ?_
                · skip
                  rw [if_pos (by rfl)]
                  go_simp
                  go_at_call 15
                  (with_reducible refine (HPL.out w209 _ (HMV.out.up BE209.out) h20 h21 BX20.out BX21.out).mono ?_)
                  rintro e w210 ⟨h22, rfl, hx, hb⟩
                  have BX22 := hide hx
                  have BE210 := hide (BE209.out.trans (hb.mono BE209.out.size))
                  have BX20 := hide (BX20.out.below hb)
                  have BX21 := hide (BX21.out.below hb)
                  have BX23 := hide (BX23.out.below hb)
                  clear hb hx
                  refine hK.out _ _ (HKS.out w210 BE210.out) ?_
                  clear hK K
                  try clear hSd
                  have hSd := HKS.out w210 BE210.out
                  try simp only [tilS, Act.put]
                  refine wpTil_ready (rs := [24]) (by kernel_rfl) (by simp) ?_
                  refine AllTil.last rfl (by rfl) (fun K hK => ?_)
                  rw [if_pos (by rfl)]
                  go_simp
                  go_at_call 14
                  (with_reducible refine (HIN.out w210 h22 h23 BX22.out BX23.out).mono ?_)
                  rintro e w211 ⟨rfl, hb⟩
                  have BE211 := hide (BE210.out.trans (hb.mono BE210.out.size))
                  clear hb
                  refine hK.out _ _ ?_
                  clear hK K hSd
                  try simp only [tilS, Act.put]
                  refine tilM 25 (Or.inl (by rfl)) ?_
                  refine tilM 26 (Or.inl (by rfl)) ?_
                  refine wpTil_done (by kernel_rfl) ?_ _
                  go_wp2_with fail
                  go_ret
                  exact ⟨rfl, HB.out.trans (BE211.out.mono HB.out.size)⟩
                exact AllTil.nil
              exact AllTil.nil
            exact AllTil.nil
          exact AllTil.nil
        refine AllTil.cons rfl (fun K hK => ?_) ?_
        · skip
          rw [if_pos (by rfl)]
          go_simp
          obtain ⟨h21, hh21⟩ := letl w196.heap.size
          obtain ⟨w212, hw212⟩ := letr (w196.alloc (.cells #[.int .i64 7, .int .i64 8] 3))
          have BX21 := lBox hw212 hh21
          have hb := (show Below w196.heap.size w196 w212 from by rw [hw212]; exact alloc1 _ _)
          have BE212 := hide (BE196.out.trans (hb.mono BE196.out.size))
          have BX23 := hide (BX23.out.below hb)
          rw [← hw212, hh21]
          clear hb hw212 hh21
          refine hK.out _ _ (HKS.out w212 BE212.out) ?_
          clear hK K
          try clear hSd
          have hSd := HKS.out w212 BE212.out
          try simp only [tilS, Act.put]
          refine wpTil_ready (rs := [18]) (by kernel_rfl) (by simp) ?_
          refine AllTil.cons rfl (fun K hK => ?_) ?_
          · skip
            rw [if_pos (by rfl)]
            go_simp
            go_at_call 19
            (with_reducible refine (ireg_any 0 w212).mono ?_)
            rintro e w213 ⟨rfl, hb⟩
            have BE213 := hide (BE212.out.trans (hb.mono BE212.out.size))
            have BX21 := hide (BX21.out.below hb)
            have BX23 := hide (BX23.out.below hb)
            clear hb
            refine hK.out _ _ (HKS.out w213 BE213.out) ?_
            clear hK K
            try clear hSd
            have hSd := HKS.out w213 BE213.out
            try simp only [tilS, Act.put]
            refine wpTil_ready (rs := [19]) (by kernel_rfl) (by simp) ?_
            refine AllTil.cons rfl (fun K hK => ?_) ?_
            · skip
              rw [if_pos (by rfl)]
              go_simp
              go_at_call 19
              (with_reducible refine (ireg_any 1 w213).mono ?_)
              rintro e w214 ⟨rfl, hb⟩
              have BE214 := hide (BE213.out.trans (hb.mono BE213.out.size))
              have BX21 := hide (BX21.out.below hb)
              have BX23 := hide (BX23.out.below hb)
              clear hb
              refine hK.out _ _ (HKS.out w214 BE214.out) ?_
              clear hK K
              try clear hSd
              have hSd := HKS.out w214 BE214.out
              try simp only [tilS, Act.put]
              refine wpTil_ready (rs := [20]) (by kernel_rfl) (by simp) ?_
              refine AllTil.cons rfl (fun K hK => ?_) ?_
              · skip
                rw [if_pos (by rfl)]
                go_simp
                obtain ⟨h20, hh20⟩ := letl w214.heap.size
                obtain ⟨w215, hw215⟩ := letr (w214.alloc (.cells #[.int .i64 1, .int .i64 0, .int .i64 1, .int .i64 1] 24))
                have BX20 := lBox hw215 hh20
                have hb := (show Below w214.heap.size w214 w215 from by rw [hw215]; exact alloc1 _ _)
                have BE215 := hide (BE214.out.trans (hb.mono BE214.out.size))
                have BX21 := hide (BX21.out.below hb)
                have BX23 := hide (BX23.out.below hb)
                rw [← hw215, hh20]
                clear hb hw215 hh20
                refine hK.out _ _ (HKS.out w215 BE215.out) ?_
                clear hK K
                try clear hSd
                have hSd := HKS.out w215 BE215.out
                try simp only [tilS, Act.put]
                refine wpTil_ready (rs := [22]) (by kernel_rfl) (by simp) ?_
                refine AllTil.cons rfl (fun K hK => ?_) ?_
                · skip
                  rw [if_pos (by rfl)]
                  go_simp
                  go_at_call 15
                  (with_reducible refine (HPL.out w215 _ (HMV.out.up BE215.out) h20 h21 BX20.out BX21.out).mono ?_)
                  rintro e w216 ⟨h22, rfl, hx, hb⟩
                  have BX22 := hide hx
                  have BE216 := hide (BE215.out.trans (hb.mono BE215.out.size))
                  have BX20 := hide (BX20.out.below hb)
                  have BX21 := hide (BX21.out.below hb)
                  have BX23 := hide (BX23.out.below hb)
                  clear hb hx
                  refine hK.out _ _ (HKS.out w216 BE216.out) ?_
                  clear hK K
                  try clear hSd
                  have hSd := HKS.out w216 BE216.out
                  try simp only [tilS, Act.put]
                  refine wpTil_ready (rs := [24]) (by kernel_rfl) (by simp) ?_
                  refine AllTil.last rfl (by rfl) (fun K hK => ?_)
                  rw [if_pos (by rfl)]
                  go_simp
                  go_at_call 14
                  (with_reducible refine (HIN.out w216 h22 h23 BX22.out BX23.out).mono ?_)
                  rintro e w217 ⟨rfl, hb⟩
                  have BE217 := hide (BE216.out.trans (hb.mono BE216.out.size))
                  clear hb
                  refine hK.out _ _ ?_
                  clear hK K hSd
                  try simp only [tilS, Act.put]
                  refine tilM 25 (Or.inl (by rfl)) ?_
                  refine tilM 26 (Or.inl (by rfl)) ?_
                  refine wpTil_done (by kernel_rfl) ?_ _
                  go_wp2_with fail
                  go_ret
                  exact ⟨rfl, HB.out.trans (BE217.out.mono HB.out.size)⟩
                exact AllTil.nil
              exact AllTil.nil
            exact AllTil.nil
          exact AllTil.nil
        exact AllTil.nil
      exact AllTil.nil
    exact AllTil.nil
  exact AllTil.nil
end Go.Proofs.Ytkilfejcohnceaa
