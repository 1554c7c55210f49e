/- The statement SpanMeets, walked: it answers true. Conditions: the tables of parts and of the library read as listed. -/
import Derived.Test.YteoopilmdlhkhaaDoorPaWN
import Derived.Test.YteoopilmdlhkhaaDoorPaJQ
set_option linter.unusedSimpArgs false
set_option linter.unusedVariables false
namespace Go.Proofs.YteoopilmdlhkhaaDoor
open Go.RowKit

def rI15 : InsV := ⟨23, 0, 0, 0, 0, 0, []⟩
def cI15 : InsV := ⟨1, 0, 0, 0, 0, 0, []⟩
theorem p15_order {o : List Int} (h : OrderOf P11 o) : o = [0] := by
  have h0 : OrderOf P11 [0] := ⟨_, _, Dfs.new (by decide) (by rw [show nxt P11 (0 : Int).toNat = [] from p11_0]; exact Dfs.nil _ _) (Dfs.nil _ _), rfl⟩
  exact h.one h0
theorem p15_1 : stp15 P11 0 ([], fun _ => none) (1, rI15) = ([1], len15 2 (fun _ => none) [0]) := by
  unfold stp15 ins15
  rw [if_neg (by decide)]
  simp only
  rw [show listL (behS15 rI15 (closeL P11 [])) = [] by decide, show insS rI15 [] = [1] by decide, show listL (closeL P11 [1]) = [0] by decide]
  rfl
theorem p15_2 (F : SpF15) : stp15 P11 0 ([1], F) (0, cI15) = ([], len15 1 F [0]) := by
  unfold stp15 ins15
  rw [if_neg (by decide)]
  simp only
  rw [show listL (behS15 cI15 (closeL P11 [1])) = [0] by decide, show insS cI15 [1] = [] by decide, show listL (closeL P11 []) = [] by decide]
  rfl
theorem p15_F (he : endT15 P11 0 = []) : (fnd15 P11 [0]).2 = fun v => if v = 0 then some ⟨0, 1, 2, false⟩ else none := by
  show (blk15 P11 0 [(1, rI15), (0, cI15)] (endT15 P11 0, fun _ => none)).2 = _
  rw [he]
  show (stp15 P11 0 (stp15 P11 0 ([], fun _ => none) (1, rI15)) (0, cI15)).2 = _
  rw [p15_1, p15_2]
  funext v
  unfold len15 upd15 grow15
  simp only [List.foldl_cons, List.foldl_nil]
  by_cases h : v = 0
  · simp [h]
    exact ⟨by decide, by decide⟩
  · simp [h]
theorem p15_sp {o : List Int} (ho : OrderOf P11 o) (he : endT15 P11 0 = []) {sp : List SpV} (h : SpL15 (fnd15 P11 o).2 sp) : sp = [⟨0, 1, 2, false⟩] := by
  rw [p15_order ho, p15_F he] at h
  refine h.one (m := [⟨0, 1, 2, false⟩]) ⟨fun s => ?_, List.pairwise_singleton _ _⟩
  simp only [List.mem_singleton]
  constructor
  · rintro rfl
    rfl
  · intro hs
    split at hs
    · injection hs with hs
      exact hs.symm
    · cases hs
theorem meetB_symm (a b : SpV) : meetB a b = meetB b a := by
  unfold meetB
  rw [Int.max_comm, Int.min_comm]
set_option maxHeartbeats 2000000 in
set_option maxRecDepth 100000 in
theorem alive15_any (w : World) (hT : TabP w) (hW : TabW w) : Calls Tryd.prog 4 #[] w fun e w' => e = .returned (.bool true) ∧ Below w.heap.size w w' := by
  go_enter Tryd.func4, Tryd.ntmps4
  go_upto_region 1 with (fail)
  go_cut [1] from 2 (fun p wx => At11 w p wx)
  case first =>
    go_wp2
    go_meet
    case rel => exact at11_of w
  case rest =>
    obtain ⟨Ak, Ab, As, h, rfl, hbx, hfi, hbc⟩ := hcut
    have HBC := hide hbc
    have HK5 := hide (fun (W : World) (hW : Below wc.heap.size wc W) => And.intro ((hbx.below hW).cell 0 (v := .slice Ak 1 1) rfl).1 (And.intro ((hbx.below hW).cell 1 (v := .slice Ab 1 1) rfl).1 (And.intro ((hbx.below hW).cell 2 (v := .int .i64 0) rfl).1 (And.intro ((hbx.below hW).cell 3 (v := .int .i64 0) rfl).1 (((hbx.below hW).cell 4 (v := .slice As 1 1) rfl).1)))))
    have kf := fun (W : World) (hW : Below wc.heap.size wc W) => hfi.keep (w := wc) (up hW (Nat.le_refl _)) (fun _ h => h)
    have ht := fun (W : World) (hWW : Below wc.heap.size wc W) => (show TabP W ∧ TabW W from ⟨hT.below (HBC.out.trans (hWW.mono HBC.out.size)) hT.1, hW.below (HBC.out.trans (hWW.mono HBC.out.size)) hW.1⟩)
    have hB1 : 0 < wc.heap.size := Nat.lt_of_lt_of_le hT.1 hbc.size
    have hB2 : 1 < wc.heap.size := Nat.lt_of_lt_of_le hW.1 hbc.size
    have hE : endT15 P11 0 = [] := p11_end (ends15 _ _ _ P11 0 wc wc.heap.size (Nat.le_refl _) hfi (ht wc (Below.refl _ _)).1 p11_ok (by decide) p11_ne p11_few)
    have HSP := hide (fun (W : World) (hWW : Below wc.heap.size wc W) => (show Calls Tryd.prog 7 #[.agg #[.slice Ak 1 1, .slice Ab 1 1, .int .i64 0, .int .i64 0, .slice As 1 1]] W fun e w' => (∃ A c, e = .returned (.slice A 1 c) ∧ SpsV w' (fun b => W.heap.size ≤ b ∧ b < w'.heap.size) (.slice A 1 c) [⟨0, 1, 2, false⟩]) ∧ Below W.heap.size W w' from
      (spans_any15 _ _ _ P11 W wc.heap.size hWW.size (kf W hWW) (ht W hWW).1 hB1 (ht W hWW).2 hB2 p11_ok (by decide) p11_ne p11_few (by decide)).mono fun e w' h => by
        obtain ⟨v, sp, o, he, ho, hs, hv, hb⟩ := h
        obtain rfl := p15_sp ho hE hs
        obtain ⟨A, c, rfl, -⟩ := id hv
        exact ⟨⟨A, c, he, hv⟩, hb⟩))
    have HLI := hide (fun (W : World) (hWW : Below wc.heap.size wc W) => (show Calls Tryd.prog 8 #[.agg #[.slice Ak 1 1, .slice Ab 1 1, .int .i64 0, .int .i64 0, .slice As 1 1]] W fun e w' => (∃ A c, e = .returned (.slice A 2 c)) ∧ Below W.heap.size W w' from
      (line_any15 _ _ _ P11 W wc.heap.size hWW.size (kf W hWW) p11_ok (by decide)).mono fun e w' h => by
        obtain ⟨v, o, he, ho, hv, hb⟩ := h
        rw [p15_order ho] at hv
        obtain ⟨A, c, rfl, -⟩ := hv.sl
        exact ⟨⟨A, c, he⟩, hb⟩))
    have HCA := hide (fun (W : World) (hWW : Below wc.heap.size wc W) => (show Calls Tryd.prog 9 #[.agg #[.slice Ak 1 1, .slice Ab 1 1, .int .i64 0, .int .i64 0, .slice As 1 1]] W fun e w' => (∃ A c, e = .returned (.slice A 0 c)) ∧ Below W.heap.size W w' from
      (calls_any15 _ _ _ P11 W wc.heap.size hWW.size (kf W hWW) (ht W hWW).1 hB1 (ht W hWW).2 hB2 p11_ok (by decide) p11_ne p11_few (by decide)).mono fun e w' h => by
        obtain ⟨r, sp, o, he, ho, hs, hv, hb⟩ := h
        obtain rfl := p15_sp ho hE hs
        obtain ⟨A, c, rfl, -⟩ := hv
        exact ⟨⟨A, c, he⟩, hb⟩))
    obtain ⟨c0, c1, c2, c3, c4⟩ := HK5.out wc (Below.refl _ _)
    have hlh := hbx.lt
    clear hbx hfi hbc kf hT hW ht hE
    go_wp2_with (first
      | (go_at_call 9; (with_reducible refine (HCA.out w4 HC4.out).mono ?_); rintro e w5 ⟨⟨A5, k5, rfl⟩, hb5⟩; have HC5 := hide (HC4.out.trans (hb5.mono HC4.out.size)); clear hb5)
      | (go_at_call 8; (with_reducible refine (HLI.out w3 HC3.out).mono ?_); rintro e w4 ⟨⟨A4, k4, rfl⟩, hb4⟩; have hc4 := HC3.out.trans (hb4.mono HC3.out.size); obtain ⟨y0, y1, y2, y3, y4⟩ := HK5.out w4 hc4; have HC4 := hide hc4; clear hb4 hc4)
      | (go_at_call 7; (with_reducible refine (HSP.out wc (Below.refl _ _)).mono ?_); rintro e w3 ⟨⟨A3, k3, rfl, hs3⟩, hb3⟩; obtain ⟨b3, o3, rfl, hbS, ⟨s0, s1, s2, s3⟩, -⟩ := hs3.get (k := 0) rfl; have lb3 := hbS.2; simp only [Nat.zero_mul, Nat.add_zero] at s0 s1 s2 s3; obtain ⟨x0, x1, x2, x3, x4⟩ := HK5.out w3 hb3; have HC3 := hide hb3; have lh3 := Nat.lt_of_lt_of_le hlh hb3.size; clear hb3 hs3 hbS))
    go_ret
    exact ⟨by simp, HBC.out.trans (HC5.out.mono HBC.out.size)⟩
set_option maxHeartbeats 4000000 in
set_option maxRecDepth 100000 in
theorem meets_law15 (a b : SpV) (w : World) (hT : TabP w) (hW : TabW w) :
    Calls Tryd.prog 3 #[spA a, spA b] w fun e w' => e = .returned (.bool true) ∧ Below w.heap.size w w' := by
  have HAL := hide (fun (W : World) (hWW : Below w.heap.size w W) => alive15_any W (hT.below hWW hT.1) (hW.below hWW hW.1))
  have HM1 := hide (fun (W : World) => qmeet_any a b W)
  have HM2 := hide (fun (W : World) => (show Calls Tryd.prog 5 #[spA b, spA a] W fun e w' => e = .returned (.bool (meetB a b)) ∧ Below W.heap.size W w' from by rw [meetB_symm a b]; exact qmeet_any b a W))
  have HR1 := hide (fun (W : World) => rmeet_any16 a b W)
  obtain ⟨av, af, at', ac⟩ := a
  obtain ⟨bv, bf, bt, bc⟩ := b
  obtain ⟨mb, hmb⟩ := letl (meetB ⟨av, af, at', ac⟩ ⟨bv, bf, bt, bc⟩)
  rw [hmb] at HM1 HM2 HR1
  unfold spA at *
  simp only at HM1 HM2 HR1
  clear hT hW hmb
  go_enter Tryd.func3, Tryd.ntmps3
  go_upto_region 1 with (fail)
  obtain ⟨w1, hw1⟩ := letr (w.alloc (.cells #[.int .i64 av, .int .i64 af, .int .i64 at', .bool ac] 23))
  obtain ⟨h0, hh0⟩ := letl w.heap.size
  have HX1 := lBox hw1 hh0
  have HB1 := lBel hw1
  obtain ⟨w2, hw2⟩ := letr (w1.alloc (.cells #[.int .i64 bv, .int .i64 bf, .int .i64 bt, .bool bc] 23))
  have hz1 : w1.heap.size = h0 + 1 := by rw [hw1, ← hh0]; simp
  have HY2 := lBox hw2 hz1
  have HX2 := hide (HX1.out.below (lBel hw2).out)
  have HB2 := hide (HB1.out.trans ((lBel hw2).out.mono HB1.out.size))
  rw [← hw1, ← hw2]
  (try rw [hh0])
  clear hw1 hw2 hz1
  go_upto_region 3 with (go_at_call 4; (with_reducible refine (HAL.out w2 HB2.out).mono ?_); rintro e w3 ⟨rfl, hb3⟩; have HX3 := hide (HX2.out.below hb3); have HY3 := hide (HY2.out.below hb3); have HB3 := hide (HB2.out.trans (hb3.mono HB2.out.size)); clear hb3)
  clear HX2 HY2 HX1 hh0
  have HKS := hide (fun (W : World) (hW : Below w3.heap.size w3 W) => And.intro ((HX3.out.below hW).cell 0 (v := .int .i64 av) rfl).1 (And.intro ((HX3.out.below hW).cell 1 (v := .int .i64 af) rfl).1 (And.intro ((HX3.out.below hW).cell 2 (v := .int .i64 at') rfl).1 (And.intro ((HX3.out.below hW).cell 3 (v := .bool ac) rfl).1 (And.intro ((HY3.out.below hW).cell 0 (v := .int .i64 bv) rfl).1 (And.intro ((HY3.out.below hW).cell 1 (v := .int .i64 bf) rfl).1 (And.intro ((HY3.out.below hW).cell 2 (v := .int .i64 bt) rfl).1 (((HY3.out.below hW).cell 3 (v := .bool bc) rfl).1))))))))
  obtain ⟨w100, hw100⟩ := letr w3.drew
  have BE100 := hide (show Below w3.heap.size w3 w100 from by rw [hw100]; exact (Below.refl _ _).drew)
  have HQ := hide (show w3.drew.cell? ⟨h0, 0, none⟩ = some (.int .i64 av) ∧ w3.drew.cell? ⟨h0, 1, none⟩ = some (.int .i64 af) ∧ w3.drew.cell? ⟨h0, 2, none⟩ = some (.int .i64 at') ∧ w3.drew.cell? ⟨h0, 3, none⟩ = some (.bool ac) ∧ w3.drew.cell? ⟨h0 + 1, 0, none⟩ = some (.int .i64 bv) ∧ w3.drew.cell? ⟨h0 + 1, 1, none⟩ = some (.int .i64 bf) ∧ w3.drew.cell? ⟨h0 + 1, 2, none⟩ = some (.int .i64 bt) ∧ w3.drew.cell? ⟨h0 + 1, 3, none⟩ = some (.bool bc) from by rw [← hw100]; exact HKS.out w100 BE100.out)
  cases mb with
  | false =>
    refine wp_region_til (fun w' => w'.cell? ⟨h0, 0, none⟩ = some (.int .i64 av) ∧ w'.cell? ⟨h0, 1, none⟩ = some (.int .i64 af) ∧ w'.cell? ⟨h0, 2, none⟩ = some (.int .i64 at') ∧ w'.cell? ⟨h0, 3, none⟩ = some (.bool ac) ∧ w'.cell? ⟨h0 + 1, 0, none⟩ = some (.int .i64 bv) ∧ w'.cell? ⟨h0 + 1, 1, none⟩ = some (.int .i64 bf) ∧ w'.cell? ⟨h0 + 1, 2, none⟩ = some (.int .i64 bt) ∧ w'.cell? ⟨h0 + 1, 3, none⟩ = some (.bool bc)) 16 (by kernel_rfl) HQ.out ?_
    rw [← hw100]
    have hSd := HKS.out w100 BE100.out
    clear hw100
    refine tilT 0 hSd ?_
    refine tilT 1 hSd ?_
    refine tilT 3 hSd ?_
    refine tilT 4 hSd ?_
    refine wpTil_ready (rs := [2]) (by kernel_rfl) (by simp) ?_
    refine AllTil.cons rfl (fun K hK => ?_) ?_
    · skip
      rw [if_pos (by rfl)]
      go_simp
      go_at_call 5
      (with_reducible refine (HM1.out w100).mono ?_)
      rintro e w101 ⟨rfl, hb⟩
      have BE101 := hide (BE100.out.trans (hb.mono BE100.out.size))
      clear hb
      refine hK.out _ _ (HKS.out w101 BE101.out) ?_
      clear hK K
      try clear hSd
      have hSd := HKS.out w101 BE101.out
      try simp only [tilS, Act.put]
      refine wpTil_ready (rs := [5]) (by kernel_rfl) (by simp) ?_
      refine AllTil.cons rfl (fun K hK => ?_) ?_
      · skip
        rw [if_pos (by rfl)]
        go_simp
        go_at_call 6
        (with_reducible refine (HR1.out w101).mono ?_)
        rintro e w102 ⟨rfl, hb⟩
        have BE102 := hide (BE101.out.trans (hb.mono BE101.out.size))
        clear hb
        refine hK.out _ _ (HKS.out w102 BE102.out) ?_
        clear hK K
        try clear hSd
        have hSd := HKS.out w102 BE102.out
        try simp only [tilS, Act.put]
        refine tilM 6 (Or.inr hSd) ?_
        refine tilM 7 (Or.inr hSd) ?_
        refine tilT 8 hSd ?_
        refine tilT 9 hSd ?_
        refine tilT 11 hSd ?_
        refine tilT 12 hSd ?_
        refine wpTil_ready (rs := [10]) (by kernel_rfl) (by simp) ?_
        refine AllTil.cons rfl (fun K hK => ?_) ?_
        · skip
          rw [if_pos (by rfl)]
          go_simp
          go_at_call 5
          (with_reducible refine (HM1.out w102).mono ?_)
          rintro e w103 ⟨rfl, hb⟩
          have BE103 := hide (BE102.out.trans (hb.mono BE102.out.size))
          clear hb
          refine hK.out _ _ (HKS.out w103 BE103.out) ?_
          clear hK K
          try clear hSd
          have hSd := HKS.out w103 BE103.out
          try simp only [tilS, Act.put]
          refine wpTil_ready (rs := [13]) (by kernel_rfl) (by simp) ?_
          refine AllTil.cons rfl (fun K hK => ?_) ?_
          · skip
            rw [if_pos (by rfl)]
            go_simp
            go_at_call 5
            (with_reducible refine (HM2.out w103).mono ?_)
            rintro e w104 ⟨rfl, hb⟩
            have BE104 := hide (BE103.out.trans (hb.mono BE103.out.size))
            clear hb
            refine hK.out _ _ (HKS.out w104 BE104.out) ?_
            clear hK K
            try clear hSd
            have hSd := HKS.out w104 BE104.out
            try simp only [tilS, Act.put]
            refine tilM 14 (Or.inr hSd) ?_
            refine tilM 15 (Or.inr hSd) ?_
            refine wpTil_ready (rs := [16]) (by kernel_rfl) (by simp) ?_
            refine AllTil.last rfl (by rfl) (fun K hK => ?_)
            rw [if_pos (by rfl)]
            go_simp
            skip
            refine hK.out _ _ ?_
            clear hK K hSd
            try simp only [tilS, Act.put]
            refine wpTil_done (by kernel_rfl) ?_ _
            go_wp2
            go_ret
            exact ⟨by simp, HB3.out.trans (BE104.out.mono HB3.out.size)⟩
          exact AllTil.nil
        exact AllTil.nil
      exact AllTil.nil
    exact AllTil.nil
  | true =>
    refine wp_region_til (fun w' => w'.cell? ⟨h0, 0, none⟩ = some (.int .i64 av) ∧ w'.cell? ⟨h0, 1, none⟩ = some (.int .i64 af) ∧ w'.cell? ⟨h0, 2, none⟩ = some (.int .i64 at') ∧ w'.cell? ⟨h0, 3, none⟩ = some (.bool ac) ∧ w'.cell? ⟨h0 + 1, 0, none⟩ = some (.int .i64 bv) ∧ w'.cell? ⟨h0 + 1, 1, none⟩ = some (.int .i64 bf) ∧ w'.cell? ⟨h0 + 1, 2, none⟩ = some (.int .i64 bt) ∧ w'.cell? ⟨h0 + 1, 3, none⟩ = some (.bool bc)) 16 (by kernel_rfl) HQ.out ?_
    rw [← hw100]
    have hSd := HKS.out w100 BE100.out
    clear hw100
    refine tilT 0 hSd ?_
    refine tilT 1 hSd ?_
    refine tilT 3 hSd ?_
    refine tilT 4 hSd ?_
    refine wpTil_ready (rs := [2]) (by kernel_rfl) (by simp) ?_
    refine AllTil.cons rfl (fun K hK => ?_) ?_
    · skip
      rw [if_pos (by rfl)]
      go_simp
      go_at_call 5
      (with_reducible refine (HM1.out w100).mono ?_)
      rintro e w101 ⟨rfl, hb⟩
      have BE101 := hide (BE100.out.trans (hb.mono BE100.out.size))
      clear hb
      refine hK.out _ _ (HKS.out w101 BE101.out) ?_
      clear hK K
      try clear hSd
      have hSd := HKS.out w101 BE101.out
      try simp only [tilS, Act.put]
      refine wpTil_ready (rs := [5]) (by kernel_rfl) (by simp) ?_
      refine AllTil.cons rfl (fun K hK => ?_) ?_
      · skip
        rw [if_pos (by rfl)]
        go_simp
        go_at_call 6
        (with_reducible refine (HR1.out w101).mono ?_)
        rintro e w102 ⟨rfl, hb⟩
        have BE102 := hide (BE101.out.trans (hb.mono BE101.out.size))
        clear hb
        refine hK.out _ _ (HKS.out w102 BE102.out) ?_
        clear hK K
        try clear hSd
        have hSd := HKS.out w102 BE102.out
        try simp only [tilS, Act.put]
        refine tilM 6 (Or.inr hSd) ?_
        refine tilM 7 (Or.inr hSd) ?_
        refine tilT 8 hSd ?_
        refine tilT 9 hSd ?_
        refine tilT 11 hSd ?_
        refine tilT 12 hSd ?_
        refine wpTil_ready (rs := [10]) (by kernel_rfl) (by simp) ?_
        refine AllTil.cons rfl (fun K hK => ?_) ?_
        · skip
          rw [if_pos (by rfl)]
          go_simp
          go_at_call 5
          (with_reducible refine (HM1.out w102).mono ?_)
          rintro e w103 ⟨rfl, hb⟩
          have BE103 := hide (BE102.out.trans (hb.mono BE102.out.size))
          clear hb
          refine hK.out _ _ (HKS.out w103 BE103.out) ?_
          clear hK K
          try clear hSd
          have hSd := HKS.out w103 BE103.out
          try simp only [tilS, Act.put]
          refine wpTil_ready (rs := [13]) (by kernel_rfl) (by simp) ?_
          refine AllTil.cons rfl (fun K hK => ?_) ?_
          · skip
            rw [if_pos (by rfl)]
            go_simp
            go_at_call 5
            (with_reducible refine (HM2.out w103).mono ?_)
            rintro e w104 ⟨rfl, hb⟩
            have BE104 := hide (BE103.out.trans (hb.mono BE103.out.size))
            clear hb
            refine hK.out _ _ (HKS.out w104 BE104.out) ?_
            clear hK K
            try clear hSd
            have hSd := HKS.out w104 BE104.out
            try simp only [tilS, Act.put]
            refine tilM 14 (Or.inr hSd) ?_
            refine tilM 15 (Or.inr hSd) ?_
            refine wpTil_ready (rs := [16]) (by kernel_rfl) (by simp) ?_
            refine AllTil.last rfl (by rfl) (fun K hK => ?_)
            rw [if_pos (by rfl)]
            go_simp
            skip
            refine hK.out _ _ ?_
            clear hK K hSd
            try simp only [tilS, Act.put]
            refine wpTil_done (by kernel_rfl) ?_ _
            go_wp2
            go_ret
            exact ⟨by simp, HB3.out.trans (BE104.out.mono HB3.out.size)⟩
          exact AllTil.nil
        exact AllTil.nil
      exact AllTil.nil
    exact AllTil.nil
end Go.Proofs.YteoopilmdlhkhaaDoor
