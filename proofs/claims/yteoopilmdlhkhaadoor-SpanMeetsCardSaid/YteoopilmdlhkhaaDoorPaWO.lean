/- Layer 15: slices.AppendSeq and slices.Collect over the spans of a map. No condition. -/
import Derived.Test.YteoopilmdlhkhaaDoorPaWV
set_option linter.unusedSimpArgs false
set_option linter.unusedVariables false
namespace Go.Proofs.YteoopilmdlhkhaaDoor
open Go.RowKit Go.Maps Go.Shelf
attribute [local go_sem] Oper.semAt_some

theorem walks15 {W W' : World} (h : KeepsOthers W W') : KeepsWalks W W' := ⟨h.size, fun k o hk hw => h.same k o hk (Obj.not_cells_of_walk hw)⟩
theorem OwC.own15 {W W' : World} {row : Option Nat} {v : Value} {base : Nat} {xs : List SpV} (h : OwC spC 23 4 W base v xs) (hg : W.grownBy W' row) (hr : ∀ r, row = some r → ∃ o : Obj, W.heap[r]? = some o ∧ o.isCells = false) : OwC spC 23 4 W' base v xs :=
  h.kept fun g hgv => hg.block g (h.lt g hgv).2 (fun e => by
    obtain ⟨o, ho, hc⟩ := hr g e.symm
    obtain ⟨cs, fr, hcs⟩ := h.row g hgv
    rw [hcs] at ho
    cases ho
    cases hc)
set_option maxRecDepth 100000 in
set_option maxHeartbeats 4000000 in
theorem appendSeq15 (Bm b nn : Nat) (F : SpF15) (hF : ∀ v s, F v = some s → s.v = v ∧ i64R v) (w : World) (hm : w.cell? ⟨Bm, 0, none⟩ = some (.map (some b))) (hBm : Bm < w.heap.size) (hM : MpS15 w b nn F) (hnn : nn ≤ 1000000000) :
    Calls Tryd.prog 28 #[.slice none 0 0, .func (.func 21) #[] #[.pointer (some ⟨Bm, 0, none⟩)]] w fun e w' => ∃ v xs, e = .returned v ∧ AllV15 F xs ∧ OwC spC 23 4 w' w.heap.size v xs ∧ Below w.heap.size w w' ∧ xs.length ≤ 1000000000 := by
  obtain ⟨i0, hi0, hz0, hz1, hz2⟩ := info_parts info_sp
  have HI := hide hi0
  clear hi0
  obtain ⟨W0, hW0⟩ : ∃ W0, w.alloc (.cells #[.slice none 0 0] 35) = W0 := ⟨_, rfl⟩
  have hzW : W0.heap.size = w.heap.size + 1 := by rw [← hW0]; simp
  have HB0 := hide (show Below w.heap.size w W0 from by rw [← hW0]; exact alloc1 w _)
  have BS : Boxed W0 w.heap.size 35 (.slice none 0 0) := by rw [← hW0]; exact Boxed.new w _ _
  have hm0 := (HB0.out.cell (p := ⟨Bm, 0, none⟩) hBm).trans hm
  have hM0 := hM.below HB0.out
  refine (callsIn_wide (n := 9)).1 ?_
  refine callsIn_of_wp_marks Tryd.func28 rfl trivial ?_ rfl
  simp only [Tryd.ntmps28, List.size_toArray, List.length_cons, List.length_nil, Nat.reduceAdd, Nat.reduceSub, Array.replicate_succ, Array.replicate_zero, List.push_toArray, List.append_toArray, List.nil_append, List.cons_append]
  gi_wp2
  (try rw [hW0])
  refine wpIn_rangeFunc_ownH rfl (by omega) (gf := 21) (lb := #[.pointer (some ⟨Bm, 0, none⟩)]) rfl trivial (enters_of Tryd.func21 (by kernel_rfl) rfl)
    (values_stops15 (9 - 1) Bm b nn F hF (by omega) W0 hm0 (by omega) hM0) walksK_t walksK_b (Below.refl _ _) (fun _ => rfl)
    (fun pre W => (∃ v, Boxed W w.heap.size 35 v ∧ (∃ A n c, v = .slice A n c) ∧ OwC spC 23 4 W w.heap.size v pre) ∧ Below w.heap.size w W)
    (fun _ _ _ => False)
    (OwnFrom.and (Own.from (fun pre X Y row k hg hr => by
        obtain ⟨v, k1, k2, k3⟩ := k
        exact ⟨v, Box.own (cs := #[v]) k1 hg hr, k2, k3.own15 hg hr⟩) _) (ownFrom_below (Nat.le_refl _) (by omega)))
    (fun _ _ _ _ _ hs _ _ => hs)
    ⟨⟨_, BS, ⟨_, _, _, rfl⟩, OwC.nil _ _⟩, HB0.out⟩
    (fun x a' W => ∃ Bx, w.heap.size < Bx ∧ Box W Bx #[.int .i64 x.v, .int .i64 x.f, .int .i64 x.t, .bool x.c] 23 ∧ a' = { tmps := #[.slice none 0 0, .func (.func 21) #[] #[.pointer (some ⟨Bm, 0, none⟩)], .pointer (some ⟨w.heap.size, 0, none⟩), undef, .slice none 0 0, .pointer (some ⟨Bx, 0, none⟩), .func (.func 21) #[] #[.pointer (some ⟨Bm, 0, none⟩)], spA x, undef, undef, undef, undef, undef], defers := [] })
    (fun x a' _ X Y row hs hg hr => by obtain ⟨Bx, h1, h2, h3⟩ := hs; exact ⟨Bx, h1, h2.own hg (fun r e => (hr r e).2), h3⟩)
    ?assign ?body ?done ?stop
  case assign =>
    rintro l pre x W K ⟨⟨v, k1, k2, k3⟩, hB⟩ hK
    obtain ⟨xv, xf, xt, xc⟩ := x
    have hsz := hB.size
    unfold spA at hK ⊢
    gi_wp2
    exact hK _ _ ((KeepsOthers.alloc _ _).from _) (KeepsWalks.alloc _ _) ⟨⟨v, k1.alloc _, k2, k3.below (alloc1 W _)⟩, hB.alloc hsz _⟩ ⟨W.heap.size, k1.lt, Box.new W _ _, rfl⟩
  case body =>
    rintro l pre x a' W hl ⟨r, hr⟩ ⟨⟨v, k1, ⟨A, n, c, rfl⟩, k3⟩, hB⟩ ⟨Bx, hBx, bX, rfl⟩ hlt
    obtain ⟨xv, xf, xt, xc⟩ := x
    have hsW := hB.size
    have HI2 := HI.out
    unfold spA
    simp only at bX
    obtain ⟨c0, -⟩ := bX.cell 0 (v := .int .i64 xv) rfl
    obtain ⟨c1, -⟩ := bX.cell 1 (v := .int .i64 xf) rfl
    obtain ⟨c2, -⟩ := bX.cell 2 (v := .int .i64 xt) rfl
    obtain ⟨c3, -⟩ := bX.cell 3 (v := .bool xc) rfl
    have lX := bX.lt
    have b0 := (Box.cell (cs := #[.slice A n c]) k1 0 rfl).1
    have lB := k1.lt
    have HNC := hide (fun (j : Nat) (u : Value) (hu : [Value.int .i64 xv, .int .i64 xf, .int .i64 xt, .bool xc][j]? = some u) => (show (W.alloc (.cells #[.int .i64 xv, .int .i64 xf, .int .i64 xt, .bool xc] 23)).cell? ((⟨W.heap.size, 0, none⟩ : Addr).add j) = some u from by
      have hj : j < 4 := (List.getElem?_eq_some_iff.1 hu).1
      have bN := Box.new W #[.int .i64 xv, .int .i64 xf, .int .i64 xt, .bool xc] 23
      rcases (show j = 0 ∨ j = 1 ∨ j = 2 ∨ j = 3 by omega) with rfl | rfl | rfl | rfl
      all_goals simp at hu
      all_goals subst hu
      · exact (bN.cell 0 rfl).1
      · exact (bN.cell 1 rfl).1
      · exact (bN.cell 2 rfl).1
      · exact (bN.cell 3 rfl).1))
    gi_wp2_with (gi_at_builtin; refine wpListIn_append_own _ rfl _ _ 35 rfl w.heap.size 23 i0 (.agg #[.int .i64 0, .int .i64 0, .int .i64 0, .bool false]) 4 32 Tryd.underlying35 HI2 hz0 hz1 hz2 rfl (by decide) _ _ _ rfl (World.ownsRow.alloc k3 _) ⟨W.heap.size, 0, none⟩ 1 1 [.int .i64 xv, .int .i64 xf, .int .i64 xt, .bool xc] rfl rfl HNC.out (by intro u hu; simp at hu; rcases hu with rfl | rfl | rfl | rfl <;> rfl) (by simp only [maxLen]; omega) (by omega) (by simp; omega) ?_; intro v' w3 hown' hg3 hnil3; obtain ⟨g', cap', rfl⟩ := ownsRow_succ hown'; obtain ⟨hv1, hv2, hr2, hk2, hb2⟩ := Boxed.appended k1 (by decide) k3 hB.size (Nat.le_refl _) hown' hg3; have z0 := hv1.cell; have z1 := hv1.frozen)
    exact ⟨hk2.from _, walks15 hk2, ⟨_, hv2, ⟨_, _, _, rfl⟩, by unfold OwC; rw [List.length_append, List.flatMap_append]; exact hr2⟩, hB.trans hb2⟩
  case done =>
    rintro D ys W hD hys ⟨⟨v, k1, ⟨A, n, c, rfl⟩, k3⟩, hB⟩ hK
    have cS := (Box.cell (cs := #[.slice A n c]) k1 0 rfl).1
    have lS := k1.lt
    gi_wp2
    refine ⟨by simp, .inl ⟨_, _, rfl, run_takeDeferred hK, ?_⟩⟩
    have hbl := belowK_b (w := w) (Nat.le_refl _) W D _ (.deferred none) (by omega) hK rfl rfl
    refine ⟨_, results_tmp rfl _ _ _, .slice A n c, ys, rfl, hys.1, k3.own15 (grownBy_putObj' W D (.deferred none)) (fun r e => by cases e; exact ⟨_, hK, rfl⟩), hB.trans hbl, Nat.le_trans hys.2 hnn⟩
  case stop =>
    rintro D c pre W _ _ h _
    exact h.elim
theorem collect15 (Bm b nn : Nat) (F : SpF15) (hF : ∀ v s, F v = some s → s.v = v ∧ i64R v) (w : World) (hm : w.cell? ⟨Bm, 0, none⟩ = some (.map (some b))) (hBm : Bm < w.heap.size) (hM : MpS15 w b nn F) (hnn : nn ≤ 1000000000) :
    Calls Tryd.prog 19 #[.func (.func 21) #[] #[.pointer (some ⟨Bm, 0, none⟩)]] w fun e w' => ∃ v xs, e = .returned v ∧ AllV15 F xs ∧ OwC spC 23 4 w' w.heap.size v xs ∧ Below w.heap.size w w' ∧ xs.length ≤ 1000000000 := by
  have HA := hide (appendSeq15 Bm b nn F hF w hm hBm hM hnn)
  clear hm hM
  go_enter Tryd.func19, Tryd.ntmps19
  go_wp2_with (go_at_call 28; refine HA.out.mono ?_; rintro e w1 ⟨v, xs, rfl, h1, h2, h3, h4⟩)
  go_ret
  exact ⟨v, xs, rfl, h1, h2, h3, h4⟩
end Go.Proofs.YteoopilmdlhkhaaDoor
