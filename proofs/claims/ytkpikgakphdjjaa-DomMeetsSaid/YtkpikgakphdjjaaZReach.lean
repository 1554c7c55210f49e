/- The contracts of slices.Sort on a slice that the call owns, and of flow.Reach: the order of a walk, sorted. Condition: what comes next is there. -/
import Derived.Test.YtkpikgakphdjjaaFT
import Derived.Test.YtkpikgakphdjjaaZSort
import Derived.Sort.OwnSortedInts
set_option linter.unusedSimpArgs false
set_option linter.unusedVariables false
namespace Go.Proofs.Ytkpikgakphdjjaa
open Go.RowKit

def sortL (l : List Int) : List Int := l.mergeSort fun x y => decide (x ≤ y)
theorem sortL_len (l : List Int) : (sortL l).length = l.length := List.length_mergeSort l
set_option maxRecDepth 100000 in
theorem sortOw_any (v : Value) (l : List Int) (base : Nat) (w : World) (hv : Ow w base 3 .i64 v l) (h0 : 0 < l.length) (hn : l.length ≤ 1000) :
    Calls Try.prog 33 #[v] w fun e w' => e = .returned (.tuple #[]) ∧ Ow w' base 3 .i64 v (sortL l) ∧ Below base w w' := by
  rcases hv.2 with ⟨-, hz⟩ | ⟨g, cap, cur, rfl, hg, hh, hnc, hcm, hsz, htake⟩
  · omega
  · have hgl : g < w.heap.size := (Array.getElem?_eq_some_iff.1 hh).1
    have hH := holds_of_blockI hh (by simpa using htake)
    refine (sort_int g 0 cap l w hH hgl (by omega)).mono fun e w' ⟨he, n, os, hw⟩ => ⟨he, ?_, ?_⟩
    · rw [hw]
      unfold Ow
      have h := ownsRow_sortedI (w := w) (n := n) (os := os) (ts := sortL l) (sortL_len l) hg hh hnc hcm hsz
      rw [sortL_len]
      exact h
    · rw [hw]
      exact (Below.refl _ _).grown (grownBy_sortedI _) (by omega) (fun k hk => by injection hk with hk; omega)
theorem order_pos {f : FunV} {l : List Int} (h1 : 1 ≤ f.blocks.length) (h : OrderOf f l) : 0 < l.length := by
  obtain ⟨m, x, h, rfl⟩ := h
  rw [List.length_reverse]
  cases h with
  | old hm _ =>
    unfold metB at hm
    simp [List.getD, List.getElem?_replicate] at hm
    split at hm <;> simp at hm
  | new _ _ h2 =>
    cases h2
    simp
theorem order_len {f : FunV} {l : List Int} (hok : FlowOk f) (h1 : 1 ≤ f.blocks.length) (h : OrderOf f l) : l.length ≤ 40 := by
  obtain ⟨m, x, h, rfl⟩ := h
  have := dfs_len hok h1 h
  have := hok.1
  rw [List.length_reverse]
  omega
set_option maxHeartbeats 1000000 in
set_option maxRecDepth 100000 in
theorem freach_any (vk vb vs : Value) (f : FunV) (w : World) (B : Nat) (hB : B ≤ w.heap.size) (hi : FunI w (· < B) vk vb vs f) (hok : FlowOk f) (h1 : 1 ≤ f.blocks.length) :
    Calls Try.prog 12 #[.agg #[vk, vb, .int .i64 f.params, .int .i64 f.result, vs]] w fun e w' => ∃ v l, e = .returned v ∧ OrderOf f l ∧ Ow w' w.heap.size 3 .i64 v (sortL l) ∧ Below w.heap.size w w' := by
  have HOR := hide (fun (W : World) (hW : Below w.heap.size w W) => forder_any vk vb vs f W B (by have := hW.size; omega) (hi.keep (up hW hB) (fun _ h => h)) hok h1)
  have HPS := hide (fun l h => @order_pos f l h1 h)
  have HLN := hide (fun l h => @order_len f l hok h1 h)
  have HSO := hide (fun v l base w h1 h2 h3 => sortOw_any v l base w h1 h2 h3)
  obtain ⟨Ak, ck, rfl, hck, hmk⟩ := hi.1.open'
  obtain ⟨Ab, cb, rfl, hcb, hmb⟩ := hi.2.1.open'
  obtain ⟨As, cs, rfl, hcs, hms⟩ := hi.2.2.1.open'
  generalize f.kinds.length = lk, f.base.length = lb, f.blocks.length = ls, f.params = fp, f.result = fr at *
  clear hi hok hck hcb hcs h1
  go_enter Try.func12, Try.ntmps12
  go_upto_region 1 with (fail)
  obtain ⟨w1, hw1⟩ : ∃ w1, w1 = w.alloc (.cells #[.slice Ak lk ck, .slice Ab lb cb, .int .i64 fp, .int .i64 fr, .slice As ls cs] 30) := ⟨_, rfl⟩
  have HX1 := hide (show Box w1 w.heap.size #[.slice Ak lk ck, .slice Ab lb cb, .int .i64 fp, .int .i64 fr, .slice As ls cs] 30 by rw [hw1]; exact Box.new w _ _)
  have HB1 := hide (show Below w.heap.size w w1 by rw [hw1]; exact alloc1 w _)
  rw [← hw1]
  clear hw1
  have l1 := HX1.out.lt
  have c0 := (HX1.out.cell 0 (v := .slice Ak lk ck) rfl).1
  have c1 := (HX1.out.cell 1 (v := .slice Ab lb cb) rfl).1
  have c2 := (HX1.out.cell 2 (v := .int .i64 fp) rfl).1
  have c3 := (HX1.out.cell 3 (v := .int .i64 fr) rfl).1
  have c4 := (HX1.out.cell 4 (v := .slice As ls cs) rfl).1
  go_wp2_with (first
    | (go_at_call 33; refine HST.out.mono ?_; rintro e w4 ⟨rfl, ho4, hb4⟩)
    | (go_at_call 14; refine (HOR.out w1 HB1.out).mono ?_; rintro e w3 ⟨v3, l, rfl, hO, ho3, hb3⟩; have HST := hide (HSO.out v3 l w.heap.size w3 (ho3.lower HB1.out.size) (HPS.out l hO) (by have := HLN.out l hO; omega)); have HO := hide hO; have HB3 := hide (HB1.out.trans (hb3.mono HB1.out.size)); clear hO ho3 hb3))
  go_ret
  exact ⟨v3, l, rfl, HO.out, ho4, HB3.out.trans hb4⟩
end Go.Proofs.Ytkpikgakphdjjaa
