/- The contract of the reference's Next of layer 5. Condition: the function has few blocks and few instructions. -/
import Derived.Test.YtkpikgakphdjjaaFN
set_option linter.unusedSimpArgs false
set_option linter.unusedVariables false
namespace Go.Proofs.Ytkpikgakphdjjaa
open Go.RowKit

set_option maxHeartbeats 1000000 in
set_option maxRecDepth 100000 in
theorem rnextN_any (vk vb vs : Value) (f : FunV) (z : Int) (w : World) (B : Nat) (hB : B ≤ w.heap.size) (hi : FunI w (· < B) vk vb vs f) (hok : FlowOk f) :
    Calls Try.prog 49 #[.agg #[vk, vb, .int .i64 f.params, .int .i64 f.result, vs], .int .i64 z] w fun e w' => ∃ A c, e = .returned (.slice A (nxtI f z).length c) ∧ Sl w' w'.heap.size .i64 A (nxtI f z) ∧ (nxtI f z).length ≤ c ∧ c ≤ 2 ∧ (∀ b o, A = some ⟨b, o, none⟩ → w.heap.size ≤ b) ∧ Below w.heap.size w w' := by
  obtain ⟨Ak, ck, rfl, hck, hmk⟩ := hi.1.open'
  obtain ⟨Ab, cb, rfl, hcb, hmb⟩ := hi.2.1.open'
  obtain ⟨As, cs, rfl, hcs, hms⟩ := hi.2.2.1.open'
  have HBK := hide (fun (W : World) (hW : Below w.heap.size w W) => hi.2.2.1.keep (up hW hB) (fun _ h => h))
  by_cases hin : inB 0 ((f.blocks.length : Int) - 1) z = true
  case neg =>
    have hin' := Bool.eq_false_iff.2 hin
    rw [nxtI_out hin']
    obtain ⟨ls, hls⟩ : ∃ ls, f.blocks.length = ls := ⟨_, rfl⟩
    rw [hls] at hin ⊢
    have hin3 : z < 0 ∨ (0 ≤ z ∧ (ls : Int) ≤ z) := by
      apply Classical.byContradiction; intro hc
      exact hin (inB_iff.2 (by omega))
    generalize f.kinds.length = lk, f.base.length = lb, f.params = fp, f.result = fr at *
    clear hin hin' hi hls hcs hck hcb
    rcases hin3 with h0 | ⟨h0, h1⟩
    · go_enter Try.func49, Try.ntmps49
      go_wp2
      go_ret
      exact ⟨none, 0, rfl, Sl.nil _ _ _ _, Nat.le_refl _, by omega, fun b o h => (by cases h), alloc1 w _⟩
    · have h2 : decide (z < 0) = false := by simp; omega
      have h3 : decide ((ls : Int) ≤ z) = true := by simpa using h1
      go_enter Try.func49, Try.ntmps49
      go_wp2
      go_ret
      exact ⟨none, 0, rfl, Sl.nil _ _ _ _, Nat.le_refl _, by omega, fun b o h => (by cases h), alloc1 w _⟩
  have hin2 := inB_iff.1 hin
  obtain ⟨k, hk⟩ : ∃ k : Nat, z = k := ⟨z.toNat, by omega⟩
  subst hk
  obtain ⟨ls, hls⟩ : ∃ ls, f.blocks.length = ls := ⟨_, rfl⟩
  obtain ⟨x, hx⟩ : ∃ x, f.blocks[k]? = some x := ⟨_, List.getElem?_eq_getElem (by omega)⟩
  rw [nxtI_nat (by omega)]
  have hxm := hok.2.1 x (List.mem_of_getElem? hx)
  have HNR := hide (nxt_R hok k)
  have HNI := hide (show ∀ v ∈ nxt f k, inB 0 ((f.blocks.length : Int) - 1) v = true from fun v hv => by have := hok.2.2 k v hv; rw [inB_iff]; omega)
  have hlen := nxt_len f k
  have HX := hide hx
  have HNM := hide (fun (mp : Nat) (u : InsV) (h1 : x.length = mp + 1) (h2 : x[mp]? = some u) => nxt_last hx h1 h2)
  have HN0 := hide (fun (h1 : x.length = 0) => nxt_none hx h1)
  rw [hls] at hin hin2 HNI HBK hcs ⊢
  obtain ⟨nx, hnx⟩ : ∃ nx, nxt f k = nx := ⟨_, rfl⟩
  rw [hnx] at HNR HNI HNM HN0 hlen ⊢
  obtain ⟨nl, hnl'⟩ : ∃ nl, nx.length = nl := ⟨_, rfl⟩
  have HNL := hide hnl'
  rw [hnl'] at hlen ⊢
  clear hnl'
  generalize f.kinds.length = lk, f.base.length = lb, f.params = fp, f.result = fr at *
  have hkl : k < ls := by omega
  have hk0 : ¬ (k : Int) < 0 := by omega
  have hk1 : ¬ ls ≤ k := by omega
  clear hin hin2 hi hls hnx hx hok hck hcb
  go_enter Try.func49, Try.ntmps49
  go_upto_region 1 with (fail)
  obtain ⟨w1, hw1⟩ : ∃ w1, w1 = w.alloc (.cells #[.slice Ak lk ck, .slice Ab lb cb, .int .i64 fp, .int .i64 fr, .slice As ls cs] 30) := ⟨_, rfl⟩
  have HX1 := hide (show Box w1 w.heap.size #[.slice Ak lk ck, .slice Ab lb cb, .int .i64 fp, .int .i64 fr, .slice As ls cs] 30 by rw [hw1]; exact Box.new w _ _)
  have HB1 := hide (show Below w.heap.size w w1 by rw [hw1]; exact alloc1 w _)
  rw [← hw1]
  clear hw1
  have l1 := HX1.out.lt
  have c0 := (HX1.out.cell 0 (v := .slice Ak lk ck) rfl).1
  have c1 := (HX1.out.cell 1 (v := .slice Ab lb cb) rfl).1
  have c2 := (HX1.out.cell 2 (v := .int .i64 fp) rfl).1
  have c3 := (HX1.out.cell 3 (v := .int .i64 fr) rfl).1
  have c4 := (HX1.out.cell 4 (v := .slice As ls cs) rfl).1
  have hki : (0 : Int) ≤ (k : Int) := by omega
  have hkli : (k : Int) < (ls : Int) := by omega
  obtain ⟨m, hm⟩ : ∃ m, x.length = m := ⟨_, rfl⟩
  rw [hm] at HNM HN0 hxm
  by_cases hm0 : m = 0
  · obtain ⟨b1, o1, A1, c1', hA1, hbb1, g0, -⟩ := (HBK.out w1 HB1.out).get HX.out
    rw [hm] at g0
    have hbs : b1 < w1.heap.size := by have := HB1.out.size; omega
    have HNIL := hide (HN0.out hm0)
    have HZ := hide (show nl = 0 by rw [← HNL.out, HNIL.out]; rfl)
    subst hA1
    subst hm0
    clear hm HN0 HNM
    go_wp2
    go_ret
    exact ⟨none, 0, by rw [HZ.out]; rfl, by rw [HNIL.out]; exact Sl.nil _ _ _ _, by rw [HZ.out]; exact Nat.le_refl _, by omega, fun b o h => (by cases h), HB1.out⟩
  obtain ⟨mp, hmp⟩ : ∃ mp, m = mp + 1 := ⟨m - 1, by omega⟩
  obtain ⟨u, hu⟩ : ∃ u, x[mp]? = some u := ⟨_, List.getElem?_eq_getElem (by omega)⟩
  have HXI := hide (fun (W : World) (hW : Below w.heap.size w W) => (HBK.out W hW).get HX.out)
  obtain ⟨b1, o1, A1, c1', hA1, hbb1, g0, hx1⟩ := HXI.out w1 HB1.out
  obtain ⟨b2, o2, A2, c2', hA2, hbb2, ⟨i0, i1, i2, i3, i4, i5, i6⟩, -⟩ := hx1.get hu
  rw [hm] at g0
  have hnl := HNM.out mp u hmp hu
  have hbs1 : b1 < w1.heap.size := by have := HB1.out.size; omega
  have hbs2 : b2 < w1.heap.size := by have := HB1.out.size; omega
  have HNX := hide (fun (W : World) => nextN4_any u A2 u.args.length c2' W)
  rw [← hnl] at HNX
  subst hA1
  subst hA2
  have hd1 : ((m : Int) == 0) = false := by simp; omega
  have hwr : IntKind.i64.wrap ((m : Int) - 1) = (mp : Int) := by rw [show (m : Int) - 1 = (mp : Int) by omega]; exact IntWalk.i64_in _ ⟨by omega, by omega⟩
  have hmm : mp < m := by omega
  have hmi : (0 : Int) ≤ (mp : Int) := by omega
  have hml : (mp : Int) < (m : Int) := by omega
  rw [HNL.out] at HNX
  generalize u.args.length = la at *
  generalize u.op = xop, u.d = xd, u.a = xa, u.b = xb, u.n = xn, u.m = xm at *
  clear hx1 hu hnl hm hmp hm0
  go_wp2_with (go_at_call 63; refine (HNX.out w1).mono ?_; rintro e w3 ⟨A3, c3, rfl, hs3, hl3, hm3, hn3, hb3⟩)
  go_ret
  exact ⟨A3, c3, rfl, hs3, hl3, hm3, fun b o h => Nat.le_trans HB1.out.size (hn3 b o h), HB1.out.trans (hb3.mono HB1.out.size)⟩
end Go.Proofs.Ytkpikgakphdjjaa
