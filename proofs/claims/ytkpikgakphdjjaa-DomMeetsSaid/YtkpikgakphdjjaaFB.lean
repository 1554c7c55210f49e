/- The contracts of flow.Next and of the reference's Next of layer 5. Condition: what comes next is there. -/
import Derived.Test.YtkpikgakphdjjaaFA
set_option linter.unusedSimpArgs false
set_option linter.unusedVariables false
namespace Go.Proofs.Ytkpikgakphdjjaa
open Go.RowKit

theorem Sl.vec {w : World} {B c : Nat} {A : Option Addr} {zs : List Int} (h : Sl w B .i64 A zs) (hc : zs.length ≤ c) (hm : c ≤ 9223372036854775807) (hr : ∀ z ∈ zs, i64R z) : IntsV w (· < B) (.slice A zs.length c) zs := by
  refine ⟨A, c, rfl, hc, hm, fun hp => ?_⟩
  obtain ⟨b, o, e2, hb, hcc⟩ := h hp
  refine ⟨b, o, e2, hb, fun j x hj => ⟨?_, hr x (List.mem_of_getElem? hj)⟩⟩
  have := hcc j (List.getElem?_eq_some_iff.1 hj).1
  rw [Nat.mul_one, this]
  simp [List.getD, hj]
theorem nxt_R {f : FunV} (hok : FlowOk f) (k : Nat) : ∀ z ∈ nxt f k, i64R z := fun z hz => by have := hok.2.2 k z hz; have := hok.1; unfold i64R; omega
theorem nxtI_out {f : FunV} {z : Int} (h : inB 0 ((f.blocks.length : Int) - 1) z = false) : nxtI f z = [] := by unfold nxtI; rw [h]; rfl
set_option maxHeartbeats 1000000 in
set_option maxRecDepth 100000 in
theorem fnext_any (vk vb vs : Value) (f : FunV) (z : Int) (w : World) (B : Nat) (hB : B ≤ w.heap.size) (hi : FunI w (· < B) vk vb vs f) (hok : FlowOk f) :
    Calls Try.prog 43 #[.agg #[vk, vb, .int .i64 f.params, .int .i64 f.result, vs], .int .i64 z] w fun e w' => ∃ A c, e = .returned (.slice A (nxtI f z).length c) ∧ Sl w' w'.heap.size .i64 A (nxtI f z) ∧ (nxtI f z).length ≤ c ∧ c ≤ 2 ∧ Below w.heap.size w w' := by
  obtain ⟨Ak, ck, rfl, hck, hmk⟩ := hi.1.open'
  obtain ⟨Ab, cb, rfl, hcb, hmb⟩ := hi.2.1.open'
  obtain ⟨As, cs, rfl, hcs, hms⟩ := hi.2.2.1.open'
  have HBK := hide (fun (W : World) (hW : Below w.heap.size w W) => hi.2.2.1.keep (up hW hB) (fun _ h => h))
  by_cases hin : inB 0 ((f.blocks.length : Int) - 1) z = true
  case neg =>
    have hin' := Bool.eq_false_iff.2 hin
    rw [nxtI_out hin']
    obtain ⟨ls, hls⟩ : ∃ ls, f.blocks.length = ls := ⟨_, rfl⟩
    rw [hls] at hin' ⊢
    generalize f.kinds.length = lk, f.base.length = lb, f.params = fp, f.result = fr at *
    have HT := hide (fun W => (show Calls Try.prog 35 #[.agg #[.slice Ak lk ck, .slice Ab lb cb, .int .i64 fp, .int .i64 fr, .slice As ls cs], .int .i64 z] W fun e w' => e = .returned (.bool false) ∧ Below W.heap.size W w' by have h := there_any z Ak Ab As lk ck lb cb ls cs fp fr W; rw [hin'] at h; exact h))
    clear hin hin' hi hls hcs hck hcb
    go_enter Try.func43, Try.ntmps43
    go_wp2_with (go_at_call 35; refine (HT.out _).mono ?_; rintro e w1 ⟨rfl, hb1⟩)
    go_ret
    exact ⟨none, 0, rfl, Sl.nil _ _ _ _, Nat.le_refl _, by omega, (alloc1 w _).trans (hb1.mono (by simp))⟩
  have hin2 := inB_iff.1 hin
  obtain ⟨k, hk⟩ : ∃ k : Nat, z = k := ⟨z.toNat, by omega⟩
  subst hk
  obtain ⟨ls, hls⟩ : ∃ ls, f.blocks.length = ls := ⟨_, rfl⟩
  obtain ⟨x, hx⟩ : ∃ x, f.blocks[k]? = some x := ⟨_, List.getElem?_eq_getElem (by omega)⟩
  rw [nxtI_nat (by omega)]
  have hxm := hok.2.1 x (List.mem_of_getElem? hx)
  have HNR := hide (nxt_R hok k)
  have HNI := hide (show ∀ v ∈ nxt f k, inB 0 ((f.blocks.length : Int) - 1) v = true from fun v hv => by have := hok.2.2 k v hv; rw [inB_iff]; omega)
  have hlen := nxt_len f k
  have HX := hide hx
  have HNM := hide (fun (mp : Nat) (u : InsV) (h1 : x.length = mp + 1) (h2 : x[mp]? = some u) => nxt_last hx h1 h2)
  have HN0 := hide (fun (h1 : x.length = 0) => nxt_none hx h1)
  rw [hls] at hin hin2 HNI HBK hcs ⊢
  obtain ⟨nx, hnx⟩ : ∃ nx, nxt f k = nx := ⟨_, rfl⟩
  rw [hnx] at HNR HNI HNM HN0 hlen ⊢
  obtain ⟨nl, hnl'⟩ : ∃ nl, nx.length = nl := ⟨_, rfl⟩
  have HNL := hide hnl'
  rw [hnl'] at hlen ⊢
  clear hnl'
  generalize f.kinds.length = lk, f.base.length = lb, f.params = fp, f.result = fr at *
  have HT := hide (fun W => (show Calls Try.prog 35 #[.agg #[.slice Ak lk ck, .slice Ab lb cb, .int .i64 fp, .int .i64 fr, .slice As ls cs], .int .i64 (k : Int)] W fun e w' => e = .returned (.bool true) ∧ Below W.heap.size W w' by have h := there_any (k : Int) Ak Ab As lk ck lb cb ls cs fp fr W; rw [hin] at h; exact h))
  have hkl : k < ls := by omega
  clear hin hin2 hi hls hnx hx hok hck hcb
  go_enter Try.func43, Try.ntmps43
  go_upto_region 1 with (fail)
  obtain ⟨w1, hw1⟩ : ∃ w1, w1 = w.alloc (.cells #[.slice Ak lk ck, .slice Ab lb cb, .int .i64 fp, .int .i64 fr, .slice As ls cs] 30) := ⟨_, rfl⟩
  have HX1 := hide (show Box w1 w.heap.size #[.slice Ak lk ck, .slice Ab lb cb, .int .i64 fp, .int .i64 fr, .slice As ls cs] 30 by rw [hw1]; exact Box.new w _ _)
  have HB1 := hide (show Below w.heap.size w w1 by rw [hw1]; exact alloc1 w _)
  rw [← hw1]
  clear hw1
  have l1 := HX1.out.lt
  have c0 := (HX1.out.cell 0 (v := .slice Ak lk ck) rfl).1
  have c1 := (HX1.out.cell 1 (v := .slice Ab lb cb) rfl).1
  have c2 := (HX1.out.cell 2 (v := .int .i64 fp) rfl).1
  have c3 := (HX1.out.cell 3 (v := .int .i64 fr) rfl).1
  have c4 := (HX1.out.cell 4 (v := .slice As ls cs) rfl).1
  have hki : (0 : Int) ≤ (k : Int) := by omega
  have hkli : (k : Int) < (ls : Int) := by omega
  obtain ⟨m, hm⟩ : ∃ m, x.length = m := ⟨_, rfl⟩
  rw [hm] at HNM HN0 hxm
  by_cases hm0 : m = 0
  · obtain ⟨b1, o1, A1, c1', hA1, hbb1, g0, -⟩ := (HBK.out w1 HB1.out).get HX.out
    rw [hm] at g0
    have hbs : b1 < w1.heap.size := by have := HB1.out.size; omega
    have hnil := HN0.out hm0
    subst hA1
    subst hm0
    subst hnil
    have hnl0 : nl = 0 := by have := HNL.out; simpa using this.symm
    subst hnl0
    clear hm
    go_wp2_with (go_at_call 35; refine (HT.out w1).mono ?_; rintro e w2 ⟨rfl, hb2⟩; have y4 := (hb2.cell (p := ⟨w.heap.size, 4, none⟩) l1).trans c4; have z0 := (hb2.cell (p := ⟨b1, o1 + k, none⟩) hbs).trans g0)
    go_ret
    exact ⟨none, 0, rfl, Sl.nil _ _ _ _, Nat.le_refl _, by omega, HB1.out.trans (hb2.mono HB1.out.size)⟩
  obtain ⟨mp, hmp⟩ : ∃ mp, m = mp + 1 := ⟨m - 1, by omega⟩
  obtain ⟨u, hu⟩ : ∃ u, x[mp]? = some u := ⟨_, List.getElem?_eq_getElem (by omega)⟩
  have HXI := hide (fun (W : World) (hW : Below w.heap.size w W) => (HBK.out W hW).get HX.out)
  obtain ⟨b1, o1, A1, c1', hA1, hbb1, g0, hx1⟩ := HXI.out w1 HB1.out
  obtain ⟨b2, o2, A2, c2', hA2, hbb2, ⟨i0, i1, i2, i3, i4, i5, i6⟩, -⟩ := hx1.get hu
  rw [hm] at g0
  have hnl := HNM.out mp u hmp hu
  have hbs1 : b1 < w1.heap.size := by have := HB1.out.size; omega
  have hbs2 : b2 < w1.heap.size := by have := HB1.out.size; omega
  have HNX := hide (fun (W : World) => next_any u A2 u.args.length c2' W)
  rw [← hnl] at HNX
  subst hA1
  subst hA2
  have hd1 : ((m : Int) == 0) = false := by simp; omega
  have hwr : IntKind.i64.wrap ((m : Int) - 1) = (mp : Int) := by rw [show (m : Int) - 1 = (mp : Int) by omega]; exact IntWalk.i64_in _ ⟨by omega, by omega⟩
  have hmm : mp < m := by omega
  have hmi : (0 : Int) ≤ (mp : Int) := by omega
  have hml : (mp : Int) < (m : Int) := by omega
  have HI7 := hide (fun (W : World) (hW : Below w1.heap.size w1 W) => And.intro ((hW.cell (p := ⟨b2, o2 + mp * 7, none⟩) hbs2).trans i0) (And.intro ((hW.cell (p := ⟨b2, o2 + mp * 7 + 1, none⟩) hbs2).trans i1) (And.intro ((hW.cell (p := ⟨b2, o2 + mp * 7 + 2, none⟩) hbs2).trans i2) (And.intro ((hW.cell (p := ⟨b2, o2 + mp * 7 + 3, none⟩) hbs2).trans i3) (And.intro ((hW.cell (p := ⟨b2, o2 + mp * 7 + 4, none⟩) hbs2).trans i4) (And.intro ((hW.cell (p := ⟨b2, o2 + mp * 7 + 5, none⟩) hbs2).trans i5) ((hW.cell (p := ⟨b2, o2 + mp * 7 + 6, none⟩) hbs2).trans i6)))))))
  rw [HNL.out] at HNX
  generalize u.args.length = la at *
  generalize u.op = xop, u.d = xd, u.a = xa, u.b = xb, u.n = xn, u.m = xm at *
  clear hx1 hu hnl hm hmp i0 i1 i2 i3 i4 i5 i6 hm0
  go_upto_region 3 with (go_at_call 35; refine (HT.out w1).mono ?_; rintro e w2 ⟨rfl, hb2⟩; have y4 := (hb2.cell (p := ⟨w.heap.size, 4, none⟩) l1).trans c4; have z0 := (hb2.cell (p := ⟨b1, o1 + k, none⟩) hbs1).trans g0)
  obtain ⟨i0, i1, i2, i3, i4, i5, i6⟩ := HI7.out w2 hb2
  have hz2 := hb2.size
  have hbs1' : b1 < w2.heap.size := by omega
  have hbs2' : b2 < w2.heap.size := by omega
  have l2 : w.heap.size < w2.heap.size := by omega
  have HB2 := hide (HB1.out.trans (hb2.mono HB1.out.size))
  have HX2 := hide (HX1.out.below hb2)
  clear hb2 c0 c1 c2 c3 c4 g0
  go_wp2_with (first
    | (go_at_call 56; refine (HD3.out).mono ?_; rintro e w4 ⟨rfl, hb4⟩)
    | (go_at_call 57; refine (HNX.out w2).mono ?_; rintro e w3 ⟨A3, c3, rfl, hs3, hl3, hm3, hb3⟩; have HD3 := hide (delFunc_next nx (.slice A3 nl c3) w.heap.size ls w3 w3.heap.size (Nat.le_refl _) (by rw [← HNL.out]; exact hs3.vec (by rw [HNL.out]; exact hl3) (by omega) HNR.out) ⟨_, _, _, _, _, _, _, _, _, _, HX2.out.below hb3⟩ HNI.out); have HB3 := hide (HB2.out.trans (hb3.mono HB2.out.size)); have HS3 := hide hs3; clear hb3 hs3))
  go_ret
  exact ⟨A3, c3, rfl, (HS3.out.below hb4).more hb4.size, hl3, hm3, HB3.out.trans (hb4.mono HB3.out.size)⟩
end Go.Proofs.Ytkpikgakphdjjaa
