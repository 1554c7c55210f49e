/- The contract of the reference's Counts. No condition. -/
import Derived.Test.YtpgljbjgbjjcnaaDoorRNum
set_option linter.unusedSimpArgs false
set_option linter.unusedVariables false
namespace Go.Proofs.YtpgljbjgbjjcnaaDoor
open Go.RowKit

theorem funCnt_no {p : List FunV} {k : Nat} {y : FunV} (hy : p[k]? = some y) (h : funCnt y = false) : cntB p = false := by
  unfold cntB; rw [allB_not hy h]; simp
theorem blkCnt_no {y : FunV} {k : Nat} {x : List InsV} (hx : y.blocks[k]? = some x) (h : blkCnt x = false) : funCnt y = false := by
  unfold funCnt; rw [allB_not hx h]; simp
theorem insCnt_no {x : List InsV} {k : Nat} {u : InsV} (hu : x[k]? = some u) (h : insCnt u = false) : blkCnt x = false := by
  unfold blkCnt; rw [allB_not hu h]; simp

set_option maxHeartbeats 1000000 in
set_option maxRecDepth 100000 in
theorem rcounts_any (vp : Value) (p : List FunV) (w : World) (B : Nat) (hB : B ≤ w.heap.size) (hp : FunsV w (· < B) vp p) :
    Calls Tryd.prog 44 #[.agg #[vp]] w fun e w' => e = .returned (.bool (cntB p)) ∧ Below w.heap.size w w' := by
  obtain ⟨A, c, rfl, hpc, hpm⟩ := hp.open'
  obtain ⟨n, hn⟩ : ∃ n, p.length = n := ⟨_, rfl⟩
  rw [hn] at hp hpc ⊢
  have HP := hide hp; have HN := hide hn
  clear hp hn
  by_cases h18 : 1 ≤ n ∧ n ≤ 8
  case neg =>
    have hv := hide (show cntB p = false by
      unfold cntB; rw [HN.out]
      by_cases h1 : 1 ≤ n
      · rw [decide_eq_false (show ¬ n ≤ 8 by omega)]; simp
      · rw [decide_eq_false h1]; simp)
    by_cases h1 : n < 1
    · clear h18
      go_enter Tryd.func44, Tryd.ntmps44
      go_wp2
      go_ret
      exact ⟨ret_bool hv.out.symm, alloc1 w _⟩
    · have h8 : 8 < n := by omega
      clear h18
      go_enter Tryd.func44, Tryd.ntmps44
      go_wp2
      go_ret
      exact ⟨ret_bool hv.out.symm, alloc1 w _⟩
  obtain ⟨h1, h8⟩ := h18
  go_enter Tryd.func44, Tryd.ntmps44
  go_wp2
  go_loopw [3] (fun i wr => ∃ (k : Nat), k ≤ n ∧ i = .int .i64 k ∧ Below w.heap.size w wr ∧ w.heap.size < wr.heap.size ∧ wr.cell? ⟨w.heap.size, 0, none⟩ = some (.slice A n c) ∧ Hid ((p.take k).all funCnt = true)) (fun i _ => n - (intOf i).toNat)
  case atStart => exact ⟨0, Nat.zero_le _, rfl, alloc1 w _, by simp, by simp, hide (by simp)⟩
  case round =>
    obtain ⟨k, hk, rfl, hb, hs, hx, hall⟩ := hrel
    by_cases hlt : k < n
    · obtain ⟨y, hy⟩ : ∃ y, p[k]? = some y := ⟨_, List.getElem?_eq_getElem (by have := HN.out; omega)⟩
      obtain ⟨b, o, Ak, ck, Ab, cb, As, cs, rfl, hbb, ⟨e0, e1, e2, e3, e4⟩, hi⟩ := (HP.out.keep (up hb hB) (fun _ h => h)).get hy
      have hbs : b < wr.heap.size := by omega
      have HY := hide hy
      obtain ⟨-, -, hbl, -, -⟩ := hi
      obtain ⟨As', cs', heq, hl1, hl2⟩ := hbl.open'
      injection heq with hA0 _ hcs
      subst hA0
      subst hcs
      obtain ⟨l, hl⟩ : ∃ l, y.blocks.length = l := ⟨_, rfl⟩
      obtain ⟨lk, hlk⟩ : ∃ lk, y.kinds.length = lk := ⟨_, rfl⟩
      rw [hl] at e4 hbl hl1
      rw [hlk] at e0
      have HBL := hide hbl; have HL := hide hl; have HLK := hide hlk
      obtain ⟨wo, rfl⟩ : ∃ wo, wo = wr := ⟨_, rfl⟩
      generalize y.base.length = lb at *
      clear hy hbl hl hlk
      by_cases hk48 : 48 < lk
      · have hv := hide (funCnt_no HY.out (by unfold funCnt; rw [HLK.out, decide_eq_false (show ¬ lk ≤ 48 by omega)]; simp))
        go_wp2
        go_ret
        exact ⟨ret_bool hv.out.symm, hb.alloc (by omega) _⟩
      by_cases hl40 : 40 < l
      · have hv := hide (funCnt_no HY.out (by unfold funCnt; rw [HL.out, decide_eq_false (show ¬ l ≤ 40 by omega)]; simp))
        go_wp2
        go_ret
        exact ⟨ret_bool hv.out.symm, hb.alloc (by omega) _⟩
      go_wp2
      go_loopw [5] (fun i wr => ∃ (q : Nat), q ≤ l ∧ i = .int .i64 q ∧ Below wo.heap.size wo wr ∧ wo.heap.size < wr.heap.size ∧ wr.cell? ⟨wo.heap.size, 4, none⟩ = some (.slice As l cs) ∧ Hid ((y.blocks.take q).all blkCnt = true)) (fun i _ => l - (intOf i).toNat)
      case atStart => exact ⟨0, Nat.zero_le _, rfl, alloc1 wo _, by simp, by simp, hide (by simp)⟩
      case round =>
        obtain ⟨q, hq, rfl, hb2, hs2, hx2, hall2⟩ := hrel
        by_cases hlq : q < l
        · obtain ⟨x, hxx⟩ : ∃ x, y.blocks[q]? = some x := ⟨_, List.getElem?_eq_getElem (by have := HL.out; omega)⟩
          obtain ⟨b1, o1, A1, c1, rfl, hb1, f0, hx1⟩ := (HBL.out.keep (up hb2 (by omega)) (fun _ h => h)).get hxx
          have hb1s : b1 < wr.heap.size := by omega
          have HX := hide hxx
          obtain ⟨A1', c1', heq1, hm1, hm2⟩ := hx1.open'
          injection heq1 with hA1 _ hcs1
          subst hA1
          subst hcs1
          obtain ⟨m, hm⟩ : ∃ m, x.length = m := ⟨_, rfl⟩
          rw [hm] at f0 hx1 hm1
          have HX1 := hide hx1; have HM := hide hm
          clear hxx hx1 hm
          by_cases hm40 : 40 < m
          · have hv := hide (funCnt_no HY.out (blkCnt_no HX.out (by unfold blkCnt; rw [HM.out, decide_eq_false (show ¬ m ≤ 40 by omega)]; simp)))
            go_wp2
            go_ret
            exact ⟨ret_bool hv.out.symm, hb.trans (hb2.mono (by omega))⟩
          obtain ⟨wi, rfl⟩ : ∃ wi, wi = wr := ⟨_, rfl⟩
          go_wp2
          go_loopw [6] (fun i wr => ∃ (j : Nat), j ≤ m ∧ i = .int .i64 j ∧ Below wi.heap.size wi wr ∧ Hid ((x.take j).all insCnt = true)) (fun i _ => m - (intOf i).toNat)
          case atStart => exact ⟨0, Nat.zero_le _, rfl, Below.refl _ _, hide (by simp)⟩
          case round =>
            obtain ⟨j, hj, rfl, hb3, hall3⟩ := hrel
            have hz3 := hb3.size
            have x4 := (hb3.cell (p := ⟨wo.heap.size, 4, none⟩) hs2).trans hx2
            have f4 := (hb3.cell (p := ⟨b1, o1 + q, none⟩) hb1s).trans f0
            have g1 : wo.heap.size < wr.heap.size := by omega
            have g2 : b1 < wr.heap.size := by omega
            by_cases hlj : j < m
            · obtain ⟨u, hu⟩ : ∃ u, x[j]? = some u := ⟨_, List.getElem?_eq_getElem (by have := HM.out; omega)⟩
              obtain ⟨b2, o2, A2, c2, rfl, hb2', ⟨g10, g11, g12, g13, g14, g15, g16⟩, hui⟩ := (HX1.out.keep (up hb3 (by omega)) (fun _ h => h)).get hu
              have hb2s : b2 < wr.heap.size := by omega
              have HU := hide hu
              obtain ⟨la, hla⟩ : ∃ la, u.args.length = la := ⟨_, rfl⟩
              rw [hla] at g16
              have HLA := hide hla
              clear hu hla hui
              by_cases h19 : u.op = 19
              · rw [h19] at g10
                by_cases hla4 : 4 < la
                · have hv := hide (funCnt_no HY.out (blkCnt_no HX.out (insCnt_no HU.out (by unfold insCnt; rw [HLA.out, h19, decide_eq_false (show ¬ la ≤ 4 by omega)]; simp))))
                  clear h19
                  go_wp2
                  go_ret
                  exact ⟨ret_bool hv.out.symm, hb.trans (((hb2.trans (hb3.mono (by omega))).alloc (by omega) _).mono (by omega))⟩
                · have ht := hide (allB_take hall3.out HU.out (by unfold insCnt; rw [HLA.out, decide_eq_true (show la ≤ 4 by omega)]; simp))
                  clear h19
                  go_wp2
                  go_roundw
                  case rel => exact ⟨j + 1, by omega, by go_num, hb3.alloc (by omega) _, ht⟩
                  case measure => simp [intOf]; omega
              · have ht := hide (allB_take hall3.out HU.out (by unfold insCnt; simp [h19]))
                have hob : (u.op == 19) = false := by simpa using h19
                clear h19
                go_wp2
                go_roundw
                case rel => exact ⟨j + 1, by omega, by go_num, hb3.alloc (by omega) _, ht⟩
                case measure => simp [intOf]; omega
            · have ht := hide (allB_take hall2.out HX.out (by
                unfold blkCnt; rw [HM.out, decide_eq_true (show m ≤ 40 by omega), allB_end hall3.out HM.out (by omega)]; rfl))
              go_wp2
              go_roundw
              case rel => exact ⟨q + 1, by omega, by go_num, hb2.trans (hb3.mono (by omega)), by omega, x4, ht⟩
              case measure => simp [intOf]; omega
        · have ht := hide (allB_take hall.out HY.out (by
            unfold funCnt; rw [HLK.out, HL.out, decide_eq_true (show lk ≤ 48 by omega), decide_eq_true (show l ≤ 40 by omega), allB_end hall2.out HL.out (by omega)]; rfl))
          have y0 := (hb2.cell (p := ⟨w.heap.size, 0, none⟩) hs).trans hx
          go_wp2
          go_roundw
          case rel => exact ⟨k + 1, by omega, by go_num, hb.trans (hb2.mono (by omega)), by omega, y0, ht⟩
          case measure => simp [intOf]; omega
    · have hv := hide (show cntB p = true by
        unfold cntB; rw [HN.out, decide_eq_true h1, decide_eq_true h8, allB_end hall.out HN.out (by omega)]; rfl)
      go_wp2
      go_ret
      exact ⟨ret_bool hv.out.symm, hb⟩
end Go.Proofs.YtpgljbjgbjjcnaaDoor
