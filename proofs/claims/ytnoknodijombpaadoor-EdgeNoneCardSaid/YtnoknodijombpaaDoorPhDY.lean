/- The statement EdgeNone: where a block that is new leads to. Condition: no block is empty. -/
import Derived.Test.YtnoknodijombpaaDoorPhDS
import Derived.Test.YtnoknodijombpaaDoorPhDM
import Derived.Deep.RegionHeld3
import Derived.Deep.RegionWith
import Derived.BigRegion
set_option linter.unusedSimpArgs false
set_option linter.unusedVariables false
namespace Go.Proofs.YtnoknodijombpaaDoor
open Go.RowKit

def thrN (g : FunV) (b : Int) (old : Nat) : Int := if (old : Int) ≤ b ∧ b < (g.blocks.length : Int) then (match g.blocks.getD b.toNat [] with | x :: _ => x.n | [] => b) else b
theorem thr_tgt {f : FunV} (hok : FlowOk f) {b : Nat} {t : Int} (ht : (0 ≤ t ∧ t < (f.blocks.length : Int)) ∨ ((b : Int), t) ∈ critN f) : thrN (splitF f) (tgt f.blocks.length (critN f) b t) f.blocks.length = t := by
  by_cases hc : ((b : Int), t) ∈ critN f
  · have hlt := List.idxOf_lt_length_of_mem hc
    have hg : (critN f)[(critN f).idxOf ((b : Int), t)]? = some ((b : Int), t) := by rw [List.getElem?_eq_getElem hlt, List.getElem_idxOf hlt]
    have hb := split_new hok hg
    rw [tgt_in hc]
    unfold thrN
    rw [if_pos ⟨by omega, by rw [split_len hok]; omega⟩, Int.toNat_natCast, List.getD_eq_getElem?_getD, hb]
    rfl
  · rw [tgt_not hc]
    unfold thrN
    rw [if_neg]
    rcases ht with ht | ht
    · omega
    · exact absurd ht hc
theorem thr_no {g : FunV} {b : Int} {old : Nat} (h : ¬ ((old : Int) ≤ b ∧ b < (g.blocks.length : Int))) : thrN g b old = b := by unfold thrN; rw [if_neg h]
theorem thr_yes {g : FunV} {j old : Nat} {x : InsV} {r : List InsV} (h1 : old ≤ j) (h2 : g.blocks[j]? = some (x :: r)) : thrN g (j : Int) old = x.n := by
  have hj := (List.getElem?_eq_some_iff.1 h2).1
  unfold thrN
  rw [if_pos ⟨by omega, by omega⟩, Int.toNat_natCast, List.getD_eq_getElem?_getD, h2]
  rfl
set_option maxHeartbeats 2000000 in
set_option maxRecDepth 100000 in
theorem through_any (vk vb vs : Value) (f : FunV) (b : Int) (old : Nat) (w : World) (B : Nat) (hB : B ≤ w.heap.size) (hi : FunI w (· < B) vk vb vs f) (hne : ∀ l ∈ f.blocks, 1 ≤ l.length) :
    Calls Tryd.prog 9 #[.agg #[vk, vb, .int .i64 f.params, .int .i64 f.result, vs], .int .i64 b, .int .i64 (old : Int)] w fun e w' => e = .returned (.int .i64 (thrN f b old)) ∧ Below w.heap.size w w' := by
  obtain ⟨Ak, ck, rfl, -, -⟩ := hi.1.open'
  obtain ⟨Ab, cb, rfl, -, -⟩ := hi.2.1.open'
  obtain ⟨As, cs, rfl, hcs, -⟩ := hi.2.2.1.open'
  have HBK := hide (fun (W : World) (hW : Below w.heap.size w W) => (hi.keep (up hW hB) (fun _ h => h) : FunI W (· < B) _ _ _ f).2.2.1)
  have HNE := hide hne
  have HNO := hide (fun (h : ¬ ((old : Int) ≤ b ∧ b < (f.blocks.length : Int))) => thr_no h)
  have HYE := hide (fun (j : Nat) (x : InsV) (r : List InsV) (h1 : old ≤ j) (h2 : f.blocks[j]? = some (x :: r)) => thr_yes h1 h2)
  obtain ⟨ls, hls⟩ : ∃ ls, f.blocks.length = ls := ⟨_, rfl⟩
  have HLS := hide hls
  rw [hls] at HBK HNO hcs ⊢
  obtain ⟨tv, htv⟩ : ∃ tv, thrN f b old = tv := ⟨_, rfl⟩
  rw [htv] at HNO ⊢
  have HTV := hide htv
  generalize f.kinds.length = lk, f.base.length = lb, f.params = fp, f.result = fr at *
  clear hi hne hls htv
  go_enter Tryd.func9, Tryd.ntmps9
  go_upto_region 1 with (fail)
  obtain ⟨w1, hw1⟩ : ∃ w1, w1 = w.alloc (.cells #[.slice Ak lk ck, .slice Ab lb cb, .int .i64 fp, .int .i64 fr, .slice As ls cs] 34) := ⟨_, rfl⟩
  obtain ⟨h1, hh1⟩ : ∃ h1, w.heap.size = h1 := ⟨_, rfl⟩
  have HX1 := hide (show Box w1 h1 #[.slice Ak lk ck, .slice Ab lb cb, .int .i64 fp, .int .i64 fr, .slice As ls cs] 34 by rw [hw1, ← hh1]; exact Box.new w _ _)
  have HB1 := hide (show Below w.heap.size w w1 by rw [hw1]; exact alloc1 w _)
  rw [← hw1, hh1]
  have HH1 := hide hh1
  clear hw1 hh1
  have l1 := HX1.out.lt
  have x4 := (HX1.out.cell 4 (v := .slice As ls cs) rfl).1
  have HBE := hide (show Below w.heap.size w w1 from HB1.out)
  by_cases h1 : (old : Int) ≤ b
  · by_cases h2 : b < (ls : Int)
    · obtain ⟨j, rfl⟩ : ∃ j : Nat, b = j := ⟨b.toNat, by omega⟩
      obtain ⟨l, hl⟩ : ∃ l, f.blocks[j]? = some l := ⟨_, List.getElem?_eq_getElem (by have := HLS.out; omega)⟩
      obtain ⟨bB, oB, A1, c1, hA, hbB, d0, hins⟩ := (HBK.out w1 HB1.out).get hl
      subst hA
      have hl1 := HNE.out l (List.mem_of_getElem? hl)
      obtain ⟨x, r, rfl⟩ : ∃ x r, l = x :: r := by cases l with | nil => simp at hl1 | cons x r => exact ⟨x, r, rfl⟩
      obtain ⟨bC, oC, A2, c2, hA1, hbC, ⟨-, -, -, -, e4, -⟩, -⟩ := hins.get (k := 0) rfl
      subst hA1
      have HTX := hide (show tv = x.n by rw [← HTV.out]; exact HYE.out j x r (by omega) hl)
      obtain ⟨nl, hnl⟩ : ∃ nl, (x :: r).length = nl := ⟨_, rfl⟩
      rw [hnl] at d0 hl1
      have hnl0 : (0 : Int) < (nl : Int) := by omega
      have lb1 : bB < w1.heap.size := by have := HB1.out.size; omega
      have lc1 : bC < w1.heap.size := by have := HB1.out.size; omega
      have hj0 : (0 : Int) ≤ (j : Int) := by omega
      obtain ⟨xn, hxn⟩ : ∃ xn, x.n = xn := ⟨_, rfl⟩
      rw [hxn] at e4 HTX
      have h1' : (j : Int) ≥ (old : Int) := h1
      simp only [Nat.zero_mul, Nat.add_zero] at e4
      clear hl hins hnl hxn h1
      go_wp2
      go_ret
      exact ⟨by rw [HTX.out]; rfl, HBE.out⟩
    · have HT := hide (HNO.out (fun h => h2 h.2))
      have h1' : b ≥ (old : Int) := h1
      clear h1
      go_wp2
      go_ret
      exact ⟨by rw [HT.out]; rfl, HBE.out⟩
  · have HT := hide (HNO.out (fun h => h1 h.1))
    have h1' : ¬ b ≥ (old : Int) := h1
    clear h1
    go_wp2
    go_ret
    exact ⟨by rw [HT.out]; rfl, HBE.out⟩
end Go.Proofs.YtnoknodijombpaaDoor
