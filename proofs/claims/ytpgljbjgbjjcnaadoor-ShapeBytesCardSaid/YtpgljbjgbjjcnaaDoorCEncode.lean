/- The contract of Encode. Condition: the table of parts reads as listed. -/
import Derived.Test.YtpgljbjgbjjcnaaDoorCEnc
import Derived.Deep.RegionHeld3
set_option linter.unusedSimpArgs false
set_option linter.unusedVariables false
namespace Go.Proofs.YtpgljbjgbjjcnaaDoor
open Go.RowKit

theorem Wrote.out {w w1 : World} {g base : Nat} {zs : List Int} (h : Wrote w g base zs w1) : ∃ A c, Box w1 g #[.slice A zs.length c] 62 ∧ Sl w1 w1.heap.size .u8 A zs ∧ zs.length ≤ c ∧ c ≤ 9223372036854775807 := by
  obtain ⟨v, hb, ho, -⟩ := h.ws
  obtain ⟨A, c, rfl, h1, h2, h3⟩ := ho.sl
  exact ⟨A, c, hb, h3, h1, by simp only [maxLen] at h2; omega⟩

set_option maxHeartbeats 400000 in
set_option maxRecDepth 100000 in
theorem encode_any (vp : Value) (p : List FunV) (w : World) (B : Nat) (hB : B ≤ w.heap.size) (hT : TabP w) (hp : FunsV w (· < B) vp p) :
    Calls Tryd.prog 15 #[.agg #[vp]] w (EncA w p) := by
  have hR := hp.range
  have hLm := fun (q : Nat) => limits_any ((w.alloc (.cells #[vp] 24)).drewN q)
  have hLp := fun (W : World) (hW : Below w.heap.size w W) (l0 l1 l2 l3 l4 : Value) (hL : LimsC W (· < W.heap.size) l0 l1 l2 l3 l4) => lprog_any l0 l1 l2 l3 l4 vp p W W.heap.size (Nat.le_refl _) hL (hp.keep (up hW hB) (fun b h => by have := hW.size; omega))
  obtain ⟨A, c, rfl, hpc, hpm⟩ := hp.open'
  obtain ⟨n, hn⟩ : ∃ n, p.length = n := ⟨_, rfl⟩
  rw [hn] at hp hpc hLm hLp ⊢
  have HN := hide hn
  have HP := hide hp
  have HR := hide hR
  have HLm := hide hLm
  have HT := hide hT
  by_cases hc : cntB p = true
  · rw [hc] at hLp
    have HLp := hide hLp
    have HC := hide hc
    clear hLm hLp hc hn hp hR hT
    go_enter Tryd.func15, Tryd.ntmps15
    go_wp2_with fail
    go_region_held3 (fun w' => w'.cell? ⟨w.heap.size, 0, none⟩ = some (.slice A n c)) (first | go_keep | (exact (hb1.cell (p := ⟨w.heap.size, 0, none⟩) (by simp)).trans (by simp)) | (exact (hb2.cell (p := ⟨w.heap.size, 0, none⟩) (by show w.heap.size < _; omega)).trans hcell1))
      (first
        | (go_at_call 40; refine (HLm.out 1).mono ?_; rintro e w1 ⟨l0, l1, l2, l3, l4, rfl, hl, hb1⟩; have hcell1 := (hb1.cell (p := ⟨w.heap.size, 0, none⟩) (by simp)).trans (show _ = some (Value.slice A n c) by simp); have hz1 := hb1.size; simp at hz1)
        | (go_at_call 41; refine (HLp.out _ ((below_drewN (alloc1 w _) 1).trans (hb1.mono (by simp))) _ _ _ _ _ hl).mono ?_; rintro e w2 ⟨rfl, hb2⟩; have hz2 := hb2.size))
    have hbw2 : Below w.heap.size w w2 := ((below_drewN (alloc1 w _) 1).trans (hb1.mono (by simp))).trans (hb2.mono (by omega))
    have x0 : w2.cell? ⟨w.heap.size, 0, none⟩ = some (.slice A n c) := by assumption
    have x1 : w.heap.size < w2.heap.size := by omega
    clear hl hb1 hcell1 hz1 hz2 hb2
    go_wp2
    go_loopw [14] (fun i wr => ∃ k : Nat, k ≤ n ∧ i = .int .i64 k ∧ Below w.heap.size w wr ∧ w.heap.size < wr.heap.size ∧ wr.cell? ⟨w.heap.size, 0, none⟩ = some (.slice A n c) ∧ Hid ((p.take k).all funMayB = true)) (fun i _ => n - (intOf i).toNat)
    case atStart => exact ⟨0, Nat.zero_le _, rfl, hbw2, x1, x0, hide (by simp)⟩
    case round =>
      obtain ⟨k, hk, rfl, hb, hs1, hx0, hall⟩ := hrel
      by_cases hlt : k < n
      · obtain ⟨y, hy⟩ : ∃ y, p[k]? = some y := ⟨_, List.getElem?_eq_getElem (by have := HN.out; omega)⟩
        obtain ⟨b, o, Ak, ck, Ab, cb, As, cs, rfl, hbb, ⟨e0, e1, e2, e3, e4⟩, hi⟩ := (HP.out.keep (up hb hB) (fun _ h => h)).get hy
        have hbs : b < wr.heap.size := by omega
        have HY := hide hy
        have hC := fun (W : World) (hW : Below wr.heap.size wr W) => funcMay_any (.slice Ak y.kinds.length ck) (.slice Ab y.base.length cb) (.slice As y.blocks.length cs) y W B (by have := hW.size; omega) ((HT.out.below hb HT.out.1).below hW (by omega)) (hi.keep (up hW (by omega)) (fun _ h => h))
        generalize y.kinds.length = lk at *
        generalize y.base.length = lb at *
        generalize y.blocks.length = ls at *
        by_cases hp0 : funMayB y = true
        · have hp := hide hp0
          rw [hp0] at hC
          have HC2 := hide hC
          clear hp0 hC hy hi
          go_wp2_with (go_at_call 42; refine (HC2.out _ (alloc1 wr _)).mono ?_; rintro e w3 ⟨rfl, hb3⟩)
          have hb4 := (alloc1 wr (.cells #[.slice Ak lk ck, .slice Ab lb cb, .int .i64 y.params, .int .i64 y.result, .slice As ls cs] 44)).trans (hb3.mono (by simp))
          go_roundw
          case rel => exact ⟨k + 1, by omega, by go_num, hb.trans (hb4.mono (by omega)), by have := hb4.size; omega, (hb4.cell (p := ⟨w.heap.size, 0, none⟩) hs1).trans hx0, hide (allB_take hall.out HY.out hp.out)⟩
          case measure => simp [intOf]; omega
        · have hpf := Bool.eq_false_iff.2 hp0
          have hv := hide (show encR p = ([], 1) by unfold encR; rw [HC.out, allB_not HY.out hpf]; rfl)
          rw [hpf] at hC
          have HC2 := hide hC
          clear hp0 hC hy hi hpf
          go_wp2_with (go_at_call 42; refine (HC2.out _ (alloc1 wr _)).mono ?_; rintro e w3 ⟨rfl, hb3⟩)
          have hb4 := (alloc1 wr (.cells #[.slice Ak lk ck, .slice Ab lb cb, .int .i64 y.params, .int .i64 y.result, .slice As ls cs] 44)).trans (hb3.mono (by simp))
          go_ret2
          exact EncA.no hv.out (hb.trans (hb4.mono (by omega)))
      · have hmay := allB_end hall.out HN.out (by omega)
        have hfew := may_few HC.out hmay
        have hlen := encProg_len HR.out hfew.2 hfew.1
        have hv := hide (show encR p = (encProg p, 0) by unfold encR; rw [HC.out, hmay]; rfl)
        have hws : WS (wr.alloc (.cells #[.slice none 0 0] 62)) wr.heap.size wr.heap.size [] := ⟨_, Box.new wr _ _, Ow.nil _ _ _ _, Nat.le_refl _⟩
        have HWP := hide (wprog_any (.slice A n c) p wr.heap.size wr.heap.size [] _ B (by have := hb.size; omega) (by omega) (by simp) hws ((HT.out.below hb HT.out.1).below (alloc1 wr _) (by omega)) ((HP.out.keep (up hb hB) (fun _ h => h)).keep (fun b o hb' => World.cell?_alloc_lt _ _ _ (by show b < _; have := hb.size; omega)) (fun _ h => h)) hfew.2 (by simp; omega))
        have HLen := hide hlen
        clear hmay hfew hlen hws
        go_wp2_with (go_at_call 43; refine HWP.out.mono ?_; rintro e w3 ⟨rfl, hw3⟩; rw [List.nil_append] at hw3; obtain ⟨A3, c3, hb3, hs3, hl3, hm3⟩ := hw3.out; have y0 := (hb3.cell 0 (v := .slice A3 (encProg p).length c3) rfl).1; have y1 := hb3.lt; have HW3 := hide hw3.below; have HS3 := hide hs3; clear hw3 hb3 hs3)
        go_ret2
        have h1 := hv.out
        refine ⟨A3, c3, by rw [h1]; rfl, by rw [h1]; exact HS3.out, by rw [h1]; exact hl3, hm3, by rw [h1]; exact Nat.le_trans HLen.out (by omega), hb.trans (((alloc1 wr _).trans HW3.out).mono (by omega))⟩
  · have hcf := Bool.eq_false_iff.2 hc
    rw [hcf] at hLp
    have hv := hide (show encR p = ([], 9) by unfold encR; rw [if_neg hc])
    have HLp := hide hLp
    clear hLm hLp hc hcf hn hp hR hT
    go_enter Tryd.func15, Tryd.ntmps15
    go_wp2_with fail
    go_region_held3 (fun w' => w'.cell? ⟨w.heap.size, 0, none⟩ = some (.slice A n c)) (first | go_keep | (exact (hb1.cell (p := ⟨w.heap.size, 0, none⟩) (by simp)).trans (by simp)) | (exact (hb2.cell (p := ⟨w.heap.size, 0, none⟩) (by show w.heap.size < _; omega)).trans hcell1))
      (first
        | (go_at_call 40; refine (HLm.out 1).mono ?_; rintro e w1 ⟨l0, l1, l2, l3, l4, rfl, hl, hb1⟩; have hcell1 := (hb1.cell (p := ⟨w.heap.size, 0, none⟩) (by simp)).trans (show _ = some (Value.slice A n c) by simp); have hz1 := hb1.size; simp at hz1)
        | (go_at_call 41; refine (HLp.out _ ((below_drewN (alloc1 w _) 1).trans (hb1.mono (by simp))) _ _ _ _ _ hl).mono ?_; rintro e w2 ⟨rfl, hb2⟩; have hz2 := hb2.size))
    have hbw2 : Below w.heap.size w w2 := ((below_drewN (alloc1 w _) 1).trans (hb1.mono (by simp))).trans (hb2.mono (by omega))
    go_wp2
    go_ret2
    exact EncA.no hv.out hbw2
end Go.Proofs.YtpgljbjgbjjcnaaDoor
