/- The contracts of flow.Edges and of the reference's Edges. Condition: what comes next is there. -/
import Derived.Test.YtpggjolbohffjaaFR
set_option linter.unusedSimpArgs false
set_option linter.unusedVariables false
namespace Go.Proofs.Ytpggjolbohffjaa
open Go.RowKit

theorem Sl.far {w w' : World} {B : Nat} {k : IntKind} {A : Option Addr} {zs : List Int} {own : Option Nat} (h : Sl w B k A zs) (hf : ∀ b o, A = some ⟨b, o, none⟩ → some b ≠ own) (hk : ∀ p : Addr, p.block < B → some p.block ≠ own → w'.cell? p = w.cell? p) : Sl w' B k A zs := fun hp => by
  obtain ⟨b, o, e, hb, hc⟩ := h hp
  exact ⟨b, o, e, hb, fun j hj => (hk _ hb (hf b o e)).trans (hc j hj)⟩
theorem OwE.lt {w : World} {base : Nat} {v : Value} {es : List (Int × Int)} (h : OwE w base v es) : ∀ k, v.ownBlock = some k → k < w.heap.size := fun k hk => (World.ownsRow.lt h k hk).2
set_option maxHeartbeats 1000000 in
set_option maxRecDepth 100000 in
theorem fedges_any (vk vb vs : Value) (f : FunV) (w : World) (B : Nat) (hB : B ≤ w.heap.size) (hi : FunI w (· < B) vk vb vs f) (hok : FlowOk f) :
    Calls Try.prog 16 #[.agg #[vk, vb, .int .i64 f.params, .int .i64 f.result, vs]] w fun e w' => ∃ v, e = .returned v ∧ OwE w' w.heap.size v (edgesN f) ∧ Below w.heap.size w w' := by
  obtain ⟨Ak, ck, rfl, hck, hmk⟩ := hi.1.open'
  obtain ⟨Ab, cb, rfl, hcb, hmb⟩ := hi.2.1.open'
  obtain ⟨As, cs, rfl, hcs, hms⟩ := hi.2.2.1.open'
  obtain ⟨i0, hi0, iz0, iz1, iz2⟩ := info_parts info_edge
  have HI := hide hi0
  clear hi0
  have HNX := hide (fun (W : World) (hW : Below w.heap.size w W) (k : Nat) (hk : k < f.blocks.length) => (show Calls Try.prog 11 #[.agg #[.slice Ak f.kinds.length ck, .slice Ab f.base.length cb, .int .i64 f.params, .int .i64 f.result, .slice As f.blocks.length cs], .int .i64 (k : Int)] W fun e w' => ∃ A c, e = .returned (.slice A (nxt f k).length c) ∧ Sl w' w'.heap.size .i64 A (nxt f k) ∧ (nxt f k).length ≤ c ∧ c ≤ 2 ∧ (∀ b o, A = some ⟨b, o, none⟩ → W.heap.size ≤ b) ∧ Below W.heap.size W w' by
    have h := fnextN_any _ _ _ f (k : Int) W B (by have := hW.size; omega) (hi.keep (up hW hB) (fun _ h => h)) hok
    rw [nxtI_nat hk] at h
    exact h))
  have hls40 := hok.1
  have HED := hide (show edgesTo f f.blocks.length = edgesN f from rfl)
  obtain ⟨ls, hls⟩ : ∃ ls, f.blocks.length = ls := ⟨_, rfl⟩
  rw [hls] at HNX hls40 HED hcs ⊢
  generalize edgesN f = en at *
  generalize f.kinds.length = lk, f.base.length = lb, f.params = fp, f.result = fr at *
  clear hi hok hls
  go_enter Try.func16, Try.ntmps16
  go_upto_region 1 with (fail)
  obtain ⟨w1, hw1⟩ : ∃ w1, w1 = w.alloc (.cells #[.slice Ak lk ck, .slice Ab lb cb, .int .i64 fp, .int .i64 fr, .slice As ls cs] 30) := ⟨_, rfl⟩
  have HX1 := hide (show Box w1 w.heap.size #[.slice Ak lk ck, .slice Ab lb cb, .int .i64 fp, .int .i64 fr, .slice As ls cs] 30 by rw [hw1]; exact Box.new w _ _)
  have HB1 := hide (show Below w.heap.size w w1 by rw [hw1]; exact alloc1 w _)
  rw [← hw1]
  clear hw1
  have l1 := HX1.out.lt
  have c4 := (HX1.out.cell 4 (v := .slice As ls cs) rfl).1
  go_wp2
  go_loopw [3, 10] (fun l i wr => ∃ (v : Value) (k : Nat), v = l ∧ k ≤ ls ∧ i = .int .i64 k ∧ Below w1.heap.size w1 wr ∧ Hid (OwE wr w1.heap.size v (edgesTo f k))) (fun _ i _ => ls - (intOf i).toNat)
  case atStart => exact ⟨_, 0, rfl, Nat.zero_le _, rfl, Below.refl _ _, hide (OwE.nil _ _)⟩
  case round =>
    obtain ⟨v, k, rfl, hk, rfl, hb, how⟩ := hrel
    obtain ⟨wo, rfl⟩ : ∃ wo, wo = wr := ⟨_, rfl⟩
    have hsz := hb.size
    have HBW := hide hb
    have HBEL := hide (HB1.out.trans (hb.mono HB1.out.size))
    have HXO := hide (HX1.out.below hb)
    clear hb
    by_cases hlt : k < ls
    case neg =>
      obtain rfl : k = ls := by omega
      have HO := hide (show OwE wo w.heap.size v en by rw [← HED.out]; exact how.out.lower HB1.out.size)
      go_wp2
      go_ret
      exact ⟨_, rfl, HO.out, HBEL.out⟩
    clear c4
    have c0 := (HXO.out.cell 0 (v := .slice Ak lk ck) rfl).1
    have c1 := (HXO.out.cell 1 (v := .slice Ab lb cb) rfl).1
    have c2 := (HXO.out.cell 2 (v := .int .i64 fp) rfl).1
    have c3 := (HXO.out.cell 3 (v := .int .i64 fr) rfl).1
    have c4 := (HXO.out.cell 4 (v := .slice As ls cs) rfl).1
    have lo := HXO.out.lt
    have HNK := hide (HNX.out wo HBEL.out k hlt)
    have hnl2 := nxt_len f k
    have HE0 := hide (edgesIn_zero f k)
    have HEA := hide (fun j (h : (nxt f k).length ≤ j) => edgesIn_all h)
    have HES := hide (fun j (v : Int) (h : (nxt f k)[j]? = some v) => edgesIn_step h)
    have HEL := hide (fun j => edgesIn_len f k j)
    obtain ⟨nx, hnx⟩ : ∃ nx, nxt f k = nx := ⟨_, rfl⟩
    rw [hnx] at HNK hnl2 HEA HES
    obtain ⟨nl, hnl⟩ : ∃ nl, nx.length = nl := ⟨_, rfl⟩
    rw [hnl] at HNK hnl2 HEA
    have HNL := hide hnl
    have hlt' := how.out.lt
    have HLT := hide hlt'
    clear hnx hnl hlt'
    go_wp2_with (go_at_call 11; refine HNK.out.mono ?_; rintro e w3 ⟨A3, c3', rfl, hs3, hl3, hm3, hn3, hb3⟩; have hz3 := hb3.size; have HS3 := hide hs3; have HN3 := hide hn3; have HO3 := hide (how.out.below hb3); have HC3 := hide (HBW.out.trans (hb3.mono hsz)); clear hb3 hs3 hn3)
    clear c0 c1 c2 c3 c4
    go_loopw [3, 17] (fun l' i wr => ∃ (v : Value) (j : Nat), v = l' ∧ j ≤ nl ∧ i = .int .i64 j ∧ Below w1.heap.size w1 wr ∧ w3.heap.size ≤ wr.heap.size ∧ Hid (OwE wr w1.heap.size v (edgesIn f k j)) ∧ Hid (Sl wr w3.heap.size .i64 A3 nx) ∧ Hid (∀ b o, A3 = some ⟨b, o, none⟩ → b < w3.heap.size → some b ≠ v.ownBlock)) (fun _ i _ => nl - (intOf i).toNat)
    case atStart => exact ⟨_, 0, rfl, Nat.zero_le _, rfl, HC3.out, Nat.le_refl _, hide (by rw [HE0.out]; exact HO3.out), HS3, hide (fun b o hA hb he => by have h1 := HN3.out b o hA; have h2 := HLT.out b he.symm; omega)⟩
    case round =>
      obtain ⟨v, j, rfl, hj, rfl, hbj, hgj, hoj, hsj, hdj⟩ := hrel
      obtain ⟨wq, rfl⟩ : ∃ wq, wq = wr := ⟨_, rfl⟩
      have hszj := hbj.size
      have HBJ := hide hbj
      clear hbj
      by_cases hlj : j < nl
      · obtain ⟨y, hy⟩ : ∃ y, nx[j]? = some y := ⟨_, List.getElem?_eq_getElem (by have := HNL.out; omega)⟩
        obtain ⟨b3, o3, rfl, hb3, hc3⟩ := hsj.out (by have := HNL.out; omega)
        have cj := hc3 j (by have := HNL.out; omega)
        rw [List.getD_eq_getElem?_getD, hy] at cj
        simp only [Option.getD_some] at cj
        have hb3s : b3 < wq.heap.size := by omega
        have HST := hide (HES.out j y hy)
        have hel := HEL.out j
        have hro : (edgesIn f k j).length < 1000000 := by omega
        have HRO := hide hro
        clear hc3 hy hel hro
        go_wp2_with (at_builtin; refine wpList_append_edge wq rfl (.tmp 21) (.tmp 25) _ rfl w1.heap.size i0 _ Try.underlying34 HI.out iz0 iz1 iz2 rfl v (edgesIn f k j) (by rfl) hoj.out (k : Int) y (by rfl) HRO.out hszj ?_; intro v5 w5 ho5 hb5 hf5 hv5)
        have ho5' : OwE w5 w1.heap.size v5 (edgesIn f k (j + 1)) := by rw [← HST.out]; exact ho5
        have hg5 : w3.heap.size ≤ w5.heap.size := by
          rcases Nat.lt_or_ge w5.heap.size wq.heap.size with h | h
          · exact absurd (hb5.size) (by have := hb5.size; omega)
          · omega
        go_roundw
        case rel => exact ⟨v5, j + 1, rfl, by omega, by go_num, HBJ.out.trans hb5, hg5, hide ho5', hide (hsj.out.far (fun b o hA => hdj.out b o hA (by cases hA; omega)) (fun p hp hne => hf5 p (by omega) hne)), hide (fun b o hA hb => by
            rcases hv5 with h | h
            · rw [h]; exact hdj.out b o hA hb
            · rw [h]; intro hc; injection hc with hc; omega)⟩
        case measure => simp [intOf]; omega
      · obtain rfl : j = nl := by omega
        have HO := hide (show OwE wq w1.heap.size v (edgesTo f (k + 1)) by rw [← HEA.out j (Nat.le_refl _)]; exact hoj.out)
        go_wp2
        go_roundw
        case rel => exact ⟨_, k + 1, rfl, by omega, by go_num, HBJ.out, HO⟩
        case measure => simp [intOf]; omega
end Go.Proofs.Ytpggjolbohffjaa
