/- The contracts of the reference's Prev, of Size of both sides, of the reference's SameEdges. Condition: what comes next is there. -/
import Derived.Test.YtpggjolbohffjaaFI
set_option linter.unusedSimpArgs false
set_option linter.unusedVariables false
namespace Go.Proofs.Ytpggjolbohffjaa
open Go.RowKit

theorem prevTo_yes {f : FunV} {z : Int} {k : Nat} (h : z ∈ nxt f k) : prevTo f z k ++ [(k : Int)] = prevTo f z (k + 1) := by rw [prevTo_step, if_pos h]
theorem prevTo_no {f : FunV} {z : Int} {k : Nat} (h : ¬ z ∈ nxt f k) : prevTo f z k = prevTo f z (k + 1) := by rw [prevTo_step, if_neg h, List.append_nil]
set_option maxHeartbeats 1000000 in
set_option maxRecDepth 100000 in
theorem rprev_any (vk vb vs : Value) (f : FunV) (z : Int) (w : World) (B : Nat) (hB : B ≤ w.heap.size) (hi : FunI w (· < B) vk vb vs f) (hok : FlowOk f) :
    Calls Try.prog 14 #[.agg #[vk, vb, .int .i64 f.params, .int .i64 f.result, vs], .int .i64 z] w fun e w' => ∃ v, e = .returned v ∧ Ow w' w.heap.size 3 .i64 v (prevN f z) ∧ Below w.heap.size w w' := by
  obtain ⟨Ak, ck, rfl, hck, hmk⟩ := hi.1.open'
  obtain ⟨Ab, cb, rfl, hcb, hmb⟩ := hi.2.1.open'
  obtain ⟨As, cs, rfl, hcs, hms⟩ := hi.2.2.1.open'
  obtain ⟨i0, hi0, iz0, iz1, iz2⟩ := info_parts info_i64
  have HI := hide hi0
  clear hi0
  have HNX := hide (fun (W : World) (hW : Below w.heap.size w W) (k : Nat) (hk : k < f.blocks.length) => (show Calls Try.prog 12 #[.agg #[.slice Ak f.kinds.length ck, .slice Ab f.base.length cb, .int .i64 f.params, .int .i64 f.result, .slice As f.blocks.length cs], .int .i64 (k : Int)] W fun e w' => ∃ A c, e = .returned (.slice A (nxt f k).length c) ∧ Sl w' w'.heap.size .i64 A (nxt f k) ∧ (nxt f k).length ≤ c ∧ c ≤ 2 ∧ (∀ b o, A = some ⟨b, o, none⟩ → W.heap.size ≤ b) ∧ Below W.heap.size W w' by
    have h := rnextN_any _ _ _ f (k : Int) W B (by have := hW.size; omega) (hi.keep (up hW hB) (fun _ h => h)) hok
    rw [nxtI_nat hk] at h
    exact h))
  have hls40 := hok.1
  have HPA := hide (prevTo_all f z)
  have HPO := hide (fun h => @prevN_out f hok z h)
  obtain ⟨ls, hls⟩ : ∃ ls, f.blocks.length = ls := ⟨_, rfl⟩
  rw [hls] at HNX hls40 HPA HPO hcs ⊢
  generalize prevN f z = pn at *
  generalize f.kinds.length = lk, f.base.length = lb, f.params = fp, f.result = fr at *
  clear hi hok hls
  go_enter Try.func14, Try.ntmps14
  go_upto_region 1 with (fail)
  obtain ⟨w1, hw1⟩ : ∃ w1, w1 = w.alloc (.cells #[.slice Ak lk ck, .slice Ab lb cb, .int .i64 fp, .int .i64 fr, .slice As ls cs] 30) := ⟨_, rfl⟩
  have HX1 := hide (show Box w1 w.heap.size #[.slice Ak lk ck, .slice Ab lb cb, .int .i64 fp, .int .i64 fr, .slice As ls cs] 30 by rw [hw1]; exact Box.new w _ _)
  have HB1 := hide (show Below w.heap.size w w1 by rw [hw1]; exact alloc1 w _)
  rw [← hw1]
  clear hw1
  have l1 := HX1.out.lt
  by_cases hin : inB 0 ((ls : Int) - 1) z = true
  case neg =>
    have hin' := Bool.eq_false_iff.2 hin
    have hin3 : z < 0 ∨ (0 ≤ z ∧ (ls : Int) ≤ z) := by
      apply Classical.byContradiction; intro hc
      exact hin (inB_iff.2 (by omega))
    have HNIL := hide (HPO.out hin')
    clear hin hin' HPO HPA
    have hq : (decide (0 ≤ z) = false) ∨ (decide (0 ≤ z) = true ∧ decide (z < (ls : Int)) = false) := by
      rcases hin3 with h | ⟨h1, h2⟩
      · left; simp; omega
      · right; simp; omega
    rcases hq with h1 | ⟨h1, h2⟩
    all_goals
      clear hin3
      go_wp2
      go_loopw [5, 6] (fun l i wr => ∃ k : Nat, k ≤ ls ∧ l = .slice none 0 0 ∧ i = .int .i64 k ∧ Below w1.heap.size w1 wr) (fun _ i _ => ls - (intOf i).toNat)
      case atStart => exact ⟨0, Nat.zero_le _, rfl, rfl, Below.refl _ _⟩
      case round =>
        obtain ⟨k, hk, rfl, rfl, hb⟩ := hrel
        have HBW := hide hb
        have c4 := ((HX1.out.below hb).cell 4 (v := .slice As ls cs) rfl).1
        have lo := (HX1.out.below hb).lt
        clear hb
        by_cases hlt : k < ls
        · go_wp2
          go_roundw
          case rel => exact ⟨k + 1, by omega, rfl, by go_num, HBW.out⟩
          case measure => simp [intOf]; omega
        · go_wp2
          go_ret
          exact ⟨_, rfl, by rw [HNIL.out]; exact Ow.nil _ _ _ _, HB1.out.trans (HBW.out.mono HB1.out.size)⟩
  have hin2 := inB_iff.1 hin
  have h1 : decide (0 ≤ z) = true := by simp; omega
  have h2 : decide (z < (ls : Int)) = true := by simp; omega
  clear hin hin2 HPO
  go_wp2
  go_loopw [5, 6] (fun l i wr => ∃ (v : Value) (k : Nat), v = l ∧ k ≤ ls ∧ i = .int .i64 k ∧ Below w1.heap.size w1 wr ∧ Hid (Ow wr w1.heap.size 3 .i64 v (prevTo f z k))) (fun _ i _ => ls - (intOf i).toNat)
  case atStart => exact ⟨_, 0, rfl, Nat.zero_le _, rfl, Below.refl _ _, hide (Ow.nil _ _ _ _)⟩
  case round =>
    obtain ⟨v, k, rfl, hk, rfl, hb, how⟩ := hrel
    obtain ⟨wo, rfl⟩ : ∃ wo, wo = wr := ⟨_, rfl⟩
    have hsz := hb.size
    have HBW := hide hb
    have HBEL := hide (HB1.out.trans (hb.mono HB1.out.size))
    have HXO := hide (HX1.out.below hb)
    clear hb
    have c0 := (HXO.out.cell 0 (v := .slice Ak lk ck) rfl).1
    have c1 := (HXO.out.cell 1 (v := .slice Ab lb cb) rfl).1
    have c2 := (HXO.out.cell 2 (v := .int .i64 fp) rfl).1
    have c3 := (HXO.out.cell 3 (v := .int .i64 fr) rfl).1
    have c4 := (HXO.out.cell 4 (v := .slice As ls cs) rfl).1
    have lo := HXO.out.lt
    by_cases hlt : k < ls
    case neg =>
      obtain rfl : k = ls := by omega
      have HO := hide (show Ow wo w.heap.size 3 .i64 v pn by rw [← HPA.out]; exact how.out.lower HB1.out.size)
      go_wp2
      go_ret
      exact ⟨_, rfl, HO.out, HBEL.out⟩
    have HNK := hide (HNX.out wo HBEL.out k hlt)
    have hnl2 := nxt_len f k
    have HYES := hide (fun h => @prevTo_yes f z k h)
    have HNO := hide (fun h => @prevTo_no f z k h)
    have hpl := prevTo_len f z k
    have hro : (prevTo f z k).length < 1099511627776 := by omega
    have HRO := hide hro
    obtain ⟨nx, hnx⟩ : ∃ nx, nxt f k = nx := ⟨_, rfl⟩
    rw [hnx] at HNK hnl2 HYES HNO
    have HHAS := hide (fun (A : Option Addr) (c : Nat) (W : World) (hs : Sl W W.heap.size .i64 A nx) (hc : nx.length ≤ c) (hm : c ≤ 2) => has5_any A c W.heap.size nx z W hs (Nat.le_refl _) hc (by omega))
    obtain ⟨nl, hnl⟩ : ∃ nl, nx.length = nl := ⟨_, rfl⟩
    rw [hnl] at HNK hnl2 HHAS
    obtain ⟨hb, hhb⟩ : ∃ hb, decide (z ∈ nx) = hb := ⟨_, rfl⟩
    rw [hhb] at HHAS
    have HHB := hide hhb
    clear hnx hnl hhb hpl hro
    cases hb with
    | true =>
      have HST := hide (HYES.out (of_decide_eq_true HHB.out))
      clear HYES HNO
      go_wp2_with (first
        | (at_builtin; refine wpList_append_one w3 rfl (.tmp 30) (.tmp 32) _ rfl w1.heap.size 3 .i64 i0 _ 8 Try.underlying27 HI.out iz0 iz1 iz2 rfl (by omega) v (prevTo f z k) (by rfl) HO3.out (k : Int) (by rfl) HRO.out HC3.out.size ?_; intro v5 w5 ho5 hb5)
        | (go_at_call 32; refine (HHAS.out A3 c3' w3 HS3.out hl3 hm3).mono ?_; rintro e w' ⟨rfl, rfl⟩)
        | (go_at_call 12; refine HNK.out.mono ?_; rintro e w3 ⟨A3, c3', rfl, hs3, hl3, hm3, -, hb3⟩; have HS3 := hide hs3; have HO3 := hide (how.out.below hb3); have HC3 := hide (HBW.out.trans (hb3.mono hsz)); clear hb3 hs3))
      go_roundw
      case rel => exact ⟨v5, k + 1, rfl, by omega, by go_num, HC3.out.trans hb5, hide (by rw [← HST.out]; exact ho5)⟩
      case measure => simp [intOf]; omega
    | false =>
      have HST := hide (HNO.out (of_decide_eq_false HHB.out))
      clear HYES HNO
      go_wp2_with (first
        | (go_at_call 32; refine (HHAS.out A3 c3' w3 HS3.out hl3 hm3).mono ?_; rintro e w' ⟨rfl, rfl⟩)
        | (go_at_call 12; refine HNK.out.mono ?_; rintro e w3 ⟨A3, c3', rfl, hs3, hl3, hm3, -, hb3⟩; have HS3 := hide hs3; have HO3 := hide (how.out.below hb3); have HC3 := hide (HBW.out.trans (hb3.mono hsz)); clear hb3 hs3))
      go_roundw
      case rel => exact ⟨v, k + 1, rfl, by omega, by go_num, HC3.out, hide (by rw [← HST.out]; exact HO3.out)⟩
      case measure => simp [intOf]; omega

set_option maxRecDepth 100000 in
theorem fsize_any (vk vb vs : Value) (f : FunV) (w : World) (B : Nat) (hB : B ≤ w.heap.size) (hi : FunI w (· < B) vk vb vs f) (hok : FlowOk f) :
    Calls Try.prog 18 #[.agg #[vk, vb, .int .i64 f.params, .int .i64 f.result, vs]] w fun e w' => e = .returned (.int .i64 (sizeTo f f.blocks.length : Nat)) ∧ Below w.heap.size w w' := by
  obtain ⟨Ak, ck, rfl, hck, hmk⟩ := hi.1.open'
  obtain ⟨Ab, cb, rfl, hcb, hmb⟩ := hi.2.1.open'
  obtain ⟨As, cs, rfl, hcs, hms⟩ := hi.2.2.1.open'
  have HBK := hide (fun (W : World) (hW : Below w.heap.size w W) => hi.2.2.1.keep (up hW hB) (fun _ h => h))
  have hls40 := hok.1
  have HB40 := hide hok.2.1
  have HSL := hide (fun k hk => sizeTo_le hok k hk)
  have HST := hide (fun k b h => @sizeTo_step f k b h)
  have HS0 := hide (show sizeTo f 0 = 0 from rfl)
  generalize sizeTo f = sz at *
  obtain ⟨ls, hls⟩ : ∃ ls, f.blocks.length = ls := ⟨_, rfl⟩
  have HLS := hide hls
  rw [hls] at HBK hls40 HSL hcs ⊢
  generalize f.kinds.length = lk, f.base.length = lb, f.params = fp, f.result = fr at *
  clear hi hok hls
  go_enter Try.func18, Try.ntmps18
  go_upto_region 1 with (fail)
  obtain ⟨w1, hw1⟩ : ∃ w1, w1 = w.alloc (.cells #[.slice Ak lk ck, .slice Ab lb cb, .int .i64 fp, .int .i64 fr, .slice As ls cs] 30) := ⟨_, rfl⟩
  have HX1 := hide (show Box w1 w.heap.size #[.slice Ak lk ck, .slice Ab lb cb, .int .i64 fp, .int .i64 fr, .slice As ls cs] 30 by rw [hw1]; exact Box.new w _ _)
  have HB1 := hide (show Below w.heap.size w w1 by rw [hw1]; exact alloc1 w _)
  rw [← hw1]
  clear hw1
  have l1 := HX1.out.lt
  have c4 := (HX1.out.cell 4 (v := .slice As ls cs) rfl).1
  go_wp2
  go_loopw [3, 9] (fun l i wr => ∃ (k : Nat), k ≤ ls ∧ l = .int .i64 (sz k : Nat) ∧ i = .int .i64 k ∧ Below w1.heap.size w1 wr) (fun _ i _ => ls - (intOf i).toNat)
  case atStart => exact ⟨0, Nat.zero_le _, by rw [HS0.out]; rfl, rfl, Below.refl _ _⟩
  case round =>
    obtain ⟨k, hk, rfl, rfl, hb⟩ := hrel
    obtain ⟨wo, rfl⟩ : ∃ wo, wo = wr := ⟨_, rfl⟩
    have hsz := hb.size
    have HBW := hide hb
    have HBEL := hide (HB1.out.trans (hb.mono HB1.out.size))
    clear hb c4
    by_cases hlt : k < ls
    case neg =>
      obtain rfl : k = ls := by omega
      go_wp2
      go_ret
      exact ⟨rfl, HBEL.out⟩
    obtain ⟨x, hx⟩ : ∃ x, f.blocks[k]? = some x := ⟨_, List.getElem?_eq_getElem (by have := HLS.out; omega)⟩
    obtain ⟨b1, o1, A1, c1, rfl, hbb1, g0, -⟩ := (HBK.out wo HBEL.out).get hx
    have hbs : b1 < wo.heap.size := by have := HBEL.out.size; omega
    have hx40 := HB40.out x (List.mem_of_getElem? hx)
    have hs40 := HSL.out k hk
    have hst := HST.out k x hx
    generalize x.length = m at *
    obtain ⟨s, hs⟩ : ∃ s, sz k = s := ⟨_, rfl⟩
    obtain ⟨s', hs'⟩ : ∃ s, sz (k + 1) = s := ⟨_, rfl⟩
    rw [hs, hs'] at hst
    rw [hs] at hs40 ⊢
    have HNXT := hide (show sz (k + 1) = s + m by rw [hs', hst])
    clear hs hs' hst hx
    go_wp2
    go_roundw
    case rel => exact ⟨k + 1, by omega, by rw [HNXT.out]; go_num, by go_num, HBW.out.alloc hsz _⟩
    case measure => simp [intOf]; omega
end Go.Proofs.Ytpggjolbohffjaa
