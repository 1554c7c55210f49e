/- The contracts of Prev and Size of both sides, of the reference's has and SameEdges. Condition: what comes next is there. -/
import Derived.Test.YtpggjolbohffjaaFH
set_option linter.unusedSimpArgs false
set_option linter.unusedVariables false
namespace Go.Proofs.Ytpggjolbohffjaa
open Go.RowKit

def selTo (es : List (Int × Int)) (z : Int) (k : Nat) : List Int := ((es.take k).filter (fun e => e.2 == z)).map Prod.fst
theorem selTo_yes {es : List (Int × Int)} {z : Int} {k : Nat} {e : Int × Int} (h : es[k]? = some e) (hz : e.2 = z) : selTo es z k ++ [e.1] = selTo es z (k + 1) := by
  unfold selTo
  rw [List.take_add_one, h]
  simp [List.filter_append, hz]
theorem selTo_no {es : List (Int × Int)} {z : Int} {k : Nat} {e : Int × Int} (h : es[k]? = some e) (hz : ¬ e.2 = z) : selTo es z k = selTo es z (k + 1) := by
  unfold selTo
  rw [List.take_add_one, h]
  simp [List.filter_append, hz]
theorem selTo_len (es : List (Int × Int)) (z : Int) (k : Nat) : (selTo es z k).length ≤ k := by
  unfold selTo
  rw [List.length_map]
  exact Nat.le_trans (List.length_filter_le _ _) (List.length_take_le _ _)
theorem selTo_all {f : FunV} {z : Int} {k : Nat} (h : (edgesN f).length ≤ k) : selTo (edgesN f) z k = prevN f z := by
  unfold selTo prevN
  rw [List.take_of_length_le h]
theorem edgesN_len {f : FunV} (hok : FlowOk f) : (edgesN f).length ≤ 80 := by
  have h1 := edgesTo_len f f.blocks.length
  have h2 := hok.1
  unfold edgesN
  omega
set_option maxHeartbeats 1000000 in
set_option maxRecDepth 100000 in
theorem fprev_any (vk vb vs : Value) (f : FunV) (z : Int) (w : World) (B : Nat) (hB : B ≤ w.heap.size) (hi : FunI w (· < B) vk vb vs f) (hok : FlowOk f) :
    Calls Try.prog 13 #[.agg #[vk, vb, .int .i64 f.params, .int .i64 f.result, vs], .int .i64 z] w fun e w' => ∃ v, e = .returned v ∧ Ow w' w.heap.size 3 .i64 v (prevN f z) ∧ Below w.heap.size w w' := by
  have HED := hide (fun (W : World) (hW : Below w.heap.size w W) => fedges_any vk vb vs f W B (by have := hW.size; omega) (hi.keep (up hW hB) (fun _ h => h)) hok)
  obtain ⟨Ak, ck, rfl, hck, hmk⟩ := hi.1.open'
  obtain ⟨Ab, cb, rfl, hcb, hmb⟩ := hi.2.1.open'
  obtain ⟨As, cs, rfl, hcs, hms⟩ := hi.2.2.1.open'
  obtain ⟨i0, hi0, iz0, iz1, iz2⟩ := info_parts info_i64
  have HI := hide hi0
  clear hi0
  have hel := edgesN_len hok
  have HPA := hide (fun k h => @selTo_all f z k h)
  generalize edgesN f = es at *
  generalize prevN f z = pn at *
  obtain ⟨n, hn⟩ : ∃ n, es.length = n := ⟨_, rfl⟩
  rw [hn] at hel HPA
  have HN := hide hn
  generalize f.kinds.length = lk, f.base.length = lb, f.blocks.length = ls, f.params = fp, f.result = fr at *
  clear hi hok hn
  go_enter Try.func13, Try.ntmps13
  go_upto_region 1 with (fail)
  obtain ⟨w1, hw1⟩ : ∃ w1, w1 = w.alloc (.cells #[.slice Ak lk ck, .slice Ab lb cb, .int .i64 fp, .int .i64 fr, .slice As ls cs] 30) := ⟨_, rfl⟩
  have HX1 := hide (show Box w1 w.heap.size #[.slice Ak lk ck, .slice Ab lb cb, .int .i64 fp, .int .i64 fr, .slice As ls cs] 30 by rw [hw1]; exact Box.new w _ _)
  have HB1 := hide (show Below w.heap.size w w1 by rw [hw1]; exact alloc1 w _)
  rw [← hw1]
  clear hw1
  have l1 := HX1.out.lt
  have c0 := (HX1.out.cell 0 (v := .slice Ak lk ck) rfl).1
  have c1 := (HX1.out.cell 1 (v := .slice Ab lb cb) rfl).1
  have c2 := (HX1.out.cell 2 (v := .int .i64 fp) rfl).1
  have c3 := (HX1.out.cell 3 (v := .int .i64 fr) rfl).1
  have c4 := (HX1.out.cell 4 (v := .slice As ls cs) rfl).1
  go_wp2_with (go_at_call 16; refine (HED.out w1 HB1.out).mono ?_; rintro e w2 ⟨ve, rfl, hoe, hb2⟩; obtain ⟨Ae, ce, hve, hce, hme, hse⟩ := hoe.sl; have HSE := hide hse; have HVE := hide hve; have HB2 := hide (HB1.out.trans (hb2.mono HB1.out.size)); rw [HN.out] at hve; subst hve; clear hb2 hoe hse HVE)
  rw [HN.out] at hce
  clear c0 c1 c2 c3 c4
  go_loopw [5, 11] (fun l i wr => ∃ (v : Value) (k : Nat), v = l ∧ k ≤ n ∧ i = .int .i64 k ∧ Below w2.heap.size w2 wr ∧ Hid (Ow wr w2.heap.size 3 .i64 v (selTo es z k))) (fun _ i _ => n - (intOf i).toNat)
  case atStart => exact ⟨_, 0, rfl, Nat.zero_le _, rfl, Below.refl _ _, hide (Ow.nil _ _ _ _)⟩
  case round =>
    obtain ⟨v, k, rfl, hk, rfl, hb, how⟩ := hrel
    obtain ⟨wo, rfl⟩ : ∃ wo, wo = wr := ⟨_, rfl⟩
    have hsz := hb.size
    have HBW := hide hb
    have HBEL := hide (HB2.out.trans (hb.mono HB2.out.size))
    clear hb
    by_cases hlt : k < n
    case neg =>
      have HO := hide (show Ow wo w.heap.size 3 .i64 v pn by rw [← HPA.out k (by omega)]; exact how.out.lower HB2.out.size)
      go_wp2
      go_ret
      exact ⟨_, rfl, HO.out, HBEL.out⟩
    obtain ⟨y, hy⟩ : ∃ y, es[k]? = some y := ⟨_, List.getElem?_eq_getElem (by have := HN.out; omega)⟩
    obtain ⟨be, oe, rfl, hbe, hce'⟩ := HSE.out (by have := HN.out; omega)
    obtain ⟨y1, y2⟩ := hce' k y hy
    have d1 := (HBW.out.cell (p := ⟨be, oe + k * 2, none⟩) hbe).trans y1
    have d2 := (HBW.out.cell (p := ⟨be, oe + k * 2 + 1, none⟩) hbe).trans y2
    have hbs : be < wo.heap.size := by omega
    have HYES := hide (fun h : y.2 = z => selTo_yes hy h)
    have HNO := hide (fun h : ¬ y.2 = z => selTo_no hy h)
    have hsl := selTo_len es z k
    have hro : (selTo es z k).length < 1099511627776 := by omega
    have HRO := hide hro
    obtain ⟨ya, yb⟩ := y
    simp only at d1 d2
    clear hce' y1 y2 hy hro hsl
    go_upto_region 5 with (fail)
    obtain ⟨w4, hw4⟩ : ∃ w4, w4 = wo.alloc (.cells #[.int .i64 ya, .int .i64 yb] 40) := ⟨_, rfl⟩
    obtain ⟨h4, hh4⟩ : ∃ h4, wo.heap.size = h4 := ⟨_, rfl⟩
    have HX4 := hide (show Box w4 h4 #[.int .i64 ya, .int .i64 yb] 40 by rw [hw4, ← hh4]; exact Box.new wo _ _)
    have HB4 := hide (show Below w2.heap.size w2 w4 by rw [hw4]; exact HBW.out.alloc hsz _)
    have HO4 := hide (show Ow w4 w2.heap.size 3 .i64 v (selTo es z k) by rw [hw4]; exact how.out.alloc _)
    rw [← hw4, hh4]
    clear hw4 hh4 d1 d2 hbs
    have l4 := HX4.out.lt
    have d1 := (HX4.out.cell 0 (v := .int .i64 ya) rfl).1
    have d2 := (HX4.out.cell 1 (v := .int .i64 yb) rfl).1
    have hz4 := HB4.out.size
    by_cases he : yb = z
    · have HST := hide (HYES.out he)
      have hq : (yb == z) = true := by simpa using he
      clear he HYES HNO
      go_wp2_with (at_builtin; refine wpList_append_one w4 rfl (.tmp 19) (.tmp 22) _ rfl w2.heap.size 3 .i64 i0 _ 8 Try.underlying27 HI.out iz0 iz1 iz2 rfl (by omega) v (selTo es z k) (by rfl) HO4.out ya (by rfl) HRO.out hz4 ?_; intro v5 w5 ho5 hb5)
      go_roundw
      case rel => exact ⟨v5, k + 1, rfl, by omega, by go_num, HB4.out.trans hb5, hide (by rw [← HST.out]; exact ho5)⟩
      case measure => simp [intOf]; omega
    · have HST := hide (HNO.out he)
      have hq : (yb == z) = false := by simpa using he
      clear he HYES HNO
      go_wp2
      go_roundw
      case rel => exact ⟨v, k + 1, rfl, by omega, by go_num, HB4.out, hide (by rw [← HST.out]; exact HO4.out)⟩
      case measure => simp [intOf]; omega

theorem mem_take_step {l : List Int} {z y : Int} {k : Nat} (h : z ∉ l.take k) (hy : l[k]? = some y) (hz : ¬ y = z) : z ∉ l.take (k + 1) := by
  rw [List.take_add_one, hy]
  intro hm
  rcases List.mem_append.1 hm with h1 | h1
  · exact h h1
  · simp at h1; exact hz h1.symm
set_option maxRecDepth 100000 in
theorem has5_any (A : Option Addr) (c B : Nat) (l : List Int) (z : Int) (w : World) (hs : Sl w B .i64 A l) (hB : B ≤ w.heap.size) (hc : l.length ≤ c) (hm : c ≤ 1000) :
    Calls Try.prog 32 #[.slice A l.length c, .int .i64 z] w fun e w' => e = .returned (.bool (decide (z ∈ l))) ∧ w = w' := by
  obtain ⟨n, hn⟩ : ∃ n, l.length = n := ⟨_, rfl⟩
  rw [hn] at hc ⊢
  have HN := hide hn
  have HS := hide hs
  obtain ⟨R, hR⟩ : ∃ R, decide (z ∈ l) = R := ⟨_, rfl⟩
  have HR := hide hR
  rw [hR]
  clear hn hs hR
  go_enter Try.func32, Try.ntmps32
  go_wp2
  go_loop [5] (fun i => ∃ k : Nat, k ≤ n ∧ i = .int .i64 k ∧ Hid (z ∉ l.take k)) (fun i => n - (intOf i).toNat)
  case atStart => exact ⟨0, Nat.zero_le _, rfl, hide (by simp)⟩
  case round =>
    obtain ⟨k, hk, rfl, hno⟩ := hrel
    by_cases hlt : k < n
    · obtain ⟨y, hy⟩ : ∃ y, l[k]? = some y := ⟨_, List.getElem?_eq_getElem (by have := HN.out; omega)⟩
      obtain ⟨b, o, rfl, hb, hcc⟩ := HS.out (by have := HN.out; omega)
      have cj := hcc k (by have := HN.out; omega)
      rw [List.getD_eq_getElem?_getD, hy] at cj
      simp only [Option.getD_some] at cj
      have hbs : b < w.heap.size := by omega
      have HY := hide hy
      clear hcc hy
      by_cases he : y = z
      · have hv := hide (show R = true by rw [← HR.out, ← he]; exact decide_eq_true (List.mem_of_getElem? HY.out))
        have hq : (y == z) = true := by simpa using he
        clear he
        go_wp2
        go_ret
        exact ⟨ret_bool hv.out.symm, rfl⟩
      · have hn := hide (mem_take_step hno.out HY.out he)
        have hq : (y == z) = false := by simpa using he
        clear he
        go_wp2
        go_round
        case rel => exact ⟨k + 1, by omega, by go_num, hn⟩
        case measure => simp [intOf]; omega
    · have hv := hide (show R = false by rw [← HR.out]; exact decide_eq_false (fun h => hno.out (by rw [List.take_of_length_le (by have := HN.out; omega)]; exact h)))
      go_wp2
      go_ret
      exact ⟨ret_bool hv.out.symm, rfl⟩
end Go.Proofs.Ytpggjolbohffjaa
