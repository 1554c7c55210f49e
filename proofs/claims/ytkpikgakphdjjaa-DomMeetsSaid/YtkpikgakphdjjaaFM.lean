/- The contracts of flow.Edges and of the reference's Edges. Condition: what comes next is there. -/
import Derived.Test.YtkpikgakphdjjaaFR
set_option linter.unusedSimpArgs false
set_option linter.unusedVariables false
namespace Go.Proofs.Ytkpikgakphdjjaa
open Go.RowKit

theorem Sl.far {w w' : World} {B : Nat} {k : IntKind} {A : Option Addr} {zs : List Int} {own : Option Nat} (h : Sl w B k A zs) (hf : ∀ b o, A = some ⟨b, o, none⟩ → some b ≠ own) (hk : ∀ p : Addr, p.block < B → some p.block ≠ own → w'.cell? p = w.cell? p) : Sl w' B k A zs := fun hp => by
  obtain ⟨b, o, e, hb, hc⟩ := h hp
  exact ⟨b, o, e, hb, fun j hj => (hk _ hb (hf b o e)).trans (hc j hj)⟩
theorem OwE.lt {w : World} {base : Nat} {v : Value} {es : List (Int × Int)} (h : OwE w base v es) : ∀ k, v.ownBlock = some k → k < w.heap.size := fun k hk => (World.ownsRow.lt h k hk).2
set_option maxHeartbeats 1000000 in
set_option maxRecDepth 100000 in
theorem fedges_any (vk vb vs : Value) (f : FunV) (w : World) (B : Nat) (hB : B ≤ w.heap.size) (hi : FunI w (· < B) vk vb vs f) (hok : FlowOk f) :
    Calls Try.prog 28 #[.agg #[vk, vb, .int .i64 f.params, .int .i64 f.result, vs]] w fun e w' => ∃ v, e = .returned v ∧ OwE w' w.heap.size v (edgesN f) ∧ Below w.heap.size w w' := by
  obtain ⟨Ak, ck, rfl, hck, hmk⟩ := hi.1.open'
  obtain ⟨Ab, cb, rfl, hcb, hmb⟩ := hi.2.1.open'
  obtain ⟨As, cs, rfl, hcs, hms⟩ := hi.2.2.1.open'
  obtain ⟨i0, hi0, iz0, iz1, iz2⟩ := info_parts info_edge
  have HI := hide hi0
  clear hi0
  have HNX := hide (fun (W : World) (hW : Below w.heap.size w W) (k : Nat) (hk : k < f.blocks.length) => (show Calls Try.prog 43 #[.agg #[.slice Ak f.kinds.length ck, .slice Ab f.base.length cb, .int .i64 f.params, .int .i64 f.result, .slice As f.blocks.length cs], .int .i64 (k : Int)] W fun e w' => ∃ A c, e = .returned (.slice A (nxt f k).length c) ∧ Sl w' w'.heap.size .i64 A (nxt f k) ∧ (nxt f k).length ≤ c ∧ c ≤ 2 ∧ (∀ b o, A = some ⟨b, o, none⟩ → W.heap.size ≤ b) ∧ Below W.heap.size W w' by
    have h := fnextN_any _ _ _ f (k : Int) W B (by have := hW.size; omega) (hi.keep (up hW hB) (fun _ h => h)) hok
    rw [nxtI_nat hk] at h
    exact h))
  have hls40 := hok.1
  have HED := hide (show edgesTo f f.blocks.length = edgesN f from rfl)
  obtain ⟨ls, hls⟩ : ∃ ls, f.blocks.length = ls := ⟨_, rfl⟩
  rw [hls] at HNX hls40 HED hcs ⊢
  generalize edgesN f = en at *
  generalize f.kinds.length = lk, f.base.length = lb, f.params = fp, f.result = fr at *
  clear hi hok hls
  go_enter Try.func28, Try.ntmps28
  go_upto_region 1 with (fail)
  obtain ⟨w1, hw1⟩ : ∃ w1, w1 = w.alloc (.cells #[.slice Ak lk ck, .slice Ab lb cb, .int .i64 fp, .int .i64 fr, .slice As ls cs] 30) := ⟨_, rfl⟩
  have HX1 := hide (show Box w1 w.heap.size #[.slice Ak lk ck, .slice Ab lb cb, .int .i64 fp, .int .i64 fr, .slice As ls cs] 30 by rw [hw1]; exact Box.new w _ _)
  have HB1 := hide (show Below w.heap.size w w1 by rw [hw1]; exact alloc1 w _)
  rw [← hw1]
  clear hw1
  have l1 := HX1.out.lt
  have c4 := (HX1.out.cell 4 (v := .slice As ls cs) rfl).1
  go_wp2
  go_loopw [3, 10] (fun l i wr => ∃ (v : Value) (k : Nat), v = l ∧ k ≤ ls ∧ i = .int .i64 k ∧ Below w1.heap.size w1 wr ∧ Hid (OwE wr w1.heap.size v (edgesTo f k))) (fun _ i _ => ls - (intOf i).toNat)
  case atStart => exact ⟨_, 0, rfl, Nat.zero_le _, rfl, Below.refl _ _, hide (OwE.nil _ _)⟩
  case round =>
    obtain ⟨v, k, rfl, hk, rfl, hb, how⟩ := hrel
    obtain ⟨wo, rfl⟩ : ∃ wo, wo = wr := ⟨_, rfl⟩
    have hsz := hb.size
    have HBW := hide hb
    have HBEL := hide (HB1.out.trans (hb.mono HB1.out.size))
    have HXO := hide (HX1.out.below hb)
    clear hb
    by_cases hlt : k < ls
    case neg =>
      obtain rfl : k = ls := by omega
      have HO := hide (show OwE wo w.heap.size v en by rw [← HED.out]; exact how.out.lower HB1.out.size)
      go_wp2
      go_ret
      exact ⟨_, rfl, HO.out, HBEL.out⟩
    clear c4
    have c0 := (HXO.out.cell 0 (v := .slice Ak lk ck) rfl).1
    have c1 := (HXO.out.cell 1 (v := .slice Ab lb cb) rfl).1
    have c2 := (HXO.out.cell 2 (v := .int .i64 fp) rfl).1
    have c3 := (HXO.out.cell 3 (v := .int .i64 fr) rfl).1
    have c4 := (HXO.out.cell 4 (v := .slice As ls cs) rfl).1
    have lo := HXO.out.lt
    have HNK := hide (HNX.out wo HBEL.out k hlt)
    have hnl2 := nxt_len f k
    have HE0 := hide (edgesIn_zero f k)
    have HEA := hide (fun j (h : (nxt f k).length ≤ j) => edgesIn_all h)
    have HES := hide (fun j (v : Int) (h : (nxt f k)[j]? = some v) => edgesIn_step h)
    have HEL := hide (fun j => edgesIn_len f k j)
    obtain ⟨nx, hnx⟩ : ∃ nx, nxt f k = nx := ⟨_, rfl⟩
    rw [hnx] at HNK hnl2 HEA HES
    obtain ⟨nl, hnl⟩ : ∃ nl, nx.length = nl := ⟨_, rfl⟩
    rw [hnl] at HNK hnl2 HEA
    have HNL := hide hnl
    have hlt' := how.out.lt
    have HLT := hide hlt'
    clear hnx hnl hlt'
    go_wp2_with (go_at_call 43; refine HNK.out.mono ?_; rintro e w3 ⟨A3, c3', rfl, hs3, hl3, hm3, hn3, hb3⟩; have hz3 := hb3.size; have HS3 := hide hs3; have HN3 := hide hn3; have HO3 := hide (how.out.below hb3); have HC3 := hide (HBW.out.trans (hb3.mono hsz)); clear hb3 hs3 hn3)
    clear c0 c1 c2 c3 c4
    go_loopw [3, 17] (fun l' i wr => ∃ (v : Value) (j : Nat), v = l' ∧ j ≤ nl ∧ i = .int .i64 j ∧ Below w1.heap.size w1 wr ∧ w3.heap.size ≤ wr.heap.size ∧ Hid (OwE wr w1.heap.size v (edgesIn f k j)) ∧ Hid (Sl wr w3.heap.size .i64 A3 nx) ∧ Hid (∀ b o, A3 = some ⟨b, o, none⟩ → b < w3.heap.size → some b ≠ v.ownBlock)) (fun _ i _ => nl - (intOf i).toNat)
    case atStart => exact ⟨_, 0, rfl, Nat.zero_le _, rfl, HC3.out, Nat.le_refl _, hide (by rw [HE0.out]; exact HO3.out), HS3, hide (fun b o hA hb he => by have h1 := HN3.out b o hA; have h2 := HLT.out b he.symm; omega)⟩
    case round =>
      obtain ⟨v, j, rfl, hj, rfl, hbj, hgj, hoj, hsj, hdj⟩ := hrel
      obtain ⟨wq, rfl⟩ : ∃ wq, wq = wr := ⟨_, rfl⟩
      have hszj := hbj.size
      have HBJ := hide hbj
      clear hbj
      by_cases hlj : j < nl
      · obtain ⟨y, hy⟩ : ∃ y, nx[j]? = some y := ⟨_, List.getElem?_eq_getElem (by have := HNL.out; omega)⟩
        obtain ⟨b3, o3, rfl, hb3, hc3⟩ := hsj.out (by have := HNL.out; omega)
        have cj := hc3 j (by have := HNL.out; omega)
        rw [List.getD_eq_getElem?_getD, hy] at cj
        simp only [Option.getD_some] at cj
        have hb3s : b3 < wq.heap.size := by omega
        have HST := hide (HES.out j y hy)
        have hel := HEL.out j
        have hro : (edgesIn f k j).length < 1000000 := by omega
        have HRO := hide hro
        clear hc3 hy hel hro
        go_wp2_with (at_builtin; refine wpList_append_edge wq rfl (.tmp 21) (.tmp 25) _ rfl w1.heap.size i0 _ Try.underlying47 HI.out iz0 iz1 iz2 rfl v (edgesIn f k j) (by rfl) hoj.out (k : Int) y (by rfl) HRO.out hszj ?_; intro v5 w5 ho5 hb5 hf5 hv5)
        have ho5' : OwE w5 w1.heap.size v5 (edgesIn f k (j + 1)) := by rw [← HST.out]; exact ho5
        have hg5 : w3.heap.size ≤ w5.heap.size := by
          rcases Nat.lt_or_ge w5.heap.size wq.heap.size with h | h
          · exact absurd (hb5.size) (by have := hb5.size; omega)
          · omega
        go_roundw
        case rel => exact ⟨v5, j + 1, rfl, by omega, by go_num, HBJ.out.trans hb5, hg5, hide ho5', hide (hsj.out.far (fun b o hA => hdj.out b o hA (by cases hA; omega)) (fun p hp hne => hf5 p (by omega) hne)), hide (fun b o hA hb => by
            rcases hv5 with h | h
            · rw [h]; exact hdj.out b o hA hb
            · rw [h]; intro hc; injection hc with hc; omega)⟩
        case measure => simp [intOf]; omega
      · obtain rfl : j = nl := by omega
        have HO := hide (show OwE wq w1.heap.size v (edgesTo f (k + 1)) by rw [← HEA.out j (Nat.le_refl _)]; exact hoj.out)
        go_wp2
        go_roundw
        case rel => exact ⟨_, k + 1, rfl, by omega, by go_num, HBJ.out, HO⟩
        case measure => simp [intOf]; omega
end Go.Proofs.Ytkpikgakphdjjaa
namespace Go.Proofs.Ytkpikgakphdjjaa
open Go.RowKit

def prevN (f : FunV) (z : Int) : List Int := ((edgesN f).filter (fun e => e.2 == z)).map Prod.fst
theorem nodup_filter_one {l : List Int} {z : Int} (h : l.Nodup) : (l.filter (fun v => v == z)) = if z ∈ l then [z] else [] := by
  induction l with
  | nil => rfl
  | cons a l ih =>
    have hn := (List.nodup_cons.1 h)
    rw [List.filter_cons, ih hn.2]
    by_cases ha : a = z
    · subst ha
      simp [hn.1]
    · have : ¬ z = a := fun h => ha h.symm
      simp [ha, this]
def prevTo (f : FunV) (z : Int) (k : Nat) : List Int := ((edgesTo f k).filter (fun e => e.2 == z)).map Prod.fst
theorem prevTo_zero (f : FunV) (z : Int) : prevTo f z 0 = [] := rfl
theorem prevTo_all (f : FunV) (z : Int) : prevTo f z f.blocks.length = prevN f z := rfl
theorem prevTo_step (f : FunV) (z : Int) (k : Nat) : prevTo f z (k + 1) = prevTo f z k ++ if z ∈ nxt f k then [(k : Int)] else [] := by
  unfold prevTo
  rw [← edgesIn_all (Nat.le_refl _)]
  unfold edgesIn
  rw [List.take_length, List.filter_append, List.map_append]
  congr 1
  rw [List.filter_map, List.map_map]
  have : (fun v : Int => ((k : Int), v).2 == z) = (fun v => v == z) := rfl
  show ((nxt f k).filter (fun v => v == z)).map (fun v => (k : Int)) = _
  rw [nodup_filter_one (nxt_nodup f k)]
  split <;> simp
theorem prevN_out {f : FunV} (hok : FlowOk f) {z : Int} (h : inB 0 ((f.blocks.length : Int) - 1) z = false) : prevN f z = [] := by
  unfold prevN
  rw [List.filter_eq_nil_iff.2, List.map_nil]
  rintro ⟨a, b⟩ he hz
  unfold edgesN edgesTo at he
  simp only [List.mem_flatMap, List.mem_map] at he
  obtain ⟨i, -, v, hv, hp⟩ := he
  injection hp with h1 h2
  simp only [beq_iff_eq] at hz
  subst hz
  subst h2
  have := hok.2.2 i _ hv
  rw [inB_iff.2 (by omega)] at h
  cases h
theorem prevTo_len (f : FunV) (z : Int) (k : Nat) : (prevTo f z k).length ≤ 2 * k := by
  unfold prevTo
  rw [List.length_map]
  exact Nat.le_trans (List.length_filter_le _ _) (edgesTo_len f k)
def sizeTo (f : FunV) (k : Nat) : Nat := ((f.blocks.take k).map List.length).sum
theorem sizeTo_step {f : FunV} {k : Nat} {b : List InsV} (h : f.blocks[k]? = some b) : sizeTo f (k + 1) = sizeTo f k + b.length := by
  unfold sizeTo
  rw [List.take_add_one, h]
  simp
theorem sizeTo_le {f : FunV} (hok : FlowOk f) (k : Nat) (hk : k ≤ f.blocks.length) : sizeTo f k ≤ 40 * k := by
  induction k with
  | zero => simp [sizeTo]
  | succ k ih =>
    have hb : f.blocks[k]? = some (f.blocks[k]'(by omega)) := List.getElem?_eq_getElem _
    rw [sizeTo_step hb]
    have := hok.2.1 _ (List.getElem_mem (l := f.blocks) (n := k) (by omega))
    have := ih (by omega)
    omega
end Go.Proofs.Ytkpikgakphdjjaa
namespace Go.Proofs.Ytkpikgakphdjjaa
open Go.RowKit

def selTo (es : List (Int × Int)) (z : Int) (k : Nat) : List Int := ((es.take k).filter (fun e => e.2 == z)).map Prod.fst
theorem selTo_yes {es : List (Int × Int)} {z : Int} {k : Nat} {e : Int × Int} (h : es[k]? = some e) (hz : e.2 = z) : selTo es z k ++ [e.1] = selTo es z (k + 1) := by
  unfold selTo
  rw [List.take_add_one, h]
  simp [List.filter_append, hz]
theorem selTo_no {es : List (Int × Int)} {z : Int} {k : Nat} {e : Int × Int} (h : es[k]? = some e) (hz : ¬ e.2 = z) : selTo es z k = selTo es z (k + 1) := by
  unfold selTo
  rw [List.take_add_one, h]
  simp [List.filter_append, hz]
theorem selTo_len (es : List (Int × Int)) (z : Int) (k : Nat) : (selTo es z k).length ≤ k := by
  unfold selTo
  rw [List.length_map]
  exact Nat.le_trans (List.length_filter_le _ _) (List.length_take_le _ _)
theorem selTo_all {f : FunV} {z : Int} {k : Nat} (h : (edgesN f).length ≤ k) : selTo (edgesN f) z k = prevN f z := by
  unfold selTo prevN
  rw [List.take_of_length_le h]
theorem edgesN_len {f : FunV} (hok : FlowOk f) : (edgesN f).length ≤ 80 := by
  have h1 := edgesTo_len f f.blocks.length
  have h2 := hok.1
  unfold edgesN
  omega
set_option maxHeartbeats 1000000 in
set_option maxRecDepth 100000 in
theorem fprev_any (vk vb vs : Value) (f : FunV) (z : Int) (w : World) (B : Nat) (hB : B ≤ w.heap.size) (hi : FunI w (· < B) vk vb vs f) (hok : FlowOk f) :
    Calls Try.prog 29 #[.agg #[vk, vb, .int .i64 f.params, .int .i64 f.result, vs], .int .i64 z] w fun e w' => ∃ v, e = .returned v ∧ Ow w' w.heap.size 3 .i64 v (prevN f z) ∧ Below w.heap.size w w' := by
  have HED := hide (fun (W : World) (hW : Below w.heap.size w W) => fedges_any vk vb vs f W B (by have := hW.size; omega) (hi.keep (up hW hB) (fun _ h => h)) hok)
  obtain ⟨Ak, ck, rfl, hck, hmk⟩ := hi.1.open'
  obtain ⟨Ab, cb, rfl, hcb, hmb⟩ := hi.2.1.open'
  obtain ⟨As, cs, rfl, hcs, hms⟩ := hi.2.2.1.open'
  obtain ⟨i0, hi0, iz0, iz1, iz2⟩ := info_parts info_i64
  have HI := hide hi0
  clear hi0
  have hel := edgesN_len hok
  have HPA := hide (fun k h => @selTo_all f z k h)
  generalize edgesN f = es at *
  generalize prevN f z = pn at *
  obtain ⟨n, hn⟩ : ∃ n, es.length = n := ⟨_, rfl⟩
  rw [hn] at hel HPA
  have HN := hide hn
  generalize f.kinds.length = lk, f.base.length = lb, f.blocks.length = ls, f.params = fp, f.result = fr at *
  clear hi hok hn
  go_enter Try.func29, Try.ntmps29
  go_upto_region 1 with (fail)
  obtain ⟨w1, hw1⟩ : ∃ w1, w1 = w.alloc (.cells #[.slice Ak lk ck, .slice Ab lb cb, .int .i64 fp, .int .i64 fr, .slice As ls cs] 30) := ⟨_, rfl⟩
  have HX1 := hide (show Box w1 w.heap.size #[.slice Ak lk ck, .slice Ab lb cb, .int .i64 fp, .int .i64 fr, .slice As ls cs] 30 by rw [hw1]; exact Box.new w _ _)
  have HB1 := hide (show Below w.heap.size w w1 by rw [hw1]; exact alloc1 w _)
  rw [← hw1]
  clear hw1
  have l1 := HX1.out.lt
  have c0 := (HX1.out.cell 0 (v := .slice Ak lk ck) rfl).1
  have c1 := (HX1.out.cell 1 (v := .slice Ab lb cb) rfl).1
  have c2 := (HX1.out.cell 2 (v := .int .i64 fp) rfl).1
  have c3 := (HX1.out.cell 3 (v := .int .i64 fr) rfl).1
  have c4 := (HX1.out.cell 4 (v := .slice As ls cs) rfl).1
  go_wp2_with (go_at_call 28; refine (HED.out w1 HB1.out).mono ?_; rintro e w2 ⟨ve, rfl, hoe, hb2⟩; obtain ⟨Ae, ce, hve, hce, hme, hse⟩ := hoe.sl; have HSE := hide hse; have HVE := hide hve; have HB2 := hide (HB1.out.trans (hb2.mono HB1.out.size)); rw [HN.out] at hve; subst hve; clear hb2 hoe hse HVE)
  rw [HN.out] at hce
  clear c0 c1 c2 c3 c4
  go_loopw [5, 11] (fun l i wr => ∃ (v : Value) (k : Nat), v = l ∧ k ≤ n ∧ i = .int .i64 k ∧ Below w2.heap.size w2 wr ∧ Hid (Ow wr w2.heap.size 3 .i64 v (selTo es z k))) (fun _ i _ => n - (intOf i).toNat)
  case atStart => exact ⟨_, 0, rfl, Nat.zero_le _, rfl, Below.refl _ _, hide (Ow.nil _ _ _ _)⟩
  case round =>
    obtain ⟨v, k, rfl, hk, rfl, hb, how⟩ := hrel
    obtain ⟨wo, rfl⟩ : ∃ wo, wo = wr := ⟨_, rfl⟩
    have hsz := hb.size
    have HBW := hide hb
    have HBEL := hide (HB2.out.trans (hb.mono HB2.out.size))
    clear hb
    by_cases hlt : k < n
    case neg =>
      have HO := hide (show Ow wo w.heap.size 3 .i64 v pn by rw [← HPA.out k (by omega)]; exact how.out.lower HB2.out.size)
      go_wp2
      go_ret
      exact ⟨_, rfl, HO.out, HBEL.out⟩
    obtain ⟨y, hy⟩ : ∃ y, es[k]? = some y := ⟨_, List.getElem?_eq_getElem (by have := HN.out; omega)⟩
    obtain ⟨be, oe, rfl, hbe, hce'⟩ := HSE.out (by have := HN.out; omega)
    obtain ⟨y1, y2⟩ := hce' k y hy
    have d1 := (HBW.out.cell (p := ⟨be, oe + k * 2, none⟩) hbe).trans y1
    have d2 := (HBW.out.cell (p := ⟨be, oe + k * 2 + 1, none⟩) hbe).trans y2
    have hbs : be < wo.heap.size := by omega
    have HYES := hide (fun h : y.2 = z => selTo_yes hy h)
    have HNO := hide (fun h : ¬ y.2 = z => selTo_no hy h)
    have hsl := selTo_len es z k
    have hro : (selTo es z k).length < 1099511627776 := by omega
    have HRO := hide hro
    obtain ⟨ya, yb⟩ := y
    simp only at d1 d2
    clear hce' y1 y2 hy hro hsl
    go_upto_region 5 with (fail)
    obtain ⟨w4, hw4⟩ : ∃ w4, w4 = wo.alloc (.cells #[.int .i64 ya, .int .i64 yb] 64) := ⟨_, rfl⟩
    obtain ⟨h4, hh4⟩ : ∃ h4, wo.heap.size = h4 := ⟨_, rfl⟩
    have HX4 := hide (show Box w4 h4 #[.int .i64 ya, .int .i64 yb] 64 by rw [hw4, ← hh4]; exact Box.new wo _ _)
    have HB4 := hide (show Below w2.heap.size w2 w4 by rw [hw4]; exact HBW.out.alloc hsz _)
    have HO4 := hide (show Ow w4 w2.heap.size 3 .i64 v (selTo es z k) by rw [hw4]; exact how.out.alloc _)
    rw [← hw4, hh4]
    clear hw4 hh4 d1 d2 hbs
    have l4 := HX4.out.lt
    have d1 := (HX4.out.cell 0 (v := .int .i64 ya) rfl).1
    have d2 := (HX4.out.cell 1 (v := .int .i64 yb) rfl).1
    have hz4 := HB4.out.size
    by_cases he : yb = z
    · have HST := hide (HYES.out he)
      have hq : (yb == z) = true := by simpa using he
      clear he HYES HNO
      go_wp2_with (at_builtin; refine wpList_append_one w4 rfl (.tmp 19) (.tmp 22) _ rfl w2.heap.size 3 .i64 i0 _ 8 Try.underlying27 HI.out iz0 iz1 iz2 rfl (by omega) v (selTo es z k) (by rfl) HO4.out ya (by rfl) HRO.out hz4 ?_; intro v5 w5 ho5 hb5)
      go_roundw
      case rel => exact ⟨v5, k + 1, rfl, by omega, by go_num, HB4.out.trans hb5, hide (by rw [← HST.out]; exact ho5)⟩
      case measure => simp [intOf]; omega
    · have HST := hide (HNO.out he)
      have hq : (yb == z) = false := by simpa using he
      clear he HYES HNO
      go_wp2
      go_roundw
      case rel => exact ⟨v, k + 1, rfl, by omega, by go_num, HB4.out, hide (by rw [← HST.out]; exact HO4.out)⟩
      case measure => simp [intOf]; omega

theorem mem_take_step {l : List Int} {z y : Int} {k : Nat} (h : z ∉ l.take k) (hy : l[k]? = some y) (hz : ¬ y = z) : z ∉ l.take (k + 1) := by
  rw [List.take_add_one, hy]
  intro hm
  rcases List.mem_append.1 hm with h1 | h1
  · exact h h1
  · simp at h1; exact hz h1.symm
end Go.Proofs.Ytkpikgakphdjjaa
namespace Go.Proofs.Ytkpikgakphdjjaa
open Go.RowKit

theorem prevTo_yes {f : FunV} {z : Int} {k : Nat} (h : z ∈ nxt f k) : prevTo f z k ++ [(k : Int)] = prevTo f z (k + 1) := by rw [prevTo_step, if_pos h]
theorem prevTo_no {f : FunV} {z : Int} {k : Nat} (h : ¬ z ∈ nxt f k) : prevTo f z k = prevTo f z (k + 1) := by rw [prevTo_step, if_neg h, List.append_nil]
set_option maxRecDepth 100000 in
theorem fsize_any (vk vb vs : Value) (f : FunV) (w : World) (B : Nat) (hB : B ≤ w.heap.size) (hi : FunI w (· < B) vk vb vs f) (hok : FlowOk f) :
    Calls Try.prog 30 #[.agg #[vk, vb, .int .i64 f.params, .int .i64 f.result, vs]] w fun e w' => e = .returned (.int .i64 (sizeTo f f.blocks.length : Nat)) ∧ Below w.heap.size w w' := by
  obtain ⟨Ak, ck, rfl, hck, hmk⟩ := hi.1.open'
  obtain ⟨Ab, cb, rfl, hcb, hmb⟩ := hi.2.1.open'
  obtain ⟨As, cs, rfl, hcs, hms⟩ := hi.2.2.1.open'
  have HBK := hide (fun (W : World) (hW : Below w.heap.size w W) => hi.2.2.1.keep (up hW hB) (fun _ h => h))
  have hls40 := hok.1
  have HB40 := hide hok.2.1
  have HSL := hide (fun k hk => sizeTo_le hok k hk)
  have HST := hide (fun k b h => @sizeTo_step f k b h)
  have HS0 := hide (show sizeTo f 0 = 0 from rfl)
  generalize sizeTo f = sz at *
  obtain ⟨ls, hls⟩ : ∃ ls, f.blocks.length = ls := ⟨_, rfl⟩
  have HLS := hide hls
  rw [hls] at HBK hls40 HSL hcs ⊢
  generalize f.kinds.length = lk, f.base.length = lb, f.params = fp, f.result = fr at *
  clear hi hok hls
  go_enter Try.func30, Try.ntmps30
  go_upto_region 1 with (fail)
  obtain ⟨w1, hw1⟩ : ∃ w1, w1 = w.alloc (.cells #[.slice Ak lk ck, .slice Ab lb cb, .int .i64 fp, .int .i64 fr, .slice As ls cs] 30) := ⟨_, rfl⟩
  have HX1 := hide (show Box w1 w.heap.size #[.slice Ak lk ck, .slice Ab lb cb, .int .i64 fp, .int .i64 fr, .slice As ls cs] 30 by rw [hw1]; exact Box.new w _ _)
  have HB1 := hide (show Below w.heap.size w w1 by rw [hw1]; exact alloc1 w _)
  rw [← hw1]
  clear hw1
  have l1 := HX1.out.lt
  have c4 := (HX1.out.cell 4 (v := .slice As ls cs) rfl).1
  go_wp2
  go_loopw [3, 9] (fun l i wr => ∃ (k : Nat), k ≤ ls ∧ l = .int .i64 (sz k : Nat) ∧ i = .int .i64 k ∧ Below w1.heap.size w1 wr) (fun _ i _ => ls - (intOf i).toNat)
  case atStart => exact ⟨0, Nat.zero_le _, by rw [HS0.out]; rfl, rfl, Below.refl _ _⟩
  case round =>
    obtain ⟨k, hk, rfl, rfl, hb⟩ := hrel
    obtain ⟨wo, rfl⟩ : ∃ wo, wo = wr := ⟨_, rfl⟩
    have hsz := hb.size
    have HBW := hide hb
    have HBEL := hide (HB1.out.trans (hb.mono HB1.out.size))
    clear hb c4
    by_cases hlt : k < ls
    case neg =>
      obtain rfl : k = ls := by omega
      go_wp2
      go_ret
      exact ⟨rfl, HBEL.out⟩
    obtain ⟨x, hx⟩ : ∃ x, f.blocks[k]? = some x := ⟨_, List.getElem?_eq_getElem (by have := HLS.out; omega)⟩
    obtain ⟨b1, o1, A1, c1, rfl, hbb1, g0, -⟩ := (HBK.out wo HBEL.out).get hx
    have hbs : b1 < wo.heap.size := by have := HBEL.out.size; omega
    have hx40 := HB40.out x (List.mem_of_getElem? hx)
    have hs40 := HSL.out k hk
    have hst := HST.out k x hx
    generalize x.length = m at *
    obtain ⟨s, hs⟩ : ∃ s, sz k = s := ⟨_, rfl⟩
    obtain ⟨s', hs'⟩ : ∃ s, sz (k + 1) = s := ⟨_, rfl⟩
    rw [hs, hs'] at hst
    rw [hs] at hs40 ⊢
    have HNXT := hide (show sz (k + 1) = s + m by rw [hs', hst])
    clear hs hs' hst hx
    go_wp2
    go_roundw
    case rel => exact ⟨k + 1, by omega, by rw [HNXT.out]; go_num, by go_num, HBW.out.alloc hsz _⟩
    case measure => simp [intOf]; omega
end Go.Proofs.Ytkpikgakphdjjaa
