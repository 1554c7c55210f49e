/- Layer 7: Back, Plain, Heads of the reference. Condition: the function is one of a program that may be. -/
import Derived.Test.YtlolgahaphmfoaaLR
set_option linter.unusedSimpArgs false
set_option linter.unusedVariables false
namespace Go.Proofs.Ytlolgahaphmfoaa
open Go.RowKit

set_option maxHeartbeats 4000000 in
set_option maxRecDepth 100000 in
theorem rback_any (vk vb vs : Value) (f : FunV) (o : List Int) (ho : OrderOf f o) (A : List Int) (hAf : AbvOf f A) (p : Int → Int → Bool) (hp : ∀ a b, p a b = true ↔ domQ A a b) (w : World) (B : Nat) (hB : B ≤ w.heap.size) (hi : FunI w (· < B) vk vb vs f) (hok : FlowOk f) (h1 : 1 ≤ f.blocks.length) :
    Calls Try.prog 14 #[.agg #[vk, vb, .int .i64 f.params, .int .i64 f.result, vs]] w fun e w' => ∃ v, e = .returned v ∧ OwE w' w.heap.size v (backN f o p) ∧ Below w.heap.size w w' := by
  have HTU := hide (fun (W : World) (hW : Below w.heap.size w W) => rturns_any vk vb vs f o ho W B (by have := hW.size; omega) (hi.keep (up hW hB) (fun _ h => h)) hok h1)
  have HDM := hide (fun (W : World) (hW : Below w.heap.size w W) (a b : Int) => (rdom_any vk vb vs f A hAf a b W B (by have := hW.size; omega) (hi.keep (up hW hB) (fun _ h => h)) hok h1).mono (R' := fun e w' => e = .returned (.bool (p a b)) ∧ Below W.heap.size W w') (fun e w' ⟨d, q1, q2, q3⟩ => ⟨by rw [q1]; congr 2; rw [Bool.eq_iff_iff, q2, hp], q3⟩))
  have hel := turns_len (o := o) hok
  have HTN := hide (show (turnsN f o).filter (backB p) = backN f o p from rfl)
  obtain ⟨i0, hi0, iz0, iz1, iz2⟩ := info_parts info_edge
  have HI := hide hi0
  obtain ⟨Ak, ck, rfl, hck, hmk⟩ := hi.1.open'
  obtain ⟨Ab, cb, rfl, hcb, hmb⟩ := hi.2.1.open'
  obtain ⟨As, cs, rfl, hcs, hms⟩ := hi.2.2.1.open'
  obtain ⟨es, hes⟩ : ∃ es, turnsN f o = es := ⟨_, rfl⟩
  rw [hes] at HTU HTN hel
  obtain ⟨n, hne⟩ : ∃ n, es.length = n := ⟨_, rfl⟩
  have HN := hide hne
  rw [hne] at hel
  have HFA := hide (fun k (h : n ≤ k) => @fltTo_all (backB p) es k (by omega))
  have HFY := hide (fun k (e : Int × Int) (h : es[k]? = some e) (h2 : backB p e = true) => fltTo_yes h h2)
  have HFN := hide (fun k (e : Int × Int) (h : es[k]? = some e) (h2 : backB p e = false) => fltTo_no h h2)
  have HFL := hide (fun k => fltTo_len (backB p) es k)
  have HF0 := hide (fltTo_zero (backB p) es)
  generalize f.kinds.length = lk, f.base.length = lb, f.blocks.length = ls, f.params = fp, f.result = fr at *
  clear hi hok hes hne ho h1 hi0 hAf hp
  go_enter Try.func14, Try.ntmps14
  go_upto_region 1 with (fail)
  obtain ⟨w1, hw1⟩ : ∃ w1, w1 = w.alloc (.cells #[.slice Ak lk ck, .slice Ab lb cb, .int .i64 fp, .int .i64 fr, .slice As ls cs] 30) := ⟨_, rfl⟩
  obtain ⟨h5, hh5⟩ : ∃ h5, w.heap.size = h5 := ⟨_, rfl⟩
  have HX1 := hide (show Box w1 h5 #[.slice Ak lk ck, .slice Ab lb cb, .int .i64 fp, .int .i64 fr, .slice As ls cs] 30 by rw [hw1, ← hh5]; exact Box.new w _ _)
  have HB1 := hide (show Below w.heap.size w w1 by rw [hw1]; exact alloc1 w _)
  have HK1 := hide (fun (W : World) (hW : Below w1.heap.size w1 W) => And.intro ((HX1.out.below hW).cell 0 (v := .slice Ak lk ck) rfl).1 (And.intro ((HX1.out.below hW).cell 1 (v := .slice Ab lb cb) rfl).1 (And.intro ((HX1.out.below hW).cell 2 (v := .int .i64 fp) rfl).1 (And.intro ((HX1.out.below hW).cell 3 (v := .int .i64 fr) rfl).1 ((HX1.out.below hW).cell 4 (v := .slice As ls cs) rfl).1))))
  have HUP := hide (fun (W : World) (hW : Below w1.heap.size w1 W) => HB1.out.trans (hW.mono HB1.out.size))
  have l1 := HX1.out.lt
  have hw1s := HB1.out.size
  rw [← hw1, hh5]
  clear hw1 hh5
  obtain ⟨c0, c1, c2, c3, c4⟩ := HK1.out w1 (Below.refl _ _)
  go_wp2_with (go_at_call 12; refine (HTU.out w1 HB1.out).mono ?_; rintro e w3 ⟨v3, rfl, ho3, hb3⟩; obtain ⟨A3, k3, hv3, hle3, hme3, hs3⟩ := ho3.sl; rw [HN.out] at hv3 hle3; have HS3 := hide hs3; have HB3 := hide hb3; subst hv3; clear hb3 ho3 hs3)
  clear c0 c1 c2 c3 c4
  have hz3 := HB3.out.size
  go_loopw [4, 5] (fun l i wr => ∃ (v : Value) (k : Nat), v = l ∧ k ≤ n ∧ i = .int .i64 k ∧ Below w3.heap.size w3 wr ∧ Hid (OwE wr w3.heap.size v (fltTo (backB p) es k))) (fun _ i _ => n - (intOf i).toNat)
  case atStart => exact ⟨_, 0, rfl, Nat.zero_le _, rfl, Below.refl _ _, hide (by rw [HF0.out]; exact OwE.nil _ _)⟩
  case round =>
    obtain ⟨v, k, rfl, hk, rfl, hb', how⟩ := hrel
    obtain ⟨wo, rfl⟩ : ∃ wo, wo = wr := ⟨_, rfl⟩
    have hsz := hb'.size
    have HBW := hide hb'
    clear hb'
    by_cases hlt : k < n
    case neg =>
      have HF := hide (HUP.out w3 HB3.out)
      have HO := hide (show OwE wo w.heap.size v (backN f o p) by rw [← HTN.out, ← HFA.out k (by omega)]; exact how.out.lower HF.out.size)
      go_wp2
      go_ret
      exact ⟨_, rfl, HO.out, HF.out.trans (HBW.out.mono HF.out.size)⟩
    obtain ⟨y, hy⟩ : ∃ y, es[k]? = some y := ⟨_, List.getElem?_eq_getElem (by have := HN.out; omega)⟩
    obtain ⟨be, oe, rfl, hbe, hce'⟩ := HS3.out (by have := HN.out; omega)
    obtain ⟨y1, y2⟩ := hce' k y hy
    have hfl := HFL.out k
    have hro : (fltTo (backB p) es k).length < 1000000 := by omega
    have HRO := hide hro
    have HY := hide hy
    obtain ⟨ya, yb⟩ := y
    simp only at y1 y2
    have HK := hide (fun (W : World) (hW : Below w3.heap.size w3 W) => And.intro (HK1.out W (HB3.out.trans (hW.mono hz3))) (And.intro ((hW.cell (p := ⟨be, oe + k * 2, none⟩) hbe).trans y1) ((hW.cell (p := ⟨be, oe + k * 2 + 1, none⟩) hbe).trans y2)))
    obtain ⟨⟨c0, c1, c2, c3, c4⟩, d1, d2⟩ := HK.out wo HBW.out
    have hbs : be < wo.heap.size := by omega
    have lo : h5 < wo.heap.size := by omega
    have HUO := hide (fun (W : World) (hW : Below w3.heap.size w3 W) => HUP.out W (HB3.out.trans (hW.mono hz3)))
    obtain ⟨q, hq⟩ : ∃ q, p yb ya = q := ⟨_, rfl⟩
    have HQ := hide (show backB p (ya, yb) = q from hq)
    have HDK := hide (fun (W : World) (hW : Below w3.heap.size w3 W) => HDM.out W (HUO.out W hW) yb ya)
    rw [hq] at HDK
    have kk1 : (0 : Int) ≤ (k : Int) := by omega
    have kk2 : (k : Int) < (n : Int) := by omega
    clear hce' y1 y2 hy hro hfl hq
    go_upto_region 6 with (fail)
    go_region_held3 (fun w' => w'.cell? ⟨h5, 0, none⟩ = some (.slice Ak lk ck) ∧ w'.cell? ⟨h5, 1, none⟩ = some (.slice Ab lb cb) ∧ w'.cell? ⟨h5, 2, none⟩ = some (.int .i64 fp) ∧ w'.cell? ⟨h5, 3, none⟩ = some (.int .i64 fr) ∧ w'.cell? ⟨h5, 4, none⟩ = some (.slice As ls cs) ∧ w'.cell? ⟨be, oe + k * 2, none⟩ = some (.int .i64 ya) ∧ w'.cell? ⟨be, oe + k * 2 + 1, none⟩ = some (.int .i64 yb)) (first | go_keep | (exact ⟨q6.1.1, q6.1.2.1, q6.1.2.2.1, q6.1.2.2.2.1, q6.1.2.2.2.2, q6.2.1, q6.2.2⟩))
      (first | (go_at_call 38; refine (HDK.out _ (below_drewN HBW.out 1)).mono ?_; rintro e w6 ⟨rfl, hb6⟩; have hc6 : Below wo.heap.size wo w6 := ⟨hb6.os, hb6.tape, hb6.output, hb6.size, hb6.block⟩; have hd6 := HBW.out.trans (hc6.mono hsz); have q6 := HK.out w6 hd6; have HC6 := hide hc6; have HD6 := hide hd6; clear hb6 hc6 hd6))
    all_goals
      have hz6 := HC6.out.size
      have HO6 := hide (how.out.below HC6.out)
      clear c0 c1 c2 c3 c4 d1 d2
      obtain ⟨-, d1, d2⟩ := HK.out w6 HD6.out
      have hbs6 : be < w6.heap.size := by omega
      have hsz6 : w3.heap.size ≤ w6.heap.size := by omega
      cases q with
      | true =>
        have HST := hide (HFY.out k _ HY.out HQ.out)
        go_wp2_with (at_builtin; refine wpList_append_edge w6 rfl (.tmp 26) (.tmp 31) _ rfl w3.heap.size i0 _ Try.underlying32 HI.out iz0 iz1 iz2 rfl v (fltTo (backB p) es k) (by rfl) HO6.out ya yb (by rfl) HRO.out hsz6 ?_; intro v7 w7 ho7 hb7 hf7 hv7)
        go_roundw
        case rel => exact ⟨v7, k + 1, rfl, by omega, by go_num, HD6.out.trans hb7, hide (by rw [← HST.out]; exact ho7)⟩
        case measure => simp [intOf]; omega
      | false =>
        have HST := hide (HFN.out k _ HY.out HQ.out)
        go_wp2
        go_roundw
        case rel => exact ⟨v, k + 1, rfl, by omega, by go_num, HD6.out, hide (by rw [← HST.out]; exact HO6.out)⟩
        case measure => simp [intOf]; omega
set_option maxHeartbeats 2000000 in
set_option maxRecDepth 100000 in
theorem rplain_any (vk vb vs : Value) (f : FunV) (o : List Int) (ho : OrderOf f o) (A : List Int) (hAf : AbvOf f A) (p : Int → Int → Bool) (hp : ∀ a b, p a b = true ↔ domQ A a b) (w : World) (B : Nat) (hB : B ≤ w.heap.size) (hi : FunI w (· < B) vk vb vs f) (hok : FlowOk f) (h1 : 1 ≤ f.blocks.length) :
    Calls Try.prog 16 #[.agg #[vk, vb, .int .i64 f.params, .int .i64 f.result, vs]] w fun e w' => e = .returned (.bool (decide ((turnsN f o).length = (backN f o p).length))) ∧ Below w.heap.size w w' := by
  have HTU := hide (fun (W : World) (hW : Below w.heap.size w W) => rturns_any vk vb vs f o ho W B (by have := hW.size; omega) (hi.keep (up hW hB) (fun _ h => h)) hok h1)
  have HBK := hide (fun (W : World) (hW : Below w.heap.size w W) => rback_any vk vb vs f o ho A hAf p hp W B (by have := hW.size; omega) (hi.keep (up hW hB) (fun _ h => h)) hok h1)
  obtain ⟨Ak, ck, rfl, hck, hmk⟩ := hi.1.open'
  obtain ⟨Ab, cb, rfl, hcb, hmb⟩ := hi.2.1.open'
  obtain ⟨As, cs, rfl, hcs, hms⟩ := hi.2.2.1.open'
  obtain ⟨nt, hnt⟩ : ∃ n, (turnsN f o).length = n := ⟨_, rfl⟩
  obtain ⟨nb, hnb⟩ : ∃ n, (backN f o p).length = n := ⟨_, rfl⟩
  rw [hnt, hnb]
  have HNT := hide hnt
  have HNB := hide hnb
  generalize f.kinds.length = lk, f.base.length = lb, f.blocks.length = ls, f.params = fp, f.result = fr at *
  clear hi hok hnt hnb ho hAf hp
  go_enter Try.func16, Try.ntmps16
  go_upto_region 1 with (fail)
  obtain ⟨w1, hw1⟩ : ∃ w1, w1 = w.alloc (.cells #[.slice Ak lk ck, .slice Ab lb cb, .int .i64 fp, .int .i64 fr, .slice As ls cs] 30) := ⟨_, rfl⟩
  obtain ⟨h5, hh5⟩ : ∃ h5, w.heap.size = h5 := ⟨_, rfl⟩
  have HX1 := hide (show Box w1 h5 #[.slice Ak lk ck, .slice Ab lb cb, .int .i64 fp, .int .i64 fr, .slice As ls cs] 30 by rw [hw1, ← hh5]; exact Box.new w _ _)
  have HB1 := hide (show Below w.heap.size w w1 by rw [hw1]; exact alloc1 w _)
  have HK1 := hide (fun (W : World) (hW : Below w1.heap.size w1 W) => And.intro ((HX1.out.below hW).cell 0 (v := .slice Ak lk ck) rfl).1 (And.intro ((HX1.out.below hW).cell 1 (v := .slice Ab lb cb) rfl).1 (And.intro ((HX1.out.below hW).cell 2 (v := .int .i64 fp) rfl).1 (And.intro ((HX1.out.below hW).cell 3 (v := .int .i64 fr) rfl).1 ((HX1.out.below hW).cell 4 (v := .slice As ls cs) rfl).1))))
  have HUP := hide (fun (W : World) (hW : Below w1.heap.size w1 W) => HB1.out.trans (hW.mono HB1.out.size))
  have l1 := HX1.out.lt
  have hw1s := HB1.out.size
  rw [← hw1, hh5]
  clear hw1 hh5
  obtain ⟨c0, c1, c2, c3, c4⟩ := HK1.out w1 (Below.refl _ _)
  go_region_held3 (fun w' => w'.cell? ⟨h5, 0, none⟩ = some (.slice Ak lk ck) ∧ w'.cell? ⟨h5, 1, none⟩ = some (.slice Ab lb cb) ∧ w'.cell? ⟨h5, 2, none⟩ = some (.int .i64 fp) ∧ w'.cell? ⟨h5, 3, none⟩ = some (.int .i64 fr) ∧ w'.cell? ⟨h5, 4, none⟩ = some (.slice As ls cs)) (first | go_keep | (exact q7) | (exact q6))
    (first
      | (go_at_call 14; refine (HBK.out w6 (HUP.out w6 HC6.out)).mono ?_; rintro e w7 ⟨v7, rfl, ho7, hb7⟩; obtain ⟨A7, k7, hv7, hle7, hme7, -⟩ := ho7.sl; rw [HNB.out] at hv7; have hc7 := HC6.out.trans (hb7.mono HC6.out.size); have q7 := HK1.out w7 hc7; have HC7 := hide hc7; subst hv7; clear hb7 hc7 ho7 hle7 hme7)
      | (go_at_call 12; refine (HTU.out _ (HUP.out _ (below_drewN (Below.refl _ _) 1))).mono ?_; rintro e w6 ⟨v6, rfl, ho6, hb6⟩; obtain ⟨A6, k6, hv6, hle6, hme6, -⟩ := ho6.sl; rw [HNT.out] at hv6; have hc6 : Below w1.heap.size w1 w6 := ⟨hb6.os, hb6.tape, hb6.output, hb6.size, hb6.block⟩; have q6 := HK1.out w6 hc6; have HC6 := hide hc6; subst hv6; clear hb6 hc6 ho6 hle6 hme6))
  all_goals
    have HE := hide (HUP.out w7 HC7.out)
    go_wp2
    go_ret
    exact ⟨ret_bool (by first | rfl | (simp; done) | (rw [Bool.eq_iff_iff]; simp; omega)), HE.out⟩
def hdTo (es : List (Int × Int)) (k : Nat) : List Int := ((List.range k).filter (fun b : Nat => es.any (fun e => e.2 == (b : Int)))).map (fun b : Nat => (b : Int))
theorem hdTo_step (es : List (Int × Int)) (k : Nat) : hdTo es (k + 1) = if es.any (fun e => e.2 == (k : Int)) = true then hdTo es k ++ [(k : Int)] else hdTo es k := by
  unfold hdTo
  rw [List.range_succ, List.filter_append, List.map_append]
  split <;> rename_i h <;> simp [h]
theorem hdTo_len (es : List (Int × Int)) (k : Nat) : (hdTo es k).length ≤ k := by
  unfold hdTo
  rw [List.length_map]
  exact Nat.le_trans (List.length_filter_le _ _) (by simp)
theorem hdTo_heads {es : List (Int × Int)} {n : Nat} (h : ∀ u y, (u, y) ∈ es → 0 ≤ y ∧ y < (n : Int)) : IsHeads es (hdTo es n) := by
  refine ⟨asc_range _ _, fun y => ?_⟩
  unfold hdTo
  simp only [List.mem_map, List.mem_filter, List.mem_range, List.any_eq_true, beq_iff_eq]
  constructor
  · rintro ⟨b, ⟨h1, ⟨u, v⟩, h2, h3⟩, rfl⟩
    exact ⟨u, by simp only at h3; rw [← h3]; exact h2⟩
  · rintro ⟨u, hu⟩
    have := h u y hu
    exact ⟨y.toNat, ⟨by omega, (u, y), hu, by simp only; omega⟩, by omega⟩
theorem any_take_step {es : List (Int × Int)} {q : Int × Int → Bool} {k : Nat} {e : Int × Int} (h : es[k]? = some e) : (es.take (k + 1)).any q = ((es.take k).any q || q e) := by
  rw [take_snocE h, List.any_append]
  simp
set_option maxHeartbeats 2000000 in
set_option maxRecDepth 100000 in
theorem rheads_any (vk vb vs : Value) (f : FunV) (o : List Int) (ho : OrderOf f o) (A : List Int) (hAf : AbvOf f A) (p : Int → Int → Bool) (hp : ∀ a b, p a b = true ↔ domQ A a b) (hs : List Int) (hhs : IsHeads (backN f o p) hs) (w : World) (B : Nat) (hB : B ≤ w.heap.size) (hi : FunI w (· < B) vk vb vs f) (hok : FlowOk f) (h1 : 1 ≤ f.blocks.length) :
    Calls Try.prog 19 #[.agg #[vk, vb, .int .i64 f.params, .int .i64 f.result, vs]] w fun e w' => ∃ v, e = .returned v ∧ Ow w' w.heap.size 3 .i64 v hs ∧ Below w.heap.size w w' := by
  have HBK := hide (fun (W : World) (hW : Below w.heap.size w W) => rback_any vk vb vs f o ho A hAf p hp W B (by have := hW.size; omega) (hi.keep (up hW hB) (fun _ h => h)) hok h1)
  have hel := back_len (o := o) (p := p) hok
  have HHE := hide (show hdTo (backN f o p) f.blocks.length = hs from (hdTo_heads (fun u y hu => by obtain ⟨-, b, -, rfl, -, hb, -⟩ := back_nat hok hu; omega)).one hhs)
  have hls40 := hok.1
  obtain ⟨i0, hi0, iz0, iz1, iz2⟩ := info_parts info_i64
  have HI := hide hi0
  obtain ⟨Ak, ck, rfl, hck, hmk⟩ := hi.1.open'
  obtain ⟨Ab, cb, rfl, hcb, hmb⟩ := hi.2.1.open'
  obtain ⟨As, cs, rfl, hcs, hms⟩ := hi.2.2.1.open'
  obtain ⟨es, hes⟩ : ∃ es, backN f o p = es := ⟨_, rfl⟩
  rw [hes] at HBK hel HHE
  obtain ⟨n, hne⟩ : ∃ n, es.length = n := ⟨_, rfl⟩
  have HN := hide hne
  rw [hne] at hel
  generalize f.kinds.length = lk, f.base.length = lb, f.blocks.length = ls, f.params = fp, f.result = fr at *
  clear hi hok hes hne ho h1 hi0 hAf hp hhs
  go_enter Try.func19, Try.ntmps19
  go_upto_region 1 with (fail)
  obtain ⟨w1, hw1⟩ : ∃ w1, w1 = w.alloc (.cells #[.slice Ak lk ck, .slice Ab lb cb, .int .i64 fp, .int .i64 fr, .slice As ls cs] 30) := ⟨_, rfl⟩
  obtain ⟨h5, hh5⟩ : ∃ h5, w.heap.size = h5 := ⟨_, rfl⟩
  have HX1 := hide (show Box w1 h5 #[.slice Ak lk ck, .slice Ab lb cb, .int .i64 fp, .int .i64 fr, .slice As ls cs] 30 by rw [hw1, ← hh5]; exact Box.new w _ _)
  have HB1 := hide (show Below w.heap.size w w1 by rw [hw1]; exact alloc1 w _)
  have HK1 := hide (fun (W : World) (hW : Below w1.heap.size w1 W) => And.intro ((HX1.out.below hW).cell 0 (v := .slice Ak lk ck) rfl).1 (And.intro ((HX1.out.below hW).cell 1 (v := .slice Ab lb cb) rfl).1 (And.intro ((HX1.out.below hW).cell 2 (v := .int .i64 fp) rfl).1 (And.intro ((HX1.out.below hW).cell 3 (v := .int .i64 fr) rfl).1 ((HX1.out.below hW).cell 4 (v := .slice As ls cs) rfl).1))))
  have HUP := hide (fun (W : World) (hW : Below w1.heap.size w1 W) => HB1.out.trans (hW.mono HB1.out.size))
  have l1 := HX1.out.lt
  have hw1s := HB1.out.size
  rw [← hw1, hh5]
  clear hw1 hh5
  obtain ⟨c0, c1, c2, c3, c4⟩ := HK1.out w1 (Below.refl _ _)
  go_wp2_with (go_at_call 14; refine (HBK.out w1 HB1.out).mono ?_; rintro e w3 ⟨v3, rfl, ho3, hb3⟩; obtain ⟨A3, k3, hv3, hle3, hme3, hs3⟩ := ho3.sl; rw [HN.out] at hv3 hle3; have HS3 := hide hs3; have HB3 := hide hb3; subst hv3; clear hb3 ho3 hs3)
  clear c0 c1 c2 c3 c4
  have hz3 := HB3.out.size
  go_loopw [4, 5] (fun l i wr => ∃ (v : Value) (k : Nat), v = l ∧ k ≤ ls ∧ i = .int .i64 k ∧ Below w3.heap.size w3 wr ∧ Hid (Ow wr w3.heap.size 3 .i64 v (hdTo es k))) (fun _ i _ => ls - (intOf i).toNat)
  case atStart => exact ⟨_, 0, rfl, Nat.zero_le _, rfl, Below.refl _ _, hide (Ow.nil _ _ _ _)⟩
  case round =>
    obtain ⟨v, b, rfl, hk, rfl, hb', how⟩ := hrel
    obtain ⟨wo, rfl⟩ : ∃ wo, wo = wr := ⟨_, rfl⟩
    have hsz := hb'.size
    have HBW := hide hb'
    clear hb'
    have c4 := (HK1.out wo (HB3.out.trans (HBW.out.mono hz3))).2.2.2.2
    have lo : h5 < wo.heap.size := by omega
    by_cases hlt : b < ls
    case neg =>
      have HF := hide (HUP.out w3 HB3.out)
      have hbl : b = ls := by omega
      have HO := hide (show Ow wo w.heap.size 3 .i64 v hs by rw [← HHE.out, ← hbl]; exact how.out.lower HF.out.size)
      clear hbl
      go_wp2
      go_ret
      exact ⟨_, rfl, HO.out, HF.out.trans (HBW.out.mono HF.out.size)⟩
    have HSP := hide (hdTo_step es b)
    have HLN := hide (show (hdTo es b).length < 1099511627776 by have := hdTo_len es b; omega)
    go_wp2
    clear c4 lo
    go_loopw [6, 7] (fun x i wr => wr = wo ∧ ∃ (r : Bool) (k : Nat), x = .bool r ∧ k ≤ n ∧ i = .int .i64 k ∧ Hid ((es.take k).any (fun e => e.2 == (b : Int)) = r)) (fun _ i _ => n - (intOf i).toNat)
    case atStart => exact ⟨rfl, false, 0, rfl, Nat.zero_le _, rfl, hide (by simp)⟩
    case round =>
      obtain ⟨rfl, r, k, rfl, hk2, rfl, hr⟩ := hrel
      by_cases hlk : k < n
      case neg =>
        have HR := hide (show es.any (fun e => e.2 == (b : Int)) = r by have h := hr.out; rwa [List.take_of_length_le (by have := HN.out; omega)] at h)
        cases r with
        | true =>
          have HST := hide (show hdTo es b ++ [(b : Int)] = hdTo es (b + 1) by rw [HSP.out, if_pos HR.out])
          go_wp2_with (at_builtin; refine wpList_append_one wr rfl (.tmp 34) (.tmp 36) _ rfl w3.heap.size 3 .i64 i0 _ 8 Try.underlying27 HI.out iz0 iz1 iz2 rfl (by omega) v (hdTo es b) (by rfl) how.out (b : Int) (by rfl) HLN.out hsz ?_; intro v5 w5 ho5 hb5)
          go_roundw
          case rel => exact ⟨v5, b + 1, rfl, by omega, by go_num, HBW.out.trans hb5, hide (by rw [← HST.out]; exact ho5)⟩
          case measure => simp [intOf]; omega
        | false =>
          have HST := hide (show hdTo es b = hdTo es (b + 1) by rw [HSP.out, if_neg (by rw [HR.out]; simp)])
          go_wp2
          go_roundw
          case rel => exact ⟨v, b + 1, rfl, by omega, by go_num, HBW.out, hide (by rw [← HST.out]; exact how.out)⟩
          case measure => simp [intOf]; omega
      obtain ⟨y, hy⟩ : ∃ y, es[k]? = some y := ⟨_, List.getElem?_eq_getElem (by have := HN.out; omega)⟩
      obtain ⟨be, oe, rfl, hbe, hce'⟩ := HS3.out (by have := HN.out; omega)
      obtain ⟨y1, y2⟩ := hce' k y hy
      have d2 := (HBW.out.cell (p := ⟨be, oe + k * 2 + 1, none⟩) hbe).trans y2
      have hbs : be < wr.heap.size := by omega
      have HST := hide (any_take_step (q := fun e => e.2 == (b : Int)) hy)
      obtain ⟨ya, yb⟩ := y
      simp only at d2
      clear hce' y1 y2 hy
      cases r with
      | true =>
        go_wp2
        go_roundw
        case rel => exact ⟨(by first | rfl | trivial), true, k + 1, rfl, by omega, by go_num, hide (by rw [HST.out, hr.out]; rfl)⟩
        case measure => simp [intOf]; omega
      | false =>
        by_cases he : yb = (b : Int)
        · have q1 : (yb == (b : Int)) = true := by simpa using he
          have HQ := hide q1
          clear he
          go_wp2
          go_roundw
          case rel => exact ⟨(by first | rfl | trivial), true, k + 1, rfl, by omega, by go_num, hide (by rw [HST.out, hr.out]; simpa using HQ.out)⟩
          case measure => simp [intOf]; omega
        · have q1 : (yb == (b : Int)) = false := by simpa using he
          have HQ := hide q1
          clear he
          go_wp2
          go_roundw
          case rel => exact ⟨(by first | rfl | trivial), false, k + 1, rfl, by omega, by go_num, hide (by rw [HST.out, hr.out]; simpa using HQ.out)⟩
          case measure => simp [intOf]; omega
end Go.Proofs.Ytlolgahaphmfoaa
