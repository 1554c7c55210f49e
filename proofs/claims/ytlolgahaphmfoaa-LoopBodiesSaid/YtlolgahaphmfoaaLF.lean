/- Layer 7: heads, Heads, Plain: what the program answers. Condition: the function is one of a program that may be. -/
import Derived.Test.YtlolgahaphmfoaaLE
import Derived.Test.YtlolgahaphmfoaaLD
set_option linter.unusedSimpArgs false
set_option linter.unusedVariables false
namespace Go.Proofs.Ytlolgahaphmfoaa
open Go.RowKit

def sndTo (es : List (Int × Int)) (k : Nat) : List Int := (es.take k).map Prod.snd
theorem sndTo_step {es : List (Int × Int)} {k : Nat} {e : Int × Int} (h : es[k]? = some e) : sndTo es k ++ [e.2] = sndTo es (k + 1) := by
  unfold sndTo
  rw [take_snocE h, List.map_append]
  rfl
theorem sndTo_all {es : List (Int × Int)} {k : Nat} (h : es.length ≤ k) : sndTo es k = es.map Prod.snd := by
  unfold sndTo
  rw [List.take_of_length_le h]
theorem sndTo_len (es : List (Int × Int)) (k : Nat) : (sndTo es k).length ≤ k := by
  unfold sndTo
  rw [List.length_map]
  exact List.length_take_le _ _
set_option maxHeartbeats 2000000 in
set_option maxRecDepth 100000 in
theorem lhds_any (es : List (Int × Int)) (Ae : Option Addr) (ce : Nat) (w : World) (hn : es.length ≤ 80) (hs : EdgS w w.heap.size Ae es) (hle : es.length ≤ ce) (hlm : ce ≤ 9223372036854775807) :
    Calls Try.prog 39 #[.slice Ae es.length ce] w fun e w' => ∃ v l, e = .returned v ∧ IsHeads es l ∧ Ow w' w.heap.size 3 .i64 v l ∧ Below w.heap.size w w' := by
  have HS := hide hs
  obtain ⟨i0, hi0, iz0, iz1, iz2⟩ := info_parts info_i64
  have HI := hide hi0
  have HSO := hide (fun v l base w h1 h2 => sortAll_any v l base w h1 h2)
  have HCP := hide (fun v zs h1 base w h2 h3 h4 => compact_any v zs h1 base w h2 h3 h4)
  have HHD := hide (fun D n h1 h2 => @DD.heads es D n h1 h2)
  obtain ⟨n, hn'⟩ : ∃ n, es.length = n := ⟨_, rfl⟩
  have HN := hide hn'
  rw [hn'] at hn hle HHD ⊢
  have HFA := hide (fun k (h : n ≤ k) => @sndTo_all es k (by omega))
  have HFY := hide (fun k (e : Int × Int) (h : es[k]? = some e) => sndTo_step h)
  have HFL := hide (fun k => sndTo_len es k)
  have HF0 := hide (show sndTo es 0 = [] by simp [sndTo])
  have HML := hide (show (es.map Prod.snd).length = n by rw [List.length_map]; exact hn')
  clear hs hi0 hn'
  go_enter Try.func39, Try.ntmps39
  go_wp2
  go_loopw [3, 8] (fun l i wr => ∃ (v : Value) (k : Nat), v = l ∧ k ≤ n ∧ i = .int .i64 k ∧ Below w.heap.size w wr ∧ Hid (Ow wr w.heap.size 3 .i64 v (sndTo es k))) (fun _ i _ => n - (intOf i).toNat)
  case atStart => exact ⟨_, 0, rfl, Nat.zero_le _, rfl, Below.refl _ _, hide (by rw [HF0.out]; exact Ow.nil _ _ _ _)⟩
  case round =>
    obtain ⟨v, k, rfl, hk, rfl, hb', how⟩ := hrel
    obtain ⟨wo, rfl⟩ : ∃ wo, wo = wr := ⟨_, rfl⟩
    have hsz := hb'.size
    have HBW := hide hb'
    clear hb'
    by_cases hlt : k < n
    case neg =>
      have HO := hide (show Ow wo w.heap.size 3 .i64 v (es.map Prod.snd) by rw [← HFA.out k (by omega)]; exact how.out)
      have HC1 := hide (HSO.out v _ w.heap.size wo HO.out (by have := HML.out; omega))
      go_wp2_with (first
        | (go_at_call 53; refine (HC2.out).mono ?_; rintro e w3 ⟨v3, D, rfl, ho3, hdd, hb3⟩)
        | (go_at_call 52; refine (HC1.out).mono ?_; rintro e w2 ⟨rfl, ho2, hb2⟩; have HB2 := hide (HBW.out.trans hb2); have HC2 := hide (HCP.out v _ (sortL_le _) w.heap.size w2 ho2 HB2.out.size (by rw [sortL_len]; have := HML.out; omega)); clear ho2 hb2))
      go_ret
      exact ⟨v3, D, rfl, HHD.out D _ hdd (by rw [sortL_len, HML.out]; exact Nat.le_refl _), ho3, HB2.out.trans hb3⟩
    obtain ⟨y, hy⟩ : ∃ y, es[k]? = some y := ⟨_, List.getElem?_eq_getElem (by have := HN.out; omega)⟩
    obtain ⟨be, oe, rfl, hbe, hce'⟩ := HS.out (by have := HN.out; omega)
    obtain ⟨y1, y2⟩ := hce' k y hy
    have d1 := (HBW.out.cell (p := ⟨be, oe + k * 2, none⟩) hbe).trans y1
    have d2 := (HBW.out.cell (p := ⟨be, oe + k * 2 + 1, none⟩) hbe).trans y2
    have hbs : be < wo.heap.size := by omega
    have HST := hide (HFY.out k y hy)
    have hfl := HFL.out k
    have hro : (sndTo es k).length < 1099511627776 := by omega
    have HRO := hide hro
    obtain ⟨ya, yb⟩ := y
    simp only at d1 d2
    clear hce' y1 y2 hy hro hfl
    go_upto_region 5 with (fail)
    obtain ⟨w4, hw4⟩ : ∃ w4, w4 = wo.alloc (.cells #[.int .i64 ya, .int .i64 yb] 42) := ⟨_, rfl⟩
    obtain ⟨h4, hh4⟩ : ∃ h4, wo.heap.size = h4 := ⟨_, rfl⟩
    have HX4 := hide (show Box w4 h4 #[.int .i64 ya, .int .i64 yb] 42 by rw [hw4, ← hh4]; exact Box.new wo _ _)
    have HB4 := hide (show Below w.heap.size w w4 by rw [hw4]; exact HBW.out.alloc hsz _)
    have HO4 := hide (show Ow w4 w.heap.size 3 .i64 v (sndTo es k) by rw [hw4]; exact how.out.below (alloc1 wo _))
    rw [← hw4, hh4]
    clear hw4 hh4 d1 d2 hbs
    have l4 := HX4.out.lt
    have d1 := (HX4.out.cell 0 (v := .int .i64 ya) rfl).1
    have d2 := (HX4.out.cell 1 (v := .int .i64 yb) rfl).1
    have hz4 := HB4.out.size
    go_wp2_with (at_builtin; refine wpList_append_one w4 rfl (.tmp 12) (.tmp 15) _ rfl w.heap.size 3 .i64 i0 _ 8 Try.underlying27 HI.out iz0 iz1 iz2 rfl (by omega) v (sndTo es k) (by rfl) HO4.out yb (by rfl) HRO.out hz4 ?_; intro v5 w5 ho5 hb5)
    go_roundw
    case rel => exact ⟨v5, k + 1, rfl, by omega, by go_num, HB4.out.trans hb5, hide (by rw [← HST.out]; exact ho5)⟩
    case measure => simp [intOf]; omega
set_option maxHeartbeats 2000000 in
set_option maxRecDepth 100000 in
theorem lheads_any (vk vb vs : Value) (f : FunV) (o : List Int) (ho : OrderOf f o) (A : List Int) (hAf : AbvOf f A) (p : Int → Int → Bool) (hp : ∀ a b, p a b = true ↔ domQ A a b) (hs : List Int) (hhs : IsHeads (backN f o p) hs) (w : World) (B : Nat) (hB : B ≤ w.heap.size) (hi : FunI w (· < B) vk vb vs f) (hok : FlowOk f) (h1 : 1 ≤ f.blocks.length) :
    Calls Try.prog 18 #[.agg #[vk, vb, .int .i64 f.params, .int .i64 f.result, vs]] w fun e w' => ∃ v, e = .returned v ∧ Ow w' w.heap.size 3 .i64 v hs ∧ Below w.heap.size w w' := by
  have HBK := hide (fun (W : World) (hW : Below w.heap.size w W) => lback_any vk vb vs f o ho A hAf p hp W B (by have := hW.size; omega) (hi.keep (up hW hB) (fun _ h => h)) hok h1)
  have HON := hide (fun (Ae : Option Addr) (ce : Nat) (W : World) (hs' : EdgS W W.heap.size Ae (backN f o p)) (hle : (backN f o p).length ≤ ce) (hlm : ce ≤ 9223372036854775807) => (lhds_any (backN f o p) Ae ce W (back_len hok) hs' hle hlm).mono (R' := fun e w' => ∃ v, e = .returned v ∧ Ow w' W.heap.size 3 .i64 v hs ∧ Below W.heap.size W w') (fun e w' ⟨v, l, q1, q2, q3, q4⟩ => ⟨v, q1, by rw [hhs.one q2]; exact q3, q4⟩))
  obtain ⟨Ak, ck, rfl, hck, hmk⟩ := hi.1.open'
  obtain ⟨Ab, cb, rfl, hcb, hmb⟩ := hi.2.1.open'
  obtain ⟨As, cs, rfl, hcs, hms⟩ := hi.2.2.1.open'
  obtain ⟨es, hes⟩ : ∃ es, backN f o p = es := ⟨_, rfl⟩
  rw [hes] at HBK HON
  obtain ⟨ne, hne⟩ : ∃ n, es.length = n := ⟨_, rfl⟩
  have HNE := hide hne
  generalize f.kinds.length = lk, f.base.length = lb, f.blocks.length = ls, f.params = fp, f.result = fr at *
  clear hi hok hes hne ho hAf hp hhs
  go_enter Try.func18, Try.ntmps18
  go_upto_region 1 with (fail)
  obtain ⟨w1, hw1⟩ : ∃ w1, w1 = w.alloc (.cells #[.slice Ak lk ck, .slice Ab lb cb, .int .i64 fp, .int .i64 fr, .slice As ls cs] 30) := ⟨_, rfl⟩
  obtain ⟨h5, hh5⟩ : ∃ h5, w.heap.size = h5 := ⟨_, rfl⟩
  have HX1 := hide (show Box w1 h5 #[.slice Ak lk ck, .slice Ab lb cb, .int .i64 fp, .int .i64 fr, .slice As ls cs] 30 by rw [hw1, ← hh5]; exact Box.new w _ _)
  have HB1 := hide (show Below w.heap.size w w1 by rw [hw1]; exact alloc1 w _)
  have HK1 := hide (fun (W : World) (hW : Below w1.heap.size w1 W) => And.intro ((HX1.out.below hW).cell 0 (v := .slice Ak lk ck) rfl).1 (And.intro ((HX1.out.below hW).cell 1 (v := .slice Ab lb cb) rfl).1 (And.intro ((HX1.out.below hW).cell 2 (v := .int .i64 fp) rfl).1 (And.intro ((HX1.out.below hW).cell 3 (v := .int .i64 fr) rfl).1 ((HX1.out.below hW).cell 4 (v := .slice As ls cs) rfl).1))))
  have HUP := hide (fun (W : World) (hW : Below w1.heap.size w1 W) => HB1.out.trans (hW.mono HB1.out.size))
  have l1 := HX1.out.lt
  have hw1s := HB1.out.size
  rw [← hw1, hh5]
  clear hw1 hh5
  obtain ⟨c0, c1, c2, c3, c4⟩ := HK1.out w1 (Below.refl _ _)
  go_wp2_with (first
    | (go_at_call 39; refine (HO4.out).mono ?_; rintro e w5 ⟨v5, rfl, ho5, hb5⟩)
    | (go_at_call 13; refine (HBK.out w1 HB1.out).mono ?_; rintro e w4 ⟨v4, rfl, ho4, hb4⟩; obtain ⟨A4, k4, hv4, hle4, hme4, hs4⟩ := ho4.sl; have HO4 := hide (HON.out A4 k4 w4 hs4 hle4 (by have := hme4; simp only [maxLen] at this; omega)); rw [HNE.out] at HO4; rw [HNE.out] at hv4; have HC4 := hide (HB1.out.trans (hb4.mono hw1s)); subst hv4; clear hb4 ho4 hs4 hle4 hme4))
  go_ret
  exact ⟨v5, rfl, ho5.lower HC4.out.size, HC4.out.trans (hb5.mono HC4.out.size)⟩
set_option maxHeartbeats 2000000 in
set_option maxRecDepth 100000 in
theorem lplain_any (vk vb vs : Value) (f : FunV) (o : List Int) (ho : OrderOf f o) (A : List Int) (hAf : AbvOf f A) (p : Int → Int → Bool) (hp : ∀ a b, p a b = true ↔ domQ A a b) (w : World) (B : Nat) (hB : B ≤ w.heap.size) (hi : FunI w (· < B) vk vb vs f) (hok : FlowOk f) (h1 : 1 ≤ f.blocks.length) :
    Calls Try.prog 15 #[.agg #[vk, vb, .int .i64 f.params, .int .i64 f.result, vs]] w fun e w' => e = .returned (.bool (decide ((turnsN f o).length = (backN f o p).length))) ∧ Below w.heap.size w w' := by
  have HTU := hide (fun (W : World) (hW : Below w.heap.size w W) => lturns_any vk vb vs f o ho W B (by have := hW.size; omega) (hi.keep (up hW hB) (fun _ h => h)) hok h1)
  have HBK := hide (fun (W : World) (hW : Below w.heap.size w W) => lback_any vk vb vs f o ho A hAf p hp W B (by have := hW.size; omega) (hi.keep (up hW hB) (fun _ h => h)) hok h1)
  obtain ⟨Ak, ck, rfl, hck, hmk⟩ := hi.1.open'
  obtain ⟨Ab, cb, rfl, hcb, hmb⟩ := hi.2.1.open'
  obtain ⟨As, cs, rfl, hcs, hms⟩ := hi.2.2.1.open'
  obtain ⟨nt, hnt⟩ : ∃ n, (turnsN f o).length = n := ⟨_, rfl⟩
  obtain ⟨nb, hnb⟩ : ∃ n, (backN f o p).length = n := ⟨_, rfl⟩
  rw [hnt, hnb]
  have HNT := hide hnt
  have HNB := hide hnb
  generalize f.kinds.length = lk, f.base.length = lb, f.blocks.length = ls, f.params = fp, f.result = fr at *
  clear hi hok hnt hnb ho hAf hp
  go_enter Try.func15, Try.ntmps15
  go_upto_region 1 with (fail)
  obtain ⟨w1, hw1⟩ : ∃ w1, w1 = w.alloc (.cells #[.slice Ak lk ck, .slice Ab lb cb, .int .i64 fp, .int .i64 fr, .slice As ls cs] 30) := ⟨_, rfl⟩
  obtain ⟨h5, hh5⟩ : ∃ h5, w.heap.size = h5 := ⟨_, rfl⟩
  have HX1 := hide (show Box w1 h5 #[.slice Ak lk ck, .slice Ab lb cb, .int .i64 fp, .int .i64 fr, .slice As ls cs] 30 by rw [hw1, ← hh5]; exact Box.new w _ _)
  have HB1 := hide (show Below w.heap.size w w1 by rw [hw1]; exact alloc1 w _)
  have HK1 := hide (fun (W : World) (hW : Below w1.heap.size w1 W) => And.intro ((HX1.out.below hW).cell 0 (v := .slice Ak lk ck) rfl).1 (And.intro ((HX1.out.below hW).cell 1 (v := .slice Ab lb cb) rfl).1 (And.intro ((HX1.out.below hW).cell 2 (v := .int .i64 fp) rfl).1 (And.intro ((HX1.out.below hW).cell 3 (v := .int .i64 fr) rfl).1 ((HX1.out.below hW).cell 4 (v := .slice As ls cs) rfl).1))))
  have HUP := hide (fun (W : World) (hW : Below w1.heap.size w1 W) => HB1.out.trans (hW.mono HB1.out.size))
  have l1 := HX1.out.lt
  have hw1s := HB1.out.size
  rw [← hw1, hh5]
  clear hw1 hh5
  obtain ⟨c0, c1, c2, c3, c4⟩ := HK1.out w1 (Below.refl _ _)
  go_region_held3 (fun w' => w'.cell? ⟨h5, 0, none⟩ = some (.slice Ak lk ck) ∧ w'.cell? ⟨h5, 1, none⟩ = some (.slice Ab lb cb) ∧ w'.cell? ⟨h5, 2, none⟩ = some (.int .i64 fp) ∧ w'.cell? ⟨h5, 3, none⟩ = some (.int .i64 fr) ∧ w'.cell? ⟨h5, 4, none⟩ = some (.slice As ls cs)) (first | go_keep | (exact q7) | (exact q6))
    (first
      | (go_at_call 13; refine (HBK.out w6 (HUP.out w6 HC6.out)).mono ?_; rintro e w7 ⟨v7, rfl, ho7, hb7⟩; obtain ⟨A7, k7, hv7, hle7, hme7, -⟩ := ho7.sl; rw [HNB.out] at hv7; have hc7 := HC6.out.trans (hb7.mono HC6.out.size); have q7 := HK1.out w7 hc7; have HC7 := hide hc7; subst hv7; clear hb7 hc7 ho7 hle7 hme7)
      | (go_at_call 11; refine (HTU.out _ (HUP.out _ (below_drewN (Below.refl _ _) 1))).mono ?_; rintro e w6 ⟨v6, rfl, ho6, hb6⟩; obtain ⟨A6, k6, hv6, hle6, hme6, -⟩ := ho6.sl; rw [HNT.out] at hv6; have hc6 : Below w1.heap.size w1 w6 := ⟨hb6.os, hb6.tape, hb6.output, hb6.size, hb6.block⟩; have q6 := HK1.out w6 hc6; have HC6 := hide hc6; subst hv6; clear hb6 hc6 ho6 hle6 hme6))
  all_goals
    have HE := hide (HUP.out w7 HC7.out)
    go_wp2
    go_ret
    exact ⟨ret_bool (by first | rfl | (simp; done) | (rw [Bool.eq_iff_iff]; simp; omega)), HE.out⟩
end Go.Proofs.Ytlolgahaphmfoaa
