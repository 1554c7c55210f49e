/- The statement DomAsks, walked: it answers true. Condition: no slice of the program is longer than any machine's memory. -/
import Derived.Test.YtkpikgakphdjjaaYZ
set_option linter.unusedSimpArgs false
set_option linter.unusedVariables false
namespace Go.Proofs.Ytkpikgakphdjjaa
open Go.RowKit
attribute [local go_sem ↓] Go.wp_at_zero Go.wp_at_succ

theorem AbvOf.trn' {f : FunV} {A : List Int} (hok : FlowOk f) (h1 : 1 ≤ f.blocks.length) (h : AbvOf f A) : ∃ tn, Tr tn (inA A) (upA A) ∧ ∀ b, inA A b → tn b < f.blocks.length := by
  obtain ⟨o, ho, hr⟩ := h
  refine ⟨_, hr.gi.tr, fun b hb => ?_⟩
  have h2 := (tnO_lt ((hr.all b).1 hb)).1
  obtain ⟨m, lF, hD, rfl⟩ := ho
  have h3 := dfs_len hok h1 hD
  rw [List.length_reverse] at h2
  omega
theorem asc_eq : ∀ {l1 l2 : List Int}, l1.Pairwise (· < ·) → l2.Pairwise (· < ·) → (∀ x, x ∈ l1 ↔ x ∈ l2) → l1 = l2
  | [], [], _, _, _ => rfl
  | [], b :: l2, _, _, h => by have := (h b).2 (by simp); simp at this
  | a :: l1, [], _, _, h => by have := (h a).1 (by simp); simp at this
  | a :: l1, b :: l2, h1, h2, h => by
    obtain ⟨p1, p2⟩ := List.pairwise_cons.1 h1
    obtain ⟨q1, q2⟩ := List.pairwise_cons.1 h2
    have hab : a = b := by
      have ha := (h a).1 (by simp)
      have hb := (h b).2 (by simp)
      rcases List.mem_cons.1 ha with e | e
      · exact e
      · rcases List.mem_cons.1 hb with e2 | e2
        · exact e2.symm
        · have := q1 a e; have := p1 b e2; omega
    subst hab
    have : l1 = l2 := asc_eq p2 q2 (fun x => by
      constructor
      · intro hx
        rcases List.mem_cons.1 ((h x).1 (List.mem_cons_of_mem _ hx)) with e | e
        · have := p1 x hx; omega
        · exact e
      · intro hx
        rcases List.mem_cons.1 ((h x).2 (List.mem_cons_of_mem _ hx)) with e | e
        · have := q1 x hx; omega
        · exact e)
    rw [this]
theorem sortL_asc {l : List Int} (hn : l.Nodup) : (sortL l).Pairwise (· < ·) := by
  have h1 := List.pairwise_mergeSort (le := fun x y : Int => decide (x ≤ y)) (fun a b c h1 h2 => by simp at *; omega) (fun a b => by simp; omega) l
  have h2 : (sortL l).Nodup := (List.mergeSort_perm l _).nodup_iff.2 hn
  unfold sortL at h2 ⊢
  exact (h1.and h2).imp fun ⟨a, b⟩ => by simp at a; omega
theorem allTo_asc (p : Int → Int → Bool) (b : Int) (n : Nat) : (allTo p b n).Pairwise (· < ·) := by
  unfold allTo
  rw [List.pairwise_map]
  exact (List.Pairwise.filter _ List.pairwise_lt_range).imp fun h => by omega
/-- Up the tree from b: those passed, and where one stands. -/
def ChI (A : List Int) (tn : Nat → Nat) (b : Nat) (cs : List Int) (z : Int) : Prop :=
  cs.Nodup ∧ (∀ y ∈ cs, ∃ k : Nat, y = k ∧ inA A k ∧ Anc (upA A) k b) ∧
  ((∃ x : Nat, z = x ∧ inA A x ∧ Anc (upA A) x b ∧ (∀ k : Nat, Anc (upA A) k b → (k : Int) ∈ cs ∨ Anc (upA A) k x) ∧ (∀ k : Nat, (k : Int) ∈ cs → tn x < tn k) ∧ cs.length + tn x ≤ tn b) ∨ (z = -1 ∧ (∀ k : Nat, Anc (upA A) k b → (k : Int) ∈ cs) ∧ cs.length ≤ tn b + 1))
theorem ch_step {f : FunV} {A : List Int} {tn : Nat → Nat} (h : AbvOf f A) (ht : Tr tn (inA A) (upA A)) {b x : Nat} {cs : List Int} (hc : ChI A tn b cs (x : Int)) : inA A x ∧ ChI A tn b (cs ++ [(x : Int)]) (A.getD x (-1)) ∧ (A.getD x (-1) = -1 ∨ ∃ u : Nat, A.getD x (-1) = u ∧ tn u < tn x) ∧ cs.length ≤ tn b := by
  obtain ⟨c1, c2, ⟨x', e, c3, c4, c5, c6, c7⟩ | ⟨e, -⟩⟩ := hc
  · obtain rfl : x = x' := by omega
    have hnx : (x : Int) ∉ cs := fun hx => by have := c6 x hx; omega
    have hnod : (cs ++ [(x : Int)]).Nodup := by
      rw [List.nodup_append]
      refine ⟨c1, by simp, fun y hy z hz e => ?_⟩
      simp at hz
      subst e; subst hz
      exact hnx hy
    have hmem : ∀ y ∈ cs ++ [(x : Int)], ∃ k : Nat, y = k ∧ inA A k ∧ Anc (upA A) k b := by
      intro y hy
      rcases List.mem_append.1 hy with hy | hy
      · exact c2 y hy
      · simp at hy; exact ⟨x, hy, c3, c4⟩
    refine ⟨c3, ?_, ?_, by omega⟩
    · refine ⟨hnod, hmem, ?_⟩
      by_cases hx0 : x = 0
      · right
        subst hx0
        refine ⟨h.zero, fun k hk => ?_, by simp; omega⟩
        rcases c5 k hk with h9 | h9
        · exact List.mem_append_left _ h9
        · rw [h9.zero]; simp
      · left
        obtain ⟨l1, l2⟩ := ht.lt x c3 hx0
        refine ⟨upA A x, h.neg x c3 hx0, l1, (Anc.step hx0 .refl).trans c4, fun k hk => ?_, fun k hk => ?_, by simp; omega⟩
        · rcases c5 k hk with h9 | h9
          · exact .inl (List.mem_append_left _ h9)
          · cases h9 with
            | refl => exact .inl (by simp)
            | step _ h9 => exact .inr h9
        · rcases List.mem_append.1 hk with h9 | h9
          · have := c6 k h9; omega
          · simp at h9
            obtain rfl : k = x := by omega
            exact l2
    · by_cases hx0 : x = 0
      · subst hx0; exact .inl h.zero
      · exact .inr ⟨upA A x, h.neg x c3 hx0, (ht.lt x c3 hx0).2⟩
  · omega
theorem ch_end {f : FunV} {A : List Int} {tn : Nat → Nat} {p : Int → Int → Bool} (h : AbvOf f A) (h1 : 1 ≤ f.blocks.length) (hp : ∀ a b, p a b = true ↔ domQ A a b) {b : Nat} {cs : List Int} (hb : inA A b) (hc : ChI A tn b cs (-1)) : sortL cs = allTo p (b : Int) f.blocks.length := by
  obtain ⟨c1, c2, ⟨x', e, -⟩ | ⟨-, c3, -⟩⟩ := hc
  · omega
  · refine asc_eq (sortL_asc c1) (allTo_asc _ _ _) fun y => ?_
    rw [mem_sortL, all_mem]
    constructor
    · intro hy
      obtain ⟨k, rfl, k1, k2⟩ := c2 y hy
      have := h.lt h1 k k1
      rw [h.len] at this
      exact ⟨k, rfl, this, (hp _ _).2 ((domQ_nat h h1 _ _).2 ⟨k1, hb, k2⟩)⟩
    · rintro ⟨k, rfl, k1, k2⟩
      rw [hp, domQ_nat h h1] at k2
      exact c3 k k2.2.2
theorem all_none {f : FunV} {A : List Int} {p : Int → Int → Bool} (hp : ∀ a b, p a b = true ↔ domQ A a b) {b : Int} (hb : hasA A b = false) (n : Nat) : allTo p b n = [] := by
  apply List.eq_nil_iff_forall_not_mem.2
  intro y hy
  obtain ⟨k, rfl, -, h2⟩ := all_mem.1 hy
  rw [hp] at h2
  rw [h2.2.1] at hb
  cases hb
theorem meetZ_one {f : FunV} {A : List Int} (h : AbvOf f A) {a b m m' : Int} (h1 : meetZ A a b m) (h2 : meetZ A a b m') : m = m' := by
  obtain ⟨tn, ht⟩ := h.tr
  rcases h1 with ⟨ha, hb, k, rfl, hk, hs⟩ | ⟨hn, rfl⟩
  · rcases h2 with ⟨-, -, k', rfl, hk', hs'⟩ | ⟨hn, -⟩
    · have q1 := (hs' k).2 ((hs k).1 .refl)
      have q2 := (hs k').2 ((hs' k').1 .refl)
      rw [q1.eq ht hk' (q2.le ht hk).2]
    · exact absurd ⟨ha, hb⟩ hn
  · rcases h2 with ⟨ha, hb, -⟩ | ⟨-, rfl⟩
    · exact absurd ⟨ha, hb⟩ hn
    · rfl
set_option maxHeartbeats 2000000 in
set_option maxRecDepth 100000 in
theorem dall_any (vk vb vs : Value) (f : FunV) (A : List Int) (hAf : AbvOf f A) (p : Int → Int → Bool) (hp : ∀ a b, p a b = true ↔ domQ A a b) (b : Int) (w : World) (B : Nat) (hB : B ≤ w.heap.size) (hi : FunI w (· < B) vk vb vs f) (hok : FlowOk f) (h1 : 1 ≤ f.blocks.length) :
    Calls Try.prog 20 #[.agg #[vk, vb, .int .i64 f.params, .int .i64 f.result, vs], .int .i64 b] w fun e w' => ∃ v, e = .returned v ∧ Ow w' w.heap.size 3 .i64 v (allTo p b f.blocks.length) ∧ Below w.heap.size w w' := by
  have HGR := hide (fun (W : World) (hW : Below w.heap.size w W) => dgrow_any vk vb vs f A hAf W B (by have := hW.size; omega) (hi.keep (up hW hB) (fun _ h => h)) hok h1)
  have HHS := hide (fun (W : World) (z : Int) (ga gt : Nat) (h : AbW W ga A) => dhas_any A z ga gt f.blocks.length W h hAf.len h1)
  have HIF := hide (fun (hz : hasA A b = true) => (show ∃ x : Nat, b = x ∧ inA A x by
    have hz0 : 0 ≤ b := by unfold hasA at hz; rw [decide_eq_true_iff] at hz; omega
    exact ⟨b.toNat, by omega, (hasA_iff (by rw [hAf.len]; exact h1) hz0).1 hz⟩))
  have HNO := hide (fun hb => @all_none f A p hp b hb f.blocks.length)
  have HCS := hide (fun (tn : Nat → Nat) (ht : Tr tn (inA A) (upA A)) (y x : Nat) (cs : List Int) (hc : ChI A tn y cs (x : Int)) => ch_step hAf ht hc)
  have HCE := hide (fun (tn : Nat → Nat) (y : Nat) (cs : List Int) (hb : inA A y) (hc : ChI A tn y cs (-1)) => ch_end hAf h1 hp hb hc)
  have HLT := hide (fun b hb => hAf.lt h1 b hb)
  have HTRN := hide (hAf.trn' hok h1)
  obtain ⟨i0, hi0, iz0, iz1, iz2⟩ := info_parts info_i64
  have HI := hide hi0
  have HLA := hide hAf.len
  have hls40 := hok.1
  obtain ⟨Ak, ck, rfl, hck, hmk⟩ := hi.1.open'
  obtain ⟨Ab, cb, rfl, hcb, hmb⟩ := hi.2.1.open'
  obtain ⟨As, cs, rfl, hcs, hms⟩ := hi.2.2.1.open'
  generalize f.kinds.length = lk, f.base.length = lb, f.blocks.length = ls, f.params = fp, f.result = fr at *
  clear hi hok hAf hp hi0
  go_enter Try.func20, Try.ntmps20
  go_upto_region 1 with (fail)
  obtain ⟨w1, hw1⟩ : ∃ w1, w1 = w.alloc (.cells #[.slice Ak lk ck, .slice Ab lb cb, .int .i64 fp, .int .i64 fr, .slice As ls cs] 30) := ⟨_, rfl⟩
  have HX1 := hide (show Box w1 w.heap.size #[.slice Ak lk ck, .slice Ab lb cb, .int .i64 fp, .int .i64 fr, .slice As ls cs] 30 by rw [hw1]; exact Box.new w _ _)
  have HB1 := hide (show Below w.heap.size w w1 by rw [hw1]; exact alloc1 w _)
  rw [← hw1]
  clear hw1
  have l1 := HX1.out.lt
  have c0 := (HX1.out.cell 0 (v := .slice Ak lk ck) rfl).1
  have c1 := (HX1.out.cell 1 (v := .slice Ab lb cb) rfl).1
  have c2 := (HX1.out.cell 2 (v := .int .i64 fp) rfl).1
  have c3 := (HX1.out.cell 3 (v := .int .i64 fr) rfl).1
  have c4 := (HX1.out.cell 4 (v := .slice As ls cs) rfl).1
  go_upto_region 2 with (go_at_call 39; refine (HGR.out w1 HB1.out).mono ?_; rintro e w2 ⟨ga, gt, tn, rfl, ha, ht, h2, h3, htr, hb2⟩; have HA2 := hide ha; have HT2 := hide ht; have HTR := hide htr; have HB2 := hide (HB1.out.trans (hb2.mono HB1.out.size)); clear ha ht hb2 htr)
  obtain ⟨w3, hw3⟩ : ∃ w3, w3 = w2.alloc (.cells #[.slice (some ⟨ga, 0, none⟩) ls ls, .slice (some ⟨gt, 0, none⟩) ls ls] 58) := ⟨_, rfl⟩
  obtain ⟨g3, hg3⟩ : ∃ g3, w2.heap.size = g3 := ⟨_, rfl⟩
  have HX3 := hide (show Box w3 g3 #[.slice (some ⟨ga, 0, none⟩) ls ls, .slice (some ⟨gt, 0, none⟩) ls ls] 58 by rw [hw3, ← hg3]; exact Box.new w2 _ _)
  have HA3 := hide (show AbW w3 ga A by rw [hw3]; exact Box.alloc HA2.out _)
  have HT3 := hide (show TnW w3 gt ls tn by rw [hw3]; exact Box.alloc HT2.out _)
  have HB3 := hide (show Below w.heap.size w w3 by rw [hw3]; exact HB2.out.alloc HB2.out.size _)
  rw [← hw3, hg3]
  clear hw3 hg3 c0 c1 c2 c3 c4 l1
  have l3 := HX3.out.lt
  have e0 := (HX3.out.cell 0 (v := .slice (some ⟨ga, 0, none⟩) ls ls) rfl).1
  have e1 := (HX3.out.cell 1 (v := .slice (some ⟨gt, 0, none⟩) ls ls) rfl).1
  have HK := hide (fun (W : World) (hW : Below w3.heap.size w3 W) => (HX3.out.below hW))
  have HC1 := hide (HHS.out w3 b ga gt HA3.out)
  cases hbq : hasA A b with
  | false =>
    rw [hbq] at HC1
    have HE := hide (HNO.out hbq)
    clear hbq
    go_wp2_with (go_at_call 40; refine (HC1.out).mono ?_; rintro e w4 ⟨rfl, hb4⟩)
    go_ret
    exact ⟨_, rfl, by rw [HE.out]; exact Ow.nil _ _ _ _, HB3.out.trans (hb4.mono HB3.out.size)⟩
  | true =>
    rw [hbq] at HC1
    obtain ⟨y, rfl, hyI⟩ := HIF.out hbq
    have HYI := hide hyI
    obtain ⟨tq, htq, htl⟩ := HTRN.out
    have HTQ := hide htq
    have htb := htl y hyI
    have HS0 := hide (show ChI A tq y [] (y : Int) from ⟨List.nodup_nil, by simp, .inl ⟨y, rfl, hyI, .refl, fun k hk => .inr hk, by simp, by simp⟩⟩)
    clear hbq hyI htq htl
    go_wp2_with (go_at_call 40; refine (HC1.out).mono ?_; rintro e w4 ⟨rfl, hb4⟩; have HC4 := hide (HB3.out.trans (hb4.mono HB3.out.size)); have HA4 := hide (HA3.out.below hb4); have HX4 := hide (HK.out w4 hb4); clear hb4)
    have hs4 := HC4.out.size
    go_loopw [1, 6] (fun bv l wr => ∃ (z : Int) (v : Value) (cs : List Int), bv = .int .i64 z ∧ v = l ∧ cs.length ≤ 41 ∧ Below w4.heap.size w4 wr ∧ Hid (ChI A tq y cs z) ∧ Hid (Ow wr w4.heap.size 3 .i64 v cs)) (fun bv _ _ => if intOf bv = -1 then 0 else tq (intOf bv).toNat + 1)
    case atStart => exact ⟨(y : Int), _, [], rfl, rfl, by simp, Below.refl _ _, HS0, hide (Ow.nil _ _ _ _)⟩
    case round =>
      obtain ⟨z, v, cs', rfl, rfl, hcl, hb, hch, how⟩ := hrel
      obtain ⟨wo, rfl⟩ : ∃ wo, wo = wr := ⟨_, rfl⟩
      have hsz := hb.size
      have HBW := hide hb
      have HBEL := hide (HC4.out.trans (hb.mono HC4.out.size))
      clear hb
      by_cases hz : z = -1
      · subst hz
        have HSE := hide (HCE.out tq y cs' HYI.out hch.out)
        have hpos : 0 < cs'.length := List.length_pos_iff.2 (by
          obtain ⟨-, -, ⟨x, e, -⟩ | ⟨-, h9, -⟩⟩ := hch.out
          · omega
          · exact List.ne_nil_of_mem (h9 y .refl))
        have HST := hide (sortOw_any v cs' w4.heap.size wo how.out hpos (by omega))
        have h44 : w.heap.size ≤ w4.heap.size := hs4
        clear hpos hcl
        go_wp2_with (go_at_call 33; refine HST.out.mono ?_; rintro e w6 ⟨rfl, ho6, hb6⟩)
        go_ret
        exact ⟨v, rfl, by rw [← HSE.out]; exact ho6.lower h44, HBEL.out.trans (hb6.mono h44)⟩
      · obtain ⟨x, rfl⟩ : ∃ x : Nat, z = x := by
          obtain ⟨-, -, ⟨x, e, -⟩ | ⟨e, -⟩⟩ := hch.out
          · exact ⟨x, e⟩
          · exact absurd e hz
        obtain ⟨hxI, hN, hM, hcl2⟩ := HCS.out tq HTQ.out y x cs' hch.out
        have HN := hide hN
        have hxn := HLT.out x hxI
        rw [HLA.out] at hxn
        have d1 := ((HA4.out.below HBW.out).cell (b := x) (by have := HLA.out; omega)).1
        have lga : ga < wo.heap.size := Box.lt (HA4.out.below HBW.out)
        have hx4 := HX4.out.below HBW.out
        have lg3 := hx4.lt
        have e0 := (hx4.cell 0 (v := .slice (some ⟨ga, 0, none⟩) ls ls) rfl).1
        have hq : ((x : Int) == -1) = false := by first | (simp; done) | (simp; omega)
        have HRO := hide (show cs'.length < 1099511627776 by omega)
        have HCL := hide (show (cs' ++ [(x : Int)]).length ≤ 41 by rw [List.length_append]; simp; omega)
        obtain ⟨y2, hy2⟩ : ∃ y2, A.getD x (-1) = y2 := ⟨_, rfl⟩
        have HG2 := hide hy2
        rw [hy2] at HN hM d1
        clear hy2
        have HM := hide hM
        have hxi : (0 : Int) ≤ (x : Int) := by omega
        have hxj : (x : Int) < (ls : Int) := by omega
        clear hxI hN hM hch hcl hcl2 hx4 hz
        go_wp2_with (at_builtin; refine wpList_append_one wo rfl (.tmp 20) (.tmp 22) _ rfl w4.heap.size 3 .i64 i0 _ 8 Try.underlying27 HI.out iz0 iz1 iz2 rfl (by omega) v cs' (by rfl) how.out (x : Int) (by rfl) HRO.out hsz ?_; intro v5 w5 ho5 hb5; have HO5 := hide ho5; have HB5 := hide (HBW.out.trans hb5); have ha5 := HA4.out.below HB5.out; have a5 := (ha5.cell (b := x) (by have := HLA.out; omega)).1; rw [HG2.out] at a5; have lga5 : ga < w5.heap.size := Box.lt ha5; have hx5 := HX4.out.below HB5.out; have lg5 := hx5.lt; have f0 := (hx5.cell 0 (v := .slice (some ⟨ga, 0, none⟩) ls ls) rfl).1; clear ho5 hb5 ha5 hx5)
        go_roundw
        case rel => exact ⟨y2, v5, _, rfl, rfl, HCL.out, HB5.out, HN, HO5⟩
        case measure =>
          rcases HM.out with rfl | ⟨u, rfl, hu⟩
          · have h8 : ¬ ((x : Int) = -1) := by omega
            simp [intOf, h8]
          · have h8 : ¬ ((x : Int) = -1) := by omega
            have h9 : ¬ ((u : Int) = -1) := by omega
            simp [intOf, h8, h9]
            omega
set_option maxHeartbeats 2000000 in
set_option maxRecDepth 100000 in
theorem rmeet_any (vk vb vs : Value) (f : FunV) (A : List Int) (hAf : AbvOf f A) (p : Int → Int → Bool) (hp : ∀ a b, p a b = true ↔ domQ A a b) (a b : Int) (w : World) (B : Nat) (hB : B ≤ w.heap.size) (hi : FunI w (· < B) vk vb vs f) (hok : FlowOk f) (h1 : 1 ≤ f.blocks.length) :
    Calls Try.prog 23 #[.agg #[vk, vb, .int .i64 f.params, .int .i64 f.result, vs], .int .i64 a, .int .i64 b] w fun e w' => ∃ m, e = .returned (.int .i64 m) ∧ meetZ A a b m ∧ Below w.heap.size w w' := by
  have HRD := hide (fun (W : World) (hW : Below w.heap.size w W) (a b : Int) => (rdom_any vk vb vs f A hAf a b W B (by have := hW.size; omega) (hi.keep (up hW hB) (fun _ h => h)) hok h1).mono (R' := fun e w' => e = .returned (.bool (p a b)) ∧ Below W.heap.size W w') (fun e w' ⟨d, h1, h2, h3⟩ => ⟨by rw [h1]; congr 2; rw [Bool.eq_iff_iff, h2, hp], h3⟩))
  have HLO := hide (fun (W : World) (hW : Below w.heap.size w W) (l : List Int) (Al : Option Addr) (cl : Nat) hll hlc hlm hsl => rlowest_any vk vb vs f A hAf p hp l Al cl hll hlc hlm W B (by have := hW.size; omega) (hi.keep (up hW hB) (fun _ h => h)) hok h1 hsl)
  have HLM := hide (fun (m : Int) hm => low_meet (a := a) (b := b) (m := m) hAf h1 hp hm)
  obtain ⟨i0, hi0, iz0, iz1, iz2⟩ := info_parts info_i64
  have HI := hide hi0
  have hls40 := hok.1
  obtain ⟨Ak, ck, rfl, hck, hmk⟩ := hi.1.open'
  obtain ⟨Ab, cb, rfl, hcb, hmb⟩ := hi.2.1.open'
  obtain ⟨As, cs, rfl, hcs, hms⟩ := hi.2.2.1.open'
  generalize f.kinds.length = lk, f.base.length = lb, f.blocks.length = ls, f.params = fp, f.result = fr at *
  clear hi hok hAf hp hi0
  go_enter Try.func23, Try.ntmps23
  go_upto_region 1 with (fail)
  obtain ⟨w1, hw1⟩ : ∃ w1, w1 = w.alloc (.cells #[.slice Ak lk ck, .slice Ab lb cb, .int .i64 fp, .int .i64 fr, .slice As ls cs] 30) := ⟨_, rfl⟩
  obtain ⟨h5, hh5⟩ : ∃ h5, w.heap.size = h5 := ⟨_, rfl⟩
  have HX1 := hide (show Box w1 h5 #[.slice Ak lk ck, .slice Ab lb cb, .int .i64 fp, .int .i64 fr, .slice As ls cs] 30 by rw [hw1, ← hh5]; exact Box.new w _ _)
  have HB1 := hide (show Below w.heap.size w w1 by rw [hw1]; exact alloc1 w _)
  have HK1 := hide (fun (W : World) (hW : Below w1.heap.size w1 W) => And.intro ((HX1.out.below hW).cell 0 (v := .slice Ak lk ck) rfl).1 (And.intro ((HX1.out.below hW).cell 1 (v := .slice Ab lb cb) rfl).1 (And.intro ((HX1.out.below hW).cell 2 (v := .int .i64 fp) rfl).1 (And.intro ((HX1.out.below hW).cell 3 (v := .int .i64 fr) rfl).1 ((HX1.out.below hW).cell 4 (v := .slice As ls cs) rfl).1))))
  have HUP := hide (fun (W : World) (hW : Below w1.heap.size w1 W) => HB1.out.trans (hW.mono HB1.out.size))
  have l1 := HX1.out.lt
  have hw1s := HB1.out.size
  rw [← hw1, hh5]
  clear hw1 hh5
  go_wp2
  go_loopw [7, 8] (fun l i wr => ∃ (v : Value) (k : Nat), v = l ∧ k ≤ ls ∧ i = .int .i64 (k : Int) ∧ Below w1.heap.size w1 wr ∧ Hid (Ow wr w1.heap.size 3 .i64 v (bothTo p a b k))) (fun _ i _ => ls - (intOf i).toNat)
  case atStart => exact ⟨_, 0, rfl, Nat.zero_le _, rfl, Below.refl _ _, hide (Ow.nil _ _ _ _)⟩
  case round =>
    obtain ⟨v, k, rfl, hk, rfl, hb, how⟩ := hrel
    obtain ⟨wo, rfl⟩ : ∃ wo, wo = wr := ⟨_, rfl⟩
    have hsz := hb.size
    have HBW := hide hb
    obtain ⟨c0, c1, c2, c3, c4⟩ := HK1.out wo hb
    have lo : h5 < wo.heap.size := by omega
    clear hb
    by_cases hlt : k < ls
    case neg =>
      obtain rfl : k = ls := by omega
      obtain ⟨Au, cu, rfl, hcu, hmu, hsu⟩ := how.out.sl
      have hbl := bothTo_len p a b k
      have HLC := hide (HLO.out wo (HUP.out wo HBW.out) _ Au cu (by omega) hcu (by simp only [maxLen] at hmu; omega) hsu)
      generalize bothTo p a b k = bo at *
      obtain ⟨no, hno⟩ : ∃ n, bo.length = n := ⟨_, rfl⟩
      rw [hno] at HLC ⊢
      clear hno hsu hcu hmu how hbl
      go_wp2_with (go_at_call 42; refine (HLC.out).mono ?_; rintro e w6 ⟨m, rfl, hm, hb6⟩; have HME := hide (HLM.out m hm); have HB6 := hide (HBW.out.trans (hb6.mono hsz)); clear hb6 hm)
      go_ret
      exact ⟨m, rfl, HME.out, HUP.out w6 HB6.out⟩
    have HRO := hide (show (bothTo p a b k).length < 1099511627776 by have := bothTo_len p a b k; omega)
    have HC := hide (HRD.out wo (HUP.out wo HBW.out) (k : Int) a)
    cases hq : p (k : Int) a with
    | true =>
      rw [hq] at HC
      have HC2 := hide (fun (W : World) (hW : Below w1.heap.size w1 W) => HRD.out W (HUP.out W hW) (k : Int) b)
      cases hq2 : p (k : Int) b with
      | true =>
        have HST := hide (bothTo_yes hq hq2)
        rw [hq2] at HC2
        clear hq hq2
        go_wp2_with (first
          | (at_builtin; refine wpList_append_one w6 rfl (.tmp 26) (.tmp 28) _ rfl w1.heap.size 3 .i64 i0 _ 8 Try.underlying27 HI.out iz0 iz1 iz2 rfl (by omega) v (bothTo p a b k) (by rfl) HO6.out (k : Int) (by rfl) HRO.out (by have := HB6.out.size; omega) ?_; intro v5 w5 ho5 hb5)
          | (go_at_call 19; refine (HC2.out w4 HB4.out).mono ?_; rintro e w6 ⟨rfl, hb6⟩; have HO6 := hide (HO4.out.below hb6); have HB6 := hide (HB4.out.trans (hb6.mono HB4.out.size)); clear hb6)
          | (go_at_call 19; refine (HC.out).mono ?_; rintro e w4 ⟨rfl, hb4⟩; have HO4 := hide (how.out.below hb4); have hc4 := HBW.out.trans (hb4.mono hsz); obtain ⟨z0, z1, z2, z3, z4⟩ := HK1.out w4 hc4; have l4 : h5 < w4.heap.size := (by have := hc4.size; omega); have HB4 := hide hc4; clear hb4 hc4))
        go_roundw
        case rel => exact ⟨v5, k + 1, rfl, by omega, by go_num, HB6.out.trans hb5, hide (by rw [← HST.out]; exact ho5)⟩
        case measure => simp [intOf]; omega
      | false =>
        have HST := hide (bothTo_no (a := a) (.inr hq2))
        rw [hq2] at HC2
        clear hq hq2
        go_wp2_with (first
          | (go_at_call 19; refine (HC2.out w4 HB4.out).mono ?_; rintro e w6 ⟨rfl, hb6⟩; have HO6 := hide (HO4.out.below hb6); have HB6 := hide (HB4.out.trans (hb6.mono HB4.out.size)); clear hb6)
          | (go_at_call 19; refine (HC.out).mono ?_; rintro e w4 ⟨rfl, hb4⟩; have HO4 := hide (how.out.below hb4); have hc4 := HBW.out.trans (hb4.mono hsz); obtain ⟨z0, z1, z2, z3, z4⟩ := HK1.out w4 hc4; have l4 : h5 < w4.heap.size := (by have := hc4.size; omega); have HB4 := hide hc4; clear hb4 hc4))
        go_roundw
        case rel => exact ⟨v, k + 1, rfl, by omega, by go_num, HB6.out, hide (by rw [← HST.out]; exact HO6.out)⟩
        case measure => simp [intOf]; omega
    | false =>
      have HST := hide (bothTo_no (b := b) (.inl hq))
      rw [hq] at HC
      clear hq
      go_wp2_with (go_at_call 19; refine (HC.out).mono ?_; rintro e w4 ⟨rfl, hb4⟩; have HO4 := hide (how.out.below hb4); have HB4 := hide (HBW.out.trans (hb4.mono hsz)); clear hb4)
      go_roundw
      case rel => exact ⟨v, k + 1, rfl, by omega, by go_num, HB4.out, hide (by rw [← HST.out]; exact HO4.out)⟩
      case measure => simp [intOf]; omega
set_option maxHeartbeats 4000000 in
set_option maxRecDepth 100000 in
theorem asks6_law (vp : Value) (p : List FunV) (az bz : Int) (w : World) (hp : FunsV w (· < w.heap.size) vp p) (hsz : progSize p) :
    Calls Try.prog 4 #[.agg #[vp], .int .i64 az, .int .i64 bz] w fun e w' => e = .returned (.bool true) ∧ Below w.heap.size w w' := by
  have HKP := hide (fun (W : World) (hW : Below w.heap.size w W) => hp.keep (up hW (Nat.le_refl _)) (fun _ h => h))
  have HOUT := hide (fun (W : World) (hW : Below w.heap.size w W) => out6_any vp p W w.heap.size hW.size (hp.keep (up hW (Nat.le_refl _)) (fun _ h => h)) hsz)
  have HALLOK := hide (fun h => @flowOk_of p h)
  obtain ⟨A, c, rfl, hpc, hpm⟩ := hp.open'
  obtain ⟨lp, hlp⟩ : ∃ lp, p.length = lp := ⟨_, rfl⟩
  have HLP := hide hlp
  rw [hlp] at HKP HOUT hpc ⊢
  clear hp hsz hlp
  go_enter Try.func4, Try.ntmps4
  go_upto_region 1 with (fail)
  obtain ⟨w0, hw0⟩ : ∃ w0, w0 = w.alloc (.cells #[.slice A lp c] 24) := ⟨_, rfl⟩
  have HX0 := hide (show Box w0 w.heap.size #[.slice A lp c] 24 by rw [hw0]; exact Box.new w _ _)
  have HB0 := hide (show Below w.heap.size w w0 by rw [hw0]; exact alloc1 w _)
  rw [← hw0]
  clear hw0
  go_upto_region 3 with (go_at_call 16; refine (alive6_any w0).mono ?_; rintro e w1 ⟨rfl, hb1⟩; have HX1 := hide (HX0.out.below hb1); have HC1 := hide (HB0.out.trans (hb1.mono HB0.out.size)); clear hb1)
  have x1 := (HX1.out.cell 0 (v := .slice A lp c) rfl).1
  have l1 := HX1.out.lt
  go_upto_region 5 with (go_at_call 17; refine (HOUT.out w1 HC1.out).mono ?_; rintro e w2 ⟨b1, rfl, hs2, hb2⟩; have HB2 := hide (HC1.out.trans (hb2.mono HC1.out.size)); have HX2 := hide (HX1.out.below hb2); have HS2 := hide hs2; clear x1 hb2 hs2)
  all_goals try (go_ret; exact ⟨rfl, HB2.out⟩)
  have hb1f : b1 = false := by assumption
  subst hb1f
  have HOKS := hide (HALLOK.out (HS2.out.out rfl))
  clear HOUT HALLOK HS2 HC1 HX1 l1
  go_wp2
  go_loopw [7] (fun i wr => ∃ k : Nat, k ≤ lp ∧ i = .int .i64 k ∧ Below w2.heap.size w2 wr) (fun i _ => lp - (intOf i).toNat)
  case atStart => exact ⟨0, Nat.zero_le _, rfl, Below.refl _ _⟩
  case round =>
    obtain ⟨k, hk, rfl, hb'⟩ := hrel
    obtain ⟨wo, rfl⟩ : ∃ wo, wo = wr := ⟨_, rfl⟩
    have hszo := hb'.size
    have HBEL := hide (HB2.out.trans (hb'.mono HB2.out.size))
    have HXO := hide (HX2.out.below hb')
    have HBW := hide hb'
    have xp := (HXO.out.cell 0 (v := .slice A lp c) rfl).1
    have lxp := HXO.out.lt
    clear hb'
    by_cases hlt : k < lp
    case neg =>
      go_wp2
      go_ret
      exact ⟨rfl, HBEL.out⟩
    obtain ⟨f, hf⟩ : ∃ f, p[k]? = some f := ⟨_, List.getElem?_eq_getElem (by have := HLP.out; omega)⟩
    obtain ⟨b, o, Ak, ck, Ab, cb, As, cs, hA, hbb, ⟨e0, e1, e2, e3, e4⟩, hi⟩ := (HKP.out wo HBEL.out).get hf
    subst hA
    have hbs : b < wo.heap.size := by have := HBEL.out.size; omega
    obtain ⟨hok, hls1⟩ := HOKS.out f (List.mem_of_getElem? hf)
    have kI := fun (W : World) (hW : Below wo.heap.size wo W) => hi.keep (w := wo) (S := (· < w.heap.size)) (up hW HBEL.out.size) (fun _ h => h)
    obtain ⟨AL, hAL⟩ := AbvOf.ex HBEL.out.size hi hok hls1
    have HAL := hide hAL
    have HALL := hide hAL.len
    have HALT := hide (fun b hb => hAL.lt hls1 b hb)
    have hls40 := hok.1
    obtain ⟨pq, hpq⟩ : ∃ p : Int → Int → Bool, ∀ a b, p a b = true ↔ domQ AL a b := ⟨fun a b => @decide _ (Classical.propDecidable (domQ AL a b)), fun a b => by simp⟩
    have HIS := hide (fun (va vb : Value) (zs : List Int) (W : World) (B : Nat) (h1 : IntsV W (· < B) va zs) (h2 : IntsV W (· < B) vb zs) => (rints_any va vb zs zs W B h1 h2).mono (R' := fun e w' => e = .returned (.bool true) ∧ Below W.heap.size W w') (fun e w' ⟨q1, q, q2⟩ => ⟨by rw [q1]; simp, by rw [q2]; exact below_drewN (Below.refl _ _) q⟩))
    have hsW : ∀ W : World, Below wo.heap.size wo W → w.heap.size ≤ W.heap.size := fun W hW => by have := hW.size; have := HBEL.out.size; omega
    have HD1 := hide (fun (W : World) (hW : Below wo.heap.size wo W) => (ddom_any _ _ _ f AL hAL az bz W w.heap.size (hsW W hW) (kI W hW) hok hls1).mono (R' := fun e w' => e = .returned (.bool (pq az bz)) ∧ Below W.heap.size W w') (fun e w' ⟨d, h1, h2, h3⟩ => ⟨by rw [h1]; congr 2; rw [Bool.eq_iff_iff, h2, hpq], h3⟩))
    have HD2 := hide (fun (W : World) (hW : Below wo.heap.size wo W) => (rdom_any _ _ _ f AL hAL az bz W w.heap.size (hsW W hW) (kI W hW) hok hls1).mono (R' := fun e w' => e = .returned (.bool (pq az bz)) ∧ Below W.heap.size W w') (fun e w' ⟨d, h1, h2, h3⟩ => ⟨by rw [h1]; congr 2; rw [Bool.eq_iff_iff, h2, hpq], h3⟩))
    have HL1 := hide (fun (W : World) (hW : Below wo.heap.size wo W) => (dall_any _ _ _ f AL hAL pq hpq bz W w.heap.size (hsW W hW) (kI W hW) hok hls1))
    have HL2 := hide (fun (W : World) (hW : Below wo.heap.size wo W) => (rall_any _ _ _ f AL hAL pq hpq bz W w.heap.size (hsW W hW) (kI W hW) hok hls1))
    obtain ⟨mz, hmz⟩ : ∃ m, meetZ AL az bz m := by
      obtain ⟨e, w', m, -, hm, -⟩ := calls_some (dmeets_any _ _ _ f AL hAL az bz wo w.heap.size (hsW wo (Below.refl _ _)) (kI wo (Below.refl _ _)) hok hls1)
      exact ⟨m, hm⟩
    have HM1 := hide (fun (W : World) (hW : Below wo.heap.size wo W) => (dmeets_any _ _ _ f AL hAL az bz W w.heap.size (hsW W hW) (kI W hW) hok hls1).mono (R' := fun e w' => e = .returned (.int .i64 mz) ∧ Below W.heap.size W w') (fun e w' ⟨d, h1, h2, h3⟩ => ⟨by rw [h1, meetZ_one hAL h2 hmz], h3⟩))
    have HM2 := hide (fun (W : World) (hW : Below wo.heap.size wo W) => (rmeet_any _ _ _ f AL hAL pq hpq az bz W w.heap.size (hsW W hW) (kI W hW) hok hls1).mono (R' := fun e w' => e = .returned (.int .i64 mz) ∧ Below W.heap.size W w') (fun e w' ⟨d, h1, h2, h3⟩ => ⟨by rw [h1, meetZ_one hAL h2 hmz], h3⟩))
    have HRL := hide (show ∀ z ∈ allTo pq bz f.blocks.length, i64R z from fun z hz => by
      obtain ⟨x, rfl, hx, -⟩ := all_mem.1 hz
      unfold i64R
      omega)
    generalize pq az bz = dq at *
    generalize allTo pq bz f.blocks.length = al at *
    generalize f.kinds.length = lk, f.base.length = lb, f.blocks.length = ls, f.params = fp, f.result = fr at *
    have hki : (0 : Int) ≤ (k : Int) := by omega
    have hkl : (k : Int) < (lp : Int) := by omega
    clear hi hf kI hok hAL hpq hsW hmz
    go_upto_region 9 with (fail)
    obtain ⟨w5, hw5⟩ : ∃ w5, w5 = wo.alloc (.cells #[.slice Ak lk ck, .slice Ab lb cb, .int .i64 fp, .int .i64 fr, .slice As ls cs] 30) := ⟨_, rfl⟩
    obtain ⟨h5, hh5⟩ : ∃ h5, wo.heap.size = h5 := ⟨_, rfl⟩
    have HX5 := hide (show Box w5 h5 #[.slice Ak lk ck, .slice Ab lb cb, .int .i64 fp, .int .i64 fr, .slice As ls cs] 30 by rw [hw5, ← hh5]; exact Box.new wo _ _)
    have HB5 := hide (show Below wo.heap.size wo w5 by rw [hw5]; exact alloc1 wo _)
    rw [← hw5, hh5]
    clear hw5 hh5 e0 e1 e2 e3 e4 hbs xp lxp
    have l5 := HX5.out.lt
    have hz5 := HB5.out.size
    have HK5 := hide (fun (W : World) (hW : Below w5.heap.size w5 W) => And.intro ((HX5.out.below hW).cell 0 (v := .slice Ak lk ck) rfl).1 (And.intro ((HX5.out.below hW).cell 1 (v := .slice Ab lb cb) rfl).1 (And.intro ((HX5.out.below hW).cell 2 (v := .int .i64 fp) rfl).1 (And.intro ((HX5.out.below hW).cell 3 (v := .int .i64 fr) rfl).1 ((HX5.out.below hW).cell 4 (v := .slice As ls cs) rfl).1))))
    have HUP := hide (fun (W : World) (hW : Below w5.heap.size w5 W) => HB5.out.trans (hW.mono HB5.out.size))
    obtain ⟨c0, c1, c2, c3, c4⟩ := HK5.out w5 (Below.refl _ _)
    have qd : (dq == dq) = true := by simp
    have qm : (mz == mz) = true := by simp
    go_region_held3 (fun w' => w'.cell? ⟨h5, 0, none⟩ = some (.slice Ak lk ck) ∧ w'.cell? ⟨h5, 1, none⟩ = some (.slice Ab lb cb) ∧ w'.cell? ⟨h5, 2, none⟩ = some (.int .i64 fp) ∧ w'.cell? ⟨h5, 3, none⟩ = some (.int .i64 fr) ∧ w'.cell? ⟨h5, 4, none⟩ = some (.slice As ls cs)) (first | go_keep | (exact qc) | (exact qb) | (exact qa) | (exact q9) | (exact q8) | (exact q7) | (exact q6))
      (first
        | (go_at_call 23; refine (HM2.out wb (HUP.out wb HCb.out)).mono ?_; rintro e wc ⟨rfl, hbc⟩; have hzc := hbc.size; have hcc := HCb.out.trans (hbc.mono HCb.out.size); have qc := HK5.out wc hcc; have HCc := hide hcc; clear hbc hcc hzc)
        | (go_at_call 22; refine (HM1.out wa (HUP.out wa HCa.out)).mono ?_; rintro e wb ⟨rfl, hbb⟩; have hzb := hbb.size; have hcb := HCa.out.trans (hbb.mono HCa.out.size); have qb := HK5.out wb hcb; have HCb := hide hcb; clear hbb hcb hzb)
        | (go_at_call 11; refine (HIS.out _ _ al w9 w9.heap.size HV8b.out HV9.out).mono ?_; rintro e wa ⟨rfl, hba⟩; have hza := hba.size; have hca := HC9.out.trans (hba.mono HC9.out.size); have qa := HK5.out wa hca; have HCa := hide hca; clear hba hca hza)
        | (go_at_call 21; refine (HL2.out w8 (HUP.out w8 HC8.out)).mono ?_; rintro e w9 ⟨v9, rfl, ho9, hb9⟩; have hz9 := hb9.size; have hc9 := HC8.out.trans (hb9.mono HC8.out.size); have q9 := HK5.out w9 hc9; have HC9 := hide hc9; have HV9 := hide (ho9.intsV HRL.out); have HV8b := hide (HV8.out.keep (up hb9 (Nat.le_refl _)) (fun bb hh => by omega) : IntsV w9 (· < w9.heap.size) v8 al); clear hb9 hc9 hz9)
        | (go_at_call 20; refine (HL1.out w7 (HUP.out w7 HC7.out)).mono ?_; rintro e w8 ⟨v8, rfl, ho8, hb8⟩; have hz8 := hb8.size; have hc8 := HC7.out.trans (hb8.mono HC7.out.size); have q8 := HK5.out w8 hc8; have HC8 := hide hc8; have HV8 := hide (ho8.intsV HRL.out); clear hb8 hc8 hz8)
        | (go_at_call 19; refine (HD2.out w6 (HUP.out w6 HC6.out)).mono ?_; rintro e w7 ⟨rfl, hb7⟩; have hz7 := hb7.size; have hc7 := HC6.out.trans (hb7.mono HC6.out.size); have q7 := HK5.out w7 hc7; have HC7 := hide hc7; clear hb7 hc7 hz7)
        | (go_at_call 18; refine (HD1.out _ (HUP.out _ (below_drewN (Below.refl _ _) 1))).mono ?_; rintro e w6 ⟨rfl, hb6⟩; have hc6 : Below w5.heap.size w5 w6 := ⟨hb6.os, hb6.tape, hb6.output, hb6.size, hb6.block⟩; have q6 := HK5.out w6 hc6; have HC6 := hide hc6; clear hb6 hc6))
    all_goals
      go_wp2
      go_roundw
      case rel => exact ⟨k + 1, by omega, by go_num, HBW.out.trans ((HUP.out wc HCc.out).mono hszo)⟩
      case measure => simp [intOf]; omega
end Go.Proofs.Ytkpikgakphdjjaa
