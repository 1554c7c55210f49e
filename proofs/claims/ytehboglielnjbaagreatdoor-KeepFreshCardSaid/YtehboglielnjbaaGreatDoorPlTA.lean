/- The contracts of the reference's within, Last, has, Sets, Next, Uses of layer 4. No condition but on lengths. -/
import Derived.Test.YtehboglielnjbaaGreatDoorPlSB
import Derived.Test.YtehboglielnjbaaGreatDoorPlSFirst
set_option linter.unusedSimpArgs false
set_option linter.unusedVariables false
namespace Go.Proofs.YtehboglielnjbaaGreatDoor
open Go.RowKit

theorem within4_any (n lo hi : Int) (w : World) : Calls Tryz.prog 44 #[.int .i64 n, .int .i64 lo, .int .i64 hi] w fun e w' => e = .returned (.bool (inB lo hi n)) ∧ w = w' := by
  unfold inB
  by_cases h : lo ≤ n
  · have hd : decide (lo ≤ n) = true := by simpa using h
    rw [hd]
    go_enter Tryz.func44, Tryz.ntmps44
    go_wp2
    go_ret
    exact ⟨by simp, rfl⟩
  · have hd : decide (lo ≤ n) = false := by simpa using h
    rw [hd]
    go_enter Tryz.func44, Tryz.ntmps44
    go_wp2
    go_ret
    exact ⟨by simp, rfl⟩
theorem last4_any (op : Int) (w : World) : Calls Tryz.prog 71 #[.int .i64 op] w fun e w' => e = .returned (.bool (lastB op)) ∧ w = w' := by
  unfold lastB
  go_enter Tryz.func71, Tryz.ntmps71
  go_wp2
  all_goals
    go_ret
    exact ⟨by simp_all [Bool.or_assoc], rfl⟩

set_option maxRecDepth 100000 in
theorem has4_any (op : Int) (c : Nat) (w : World) : Calls Tryz.prog 99 #[.int .i64 op, .int .u8 (c : Int)] w fun e w' => e = .returned (.bool (hasB4 op c)) ∧ w = w' := by
  unfold hasB4
  have hl := partsN_letter op
  have hlen := partsN_len op
  have hP := fun W => rparts_any op W
  generalize partsN op = l at *
  obtain ⟨s, hs⟩ : ∃ s, strOf l = s := ⟨_, rfl⟩
  have hz : s.size = l.length := by rw [← hs, strOf_size]
  have hg : ∀ (k d : Nat), l[k]? = some d → ∀ hk : k < s.size, (s[k]'hk).toNat = d := fun k d hd hk => by subst hs; exact strOf_get hl hd hk
  rw [hs] at hP
  have HP := hide hP
  have HG := hide hg
  have HZ := hide hz
  have hmx : s.size ≤ 100 := by omega
  clear hg hz hs hP hl hlen
  go_enter Tryz.func99, Tryz.ntmps99
  go_wp2_with (go_at_call 72; refine (HP.out _).mono ?_; rintro e w' ⟨rfl, rfl⟩)
  go_loop [6] (fun i => ∃ k : Nat, k ≤ s.size ∧ i = .int .i64 k ∧ Hid (c ∉ l.take k)) (fun i => s.size - (intOf i).toNat)
  case atStart => exact ⟨0, Nat.zero_le _, rfl, hide (by simp)⟩
  case round =>
    obtain ⟨k, hk, rfl, hno⟩ := hrel
    by_cases hlt : k < s.size
    · obtain ⟨d, hd⟩ : ∃ d, l[k]? = some d := ⟨_, List.getElem?_eq_getElem (by have := HZ.out; omega)⟩
      have e := HG.out k d hd hlt
      have HD := hide hd
      clear hd
      by_cases hcd : d = c
      · subst hcd
        have hv := hide (decide_eq_true (show d ∈ l from List.mem_of_getElem? HD.out))
        go_wp2
        go_ret
        exact ⟨ret_bool hv.out.symm, rfl⟩
      · have hne : ((d : Int) == (c : Int)) = false := by simp; omega
        have hn := hide (show c ∉ l.take (k + 1) by
          rw [List.take_add_one, HD.out]
          intro hm
          rcases List.mem_append.1 hm with h | h
          · exact hno.out h
          · simp at h; exact hcd h.symm)
        clear hcd
        go_wp2
        go_round
        case rel => exact ⟨k + 1, by omega, by go_num, hn⟩
        case measure => simp [intOf]; omega
    · have hv := hide (decide_eq_false (show ¬ c ∈ l from fun h => hno.out (by rw [List.take_of_length_le (by have := HZ.out; omega)]; exact h)))
      go_wp2
      go_ret
      exact ⟨ret_bool hv.out.symm, rfl⟩

set_option maxRecDepth 100000 in
theorem sets4_any (x : InsV) (A : Option Addr) (n c : Nat) (w : World) :
    Calls Tryz.prog 75 #[.agg #[.int .i64 x.op, .int .i64 x.d, .int .i64 x.a, .int .i64 x.b, .int .i64 x.n, .int .i64 x.m, .slice A n c]] w fun e w' => e = .returned (.tuple #[.int .i64 (if hasB4 x.op 68 = true then x.d else 0), .bool (hasB4 x.op 68)]) ∧ Below w.heap.size w w' := by
  have H : ∀ W, Calls Tryz.prog 99 #[.int .i64 x.op, .int .u8 68] W fun e w' => e = .returned (.bool (hasB4 x.op 68)) ∧ W = w' := fun W => has4_any x.op 68 W
  have HH := hide H
  clear H
  generalize hasB4 x.op 68 = b at *
  cases b with
  | false =>
    go_enter Tryz.func75, Tryz.ntmps75
    go_wp2_with (go_at_call 99; refine (HH.out _).mono ?_; rintro e w' ⟨rfl, rfl⟩)
    go_ret2
    exact ⟨rfl, alloc1 w _⟩
  | true =>
    go_enter Tryz.func75, Tryz.ntmps75
    go_wp2_with (go_at_call 99; refine (HH.out _).mono ?_; rintro e w' ⟨rfl, rfl⟩)
    go_ret2
    exact ⟨rfl, alloc1 w _⟩

set_option maxRecDepth 100000 in
theorem next4_any (x : InsV) (A : Option Addr) (n c : Nat) (w : World) :
    Calls Tryz.prog 53 #[.agg #[.int .i64 x.op, .int .i64 x.d, .int .i64 x.a, .int .i64 x.b, .int .i64 x.n, .int .i64 x.m, .slice A n c]] w fun e w' => ∃ A' c', e = .returned (.slice A' (nextL x).length c') ∧ Sl w' w'.heap.size .i64 A' (nextL x) ∧ (nextL x).length ≤ c' ∧ c' ≤ 2 ∧ Below w.heap.size w w' := by
  by_cases h21 : x.op = 21
  · have hv := hide (show nextL x = [x.n] by unfold nextL; rw [if_pos (.inl h21)])
    rw [h21]
    clear h21
    go_enter Tryz.func53, Tryz.ntmps53
    go_wp2
    go_ret
    refine ⟨some ⟨w.heap.size + 1, 0, none⟩, 1, by rw [hv.out]; rfl, ?_, by rw [hv.out]; exact Nat.le_refl _, by omega, (alloc1 w _).alloc (by simp) _⟩
    rw [hv.out]
    have h := fun o => Sl.lit (w.alloc o) 3 .i64 #[.int .i64 x.n] [x.n] rfl
    simp only [World.size_alloc] at h
    exact (h _).more (by simp only [World.size_alloc]; omega)
  · have b21 : (x.op == 21) = false := by simpa using h21
    by_cases h22 : x.op = 22
    · by_cases hnm : x.n = x.m
      · have hv := hide (show nextL x = [x.n] by unfold nextL; rw [if_pos (.inr ⟨h22, hnm⟩)])
        rw [h22] at b21 ⊢
        rw [← hnm]
        clear h22 h21 hnm
        go_enter Tryz.func53, Tryz.ntmps53
        go_wp2
        go_ret
        refine ⟨some ⟨w.heap.size + 1, 0, none⟩, 1, by rw [hv.out]; rfl, ?_, by rw [hv.out]; exact Nat.le_refl _, by omega, (alloc1 w _).alloc (by simp) _⟩
        rw [hv.out]
        have h := fun o => Sl.lit (w.alloc o) 3 .i64 #[.int .i64 x.n] [x.n] rfl
        simp only [World.size_alloc] at h
        exact (h _).more (by simp only [World.size_alloc]; omega)
      · have hv := hide (show nextL x = [min x.n x.m, max x.n x.m] by unfold nextL; rw [if_neg (by omega), if_pos h22])
        have bnm : (x.n == x.m) = false := by simpa using hnm
        rw [h22] at b21 ⊢
        clear h22 h21 hnm
        go_enter Tryz.func53, Tryz.ntmps53
        go_wp2
        go_ret
        refine ⟨some ⟨w.heap.size + 1, 0, none⟩, 2, by rw [hv.out]; rfl, ?_, by rw [hv.out]; exact Nat.le_refl _, by omega, (alloc1 w _).alloc (by simp) _⟩
        rw [hv.out]
        have h := fun o => Sl.lit (w.alloc o) 3 .i64 #[.int .i64 (min x.n x.m), .int .i64 (max x.n x.m)] [min x.n x.m, max x.n x.m] rfl
        simp only [World.size_alloc] at h
        exact (h _).more (by simp only [World.size_alloc]; omega)
    · have hv := hide (show nextL x = [] by unfold nextL; rw [if_neg (by omega), if_neg h22])
      have b22 : (x.op == 22) = false := by simpa using h22
      clear h22 h21
      go_enter Tryz.func53, Tryz.ntmps53
      go_wp2
      go_ret
      exact ⟨none, 0, by rw [hv.out]; rfl, by rw [hv.out]; exact Sl.nil _ _ _ _, by rw [hv.out]; exact Nat.le_refl _, by omega, alloc1 w _⟩

section
variable {P : Program} (w : World)
/-- append(v, x..), v the call's own, x a slice that reads as 'news', nil or not. -/
theorem wpList_append_slW {ops : Array Oper} {rest : List Oper} {o : Oper} {a : Act} {Q : Exit → Act → World → Prop} (hgd : o.guard = none) (s x : Operand) (t : TypeId)
    (ho : o.op = .call { callee := .builtin .append, args := #[s, x], argTypes := #[t, t] })
    (base : Nat) (e : TypeId) (k : IntKind) (i : TypeInfo) (z : Value) (bytes : Nat) (ht : P.underlying t = some (.slice e)) (hi : P.info? e = some i) (hz : i.zero = some z)
    (hsize : i.size = 1) (hby : i.bytes = bytes) (hzs : z.cells.size = 1) (hb8 : bytes ≤ 8)
    (v : Value) (zs : List Int) (hs : a.eval s = v) (hown : Ow w base e k v zs)
    (B : Nat) (A : Option Addr) (m c : Nat) (news : List Int) (hx : a.eval x = .slice A m c) (hm : news.length = m) (hr : Sl w B k A news)
    (hroom : zs.length + m ≤ 17592186044416) (hbase : base ≤ w.heap.size)
    (h : ∀ v' w', Ow w' base e k v' (zs ++ news) → Below base w w' → wpList P ops Q rest (a.put o.dst v') w') : wpList P ops Q (o :: rest) a w := by
  subst hm
  refine wpList_plain hgd fun K hK => ?_
  have key : ∃ v' w', (Builtin.append_ #[t, t] o.type #[v, .slice A news.length c]).run P w = .ok v' w' ∧ Ow w' base e k v' (zs ++ news) ∧ Below base w w' := by
    by_cases h0 : news = []
    · subst h0
      refine ⟨v, w, ?_, by simpa using hown, Below.refl _ _⟩
      rcases hown.2 with ⟨rfl, _⟩ | ⟨g, cap, cur, rfl, _, _, hnc, _⟩
      · cases A <;> simp [Builtin.append_, run_underlying ht, sizeOf, typeInfo, hi, Builtin.lenOf, Builtin.firstCells, loadCells, loadCellsFrom]
      · cases A <;> simp [Builtin.append_, run_underlying ht, sizeOf, typeInfo, hi, Builtin.lenOf, Builtin.firstCells, hnc, storeCells, loadCells, loadCellsFrom]
        all_goals simp [List.length_map] at hnc
        all_goals first | omega | (simp [storeCells])
    · obtain ⟨b, off, rfl, _, hc⟩ := hr (List.length_pos_iff.2 h0)
      obtain ⟨v', w', hrun, h2, h3, _⟩ := run_append_own (P := P) w base t o.type e i z 1 bytes ht hi hz hsize hby hzs (by omega) v zs.length (zs.map (Value.int k)) hown ⟨b, off, none⟩ news.length c (news.map (Value.int k)) (by simp)
        (fun j u hu => by
          have hj : j < news.length := by have := (List.getElem?_eq_some_iff.1 hu).1; simpa using this
          rw [Addr.add_lit, hc j hj]
          rw [← hu]
          simp [List.getD, hj]) (ints_one k news) (by simp only [maxLen]; omega)
        (by have : (zs.length + news.length) * bytes ≤ 17592186044416 * 8 := Nat.mul_le_mul hroom hb8; omega) hbase
      refine ⟨v', w', hrun, by unfold Ow; simpa using h2, (Below.refl _ _).grown h3 hbase fun g hg => (World.ownsRow.lt hown g hg).1⟩
  obtain ⟨v', w', hrun, h2, h3⟩ := key
  unfold Oper.wp execOp
  simp only [ho, resolve, invoke, builtin, Sem.run_bind, Sem.run_pure, Result.andThen_ok, List.map_toArray, List.map_cons, List.map_nil, hs, hx, hrun]
  exact hK _ _ (h v' w' h2 h3)

/-- append(v, y), v the call's own: y lies in a new block of one cell. -/
theorem wpList_append_oneW {ops : Array Oper} {rest : List Oper} {o : Oper} {a : Act} {Q : Exit → Act → World → Prop} (hgd : o.guard = none) (s x : Operand) (t : TypeId)
    (ho : o.op = .call { callee := .builtin .append, args := #[s, x], argTypes := #[t, t] })
    (base : Nat) (e : TypeId) (k : IntKind) (i : TypeInfo) (z : Value) (bytes : Nat) (ht : P.underlying t = some (.slice e)) (hi : P.info? e = some i) (hz : i.zero = some z)
    (hsize : i.size = 1) (hby : i.bytes = bytes) (hzs : z.cells.size = 1) (hb8 : bytes ≤ 8)
    (v : Value) (zs : List Int) (hs : a.eval s = v) (hown : Ow w base e k v zs) (y : Int)
    (hx : a.eval x = .slice (some ⟨w.heap.size, 0, none⟩) 1 1)
    (hroom : zs.length < 17592186044416) (hbase : base ≤ w.heap.size)
    (h : ∀ v' w', Ow w' base e k v' (zs ++ [y]) → Below base w w' → wpList P ops Q rest (a.put o.dst v') w') : wpList P ops Q (o :: rest) a (w.alloc (.cells #[.int k y] e)) :=
  wpList_append_slW (w.alloc (.cells #[.int k y] e)) hgd s x t ho base e k i z bytes ht hi hz hsize hby hzs hb8 v zs hs (hown.alloc _) (w.heap.size + 1) (some ⟨w.heap.size, 0, none⟩) 1 1 [y] hx rfl
    (fun _ => ⟨w.heap.size, 0, rfl, by omega, fun j hj => by
      have : j = 0 := by simpa using hj
      subst this
      simp⟩) (by omega) (by simp; omega) (fun v' w' h1 h2 => h v' w' h1 (((Below.refl _ _).alloc hbase _).trans h2))
end
set_option maxHeartbeats 1000000 in
set_option maxRecDepth 100000 in
theorem uses4_any (x : InsV) (va : Value) (w : World) (B : Nat) (hB : B ≤ w.heap.size) (hx : InsI w (· < B) va x) (hlen : x.args.length ≤ 17592186044000) :
    Calls Tryz.prog 74 #[.agg #[.int .i64 x.op, .int .i64 x.d, .int .i64 x.a, .int .i64 x.b, .int .i64 x.n, .int .i64 x.m, va]] w fun e w' => ∃ v, e = .returned v ∧ Ow w' w.heap.size 3 .i64 v (usesL x) ∧ Below w.heap.size w w' := by
  obtain ⟨i0, hi0, iz0, iz1, iz2⟩ := info_parts info_i64
  have HI := hide hi0
  clear hi0
  have hA : ∀ W, Calls Tryz.prog 99 #[.int .i64 x.op, .int .u8 65] W fun e w' => e = .returned (.bool (hasB4 x.op 65)) ∧ W = w' := fun W => has4_any x.op 65 W
  have hBb : ∀ W, Calls Tryz.prog 99 #[.int .i64 x.op, .int .u8 66] W fun e w' => e = .returned (.bool (hasB4 x.op 66)) ∧ W = w' := fun W => has4_any x.op 66 W
  have hL : ∀ W, Calls Tryz.prog 99 #[.int .i64 x.op, .int .u8 76] W fun e w' => e = .returned (.bool (hasB4 x.op 76)) ∧ W = w' := fun W => has4_any x.op 76 W
  obtain ⟨A, c, rfl, hc, hm, hsl, -⟩ := hx.1.sl
  have HSL := hide (hsl.more hB)
  have HSLB := hide hsl
  unfold usesL
  generalize hasB4 x.op 65 = b1 at *
  generalize hasB4 x.op 66 = b2 at *
  generalize hasB4 x.op 76 = b3 at *
  obtain ⟨zs, hzs⟩ : ∃ zs, x.args = zs := ⟨_, rfl⟩
  rw [hzs] at hc HSL HSLB hlen ⊢
  obtain ⟨la, hla⟩ : ∃ la, zs.length = la := ⟨_, rfl⟩
  rw [hla] at hc hlen ⊢
  have HLA := hide hla
  generalize x.op = xop, x.d = xd, x.a = xa, x.b = xb, x.n = xn, x.m = xm at *
  have HA := hide hA; have HBb := hide hBb; have HL := hide hL
  clear hA hBb hL hx hsl hzs hla
  cases b1 <;> cases b2 <;> cases b3
  all_goals
    go_enter Tryz.func74, Tryz.ntmps74
    go_upto_region 2 with (fail)
    obtain ⟨w1, hw1⟩ : ∃ w1, w1 = w.alloc (.cells #[.int .i64 xop, .int .i64 xd, .int .i64 xa, .int .i64 xb, .int .i64 xn, .int .i64 xm, .slice A la c] 47) := ⟨_, rfl⟩
    have HBX := hide (show Box w1 w.heap.size #[.int .i64 xop, .int .i64 xd, .int .i64 xa, .int .i64 xb, .int .i64 xn, .int .i64 xm, .slice A la c] 47 by rw [hw1]; exact Box.new w _ _)
    have HB1 := hide (show Below w.heap.size w w1 by rw [hw1]; exact alloc1 w _)
    have hl1 := HBX.out.lt
    have x0 := (HBX.out.cell 0 (v := .int .i64 xop) rfl).1
    have x2 := (HBX.out.cell 2 (v := .int .i64 xa) rfl).1
    have x3 := (HBX.out.cell 3 (v := .int .i64 xb) rfl).1
    have x6 := (HBX.out.cell 6 (v := .slice A la c) rfl).1
    rw [← hw1]
    clear hw1
    have HO1 := hide (Ow.nil w1 w1.heap.size 3 .i64)
    go_wp2_with (first
      | (go_at_call 99; (with_reducible refine (HL.out _).mono ?_); rintro e w' ⟨rfl, rfl⟩)
      | (go_at_call 99; (with_reducible refine (HBb.out _).mono ?_); rintro e w' ⟨rfl, rfl⟩)
      | (go_at_call 99; (with_reducible refine (HA.out _).mono ?_); rintro e w' ⟨rfl, rfl⟩)
      | (at_builtin; refine wpList_append_slW _ rfl (.tmp 23) (.tmp 25) _ rfl w1.heap.size 3 .i64 i0 _ 8 Tryz.underlying29 HI.out iz0 iz1 iz2 rfl (by omega) _ _ rfl (by first | exact HO3.out | exact HO2.out | exact HO1.out) w.heap.size A _ c zs rfl HLA.out (by first | exact HSL.out.below HB3.out | exact HSL.out.below HB2.out | exact HSL.out.below HB1.out) (by simp; omega) (by first | exact HC3.out.size | exact HC2.out.size | exact Nat.le_refl _) ?_; intro v4 w4 ho4 hb4; have HO4 := hide ho4; have HB4 : Hid (Below w.heap.size w w4) := (by first | exact HB3.out.trans (hb4.mono (by omega)) | exact HB2.out.trans (hb4.mono (by omega)) | exact HB1.out.trans (hb4.mono (by omega))); clear ho4 hb4)
      | (at_builtin; refine wpList_append_oneW _ rfl (.tmp 15) (.tmp 18) _ rfl w1.heap.size 3 .i64 i0 _ 8 Tryz.underlying29 HI.out iz0 iz1 iz2 rfl (by omega) _ _ rfl (by first | exact HO2.out | exact HO1.out) xb rfl (by simp) (by first | exact HC2.out.size | exact Nat.le_refl _) ?_; intro v3 w3 ho3 hb3; have hx3 : Box w3 w.heap.size #[.int .i64 xop, .int .i64 xd, .int .i64 xa, .int .i64 xb, .int .i64 xn, .int .i64 xm, .slice A la c] 47 := (by first | exact HX2.out.belowB hb3 hl1 | exact HBX.out.belowB hb3 hl1); have HB3 : Hid (Below w.heap.size w w3) := (by first | exact HB2.out.trans (hb3.mono (by omega)) | exact HB1.out.trans (hb3.mono (by omega))); have HC3 : Hid (Below w1.heap.size w1 w3) := (by first | exact HC2.out.trans hb3 | exact hb3); have hl3 := hx3.lt; have z0 := (hx3.cell 0 (v := .int .i64 xop) rfl).1; have z6 := (hx3.cell 6 (v := .slice A la c) rfl).1; have HO3 := hide ho3; clear ho3 hb3 hx3)
      | (at_builtin; refine wpList_append_oneW _ rfl (.tmp 7) (.tmp 10) _ rfl w1.heap.size 3 .i64 i0 _ 8 Tryz.underlying29 HI.out iz0 iz1 iz2 rfl (by omega) _ [] rfl HO1.out xa rfl (by simp) (Nat.le_refl _) ?_; intro v2 w2 ho2 hb2; rw [List.nil_append] at ho2; have hx2 := HBX.out.belowB hb2 hl1; have HB2 := hide (HB1.out.trans (hb2.mono (by omega))); have HC2 := hide hb2; have hl2 := hx2.lt; have y0 := (hx2.cell 0 (v := .int .i64 xop) rfl).1; have y3 := (hx2.cell 3 (v := .int .i64 xb) rfl).1; have y6 := (hx2.cell 6 (v := .slice A la c) rfl).1; have HX2 := hide hx2; have HO2 := hide ho2; clear ho2 hb2 hx2 x0 x2 x3 x6))
    all_goals
      go_ret
      first
        | exact ⟨_, rfl, by simpa using HO4.out.lower (by omega), HB4.out⟩
        | exact ⟨_, rfl, by simpa using HO3.out.lower (by omega), HB3.out⟩
        | exact ⟨_, rfl, by simpa using HO2.out.lower (by omega), HB2.out⟩
        | exact ⟨_, rfl, by simpa using HO1.out.lower (by omega), HB1.out⟩
end Go.Proofs.YtehboglielnjbaaGreatDoor
