/- Layer 17, the program: what may be moved; the closures; slices.IndexFunc and ContainsFunc by each of them; Clone. No condition but on lengths. -/
import Derived.Test.YtkilfejcohnceaaPaIA
import Derived.Test.YtkilfejcohnceaaPaDF
set_option linter.unusedSimpArgs false
set_option linter.unusedVariables false
namespace Go.Proofs.Ytkilfejcohnceaa
open Go.RowKit

set_option maxRecDepth 100000 in
theorem imov_any (x : LcV) (w : World) : Calls Try.prog 21 #[lcA x] w fun e w' => e = .returned (.bool (mayB17 x)) ∧ Below w.heap.size w w' := by
  obtain ⟨k, n⟩ := x
  unfold lcA mayB17
  go_enter Try.func21, Try.ntmps21
  go_wp2
  all_goals
    go_ret
    refine ⟨ret_bool ?_, alloc1 w _⟩
    try simp only [beq_iff_eq, beq_eq_false_iff_ne] at *
    refine Bool.eq_iff_iff.2 ?_
    first | (simp; done) | (simp; omega)
set_option maxRecDepth 100000 in
theorem imay_any (x : LcV) (w : World) : Calls Try.prog 17 #[lcA x] w fun e w' => e = .returned (.bool (mayB17 x)) ∧ Below w.heap.size w w' := by
  obtain ⟨k, n⟩ := x
  unfold lcA mayB17
  go_enter Try.func17, Try.ntmps17
  go_wp2
  all_goals
    go_ret
    refine ⟨ret_bool ?_, alloc1 w _⟩
    try simp only [beq_iff_eq, beq_eq_false_iff_ne] at *
    refine Bool.eq_iff_iff.2 ?_
    first | (simp; done) | (simp; omega)
theorem lc_cases (a b : LcV) : (a = b) ∨ (¬ a.k = b.k) ∨ (a.k = b.k ∧ ¬ a.n = b.n) := by
  obtain ⟨ak, an⟩ := a
  obtain ⟨bk, bn⟩ := b
  by_cases h0 : ak = bk <;> by_cases h1 : an = bn <;> simp [h0, h1]
theorem lc_ne {a b : LcV} (h : (¬ a.k = b.k) ∨ (a.k = b.k ∧ ¬ a.n = b.n)) : decide (a = b) = false := decide_eq_false (fun e => by
  subst e
  rcases h with h | h
  · exact h rfl
  · exact h.2 rfl)
set_option maxRecDepth 100000 in
theorem iord1_any (gs : Nat) (m : MvV) (sp : LcV) (w : World) (hb : Box w gs #[.int .i64 sp.k, .int .i64 sp.n] 24) : Calls Try.prog 23 #[mvA m, .pointer (some ⟨gs, 0, none⟩)] w fun e w' => e = .returned (.bool (decide (m.t = sp) || decide (m.f = sp))) ∧ Below w.heap.size w w' := by
  have c0 := (hb.cell 0 (v := .int .i64 sp.k) rfl).1
  have c1 := (hb.cell 1 (v := .int .i64 sp.n) rfl).1
  have lg := hb.lt
  obtain ⟨r1, hr1⟩ := letl (decide (m.t = sp))
  obtain ⟨r2, hr2⟩ := letl (decide (m.f = sp))
  rw [hr1, hr2]
  have e1 : (m.t = sp ∧ r1 = true) ∨ (((¬ m.t.k = sp.k) ∨ (m.t.k = sp.k ∧ ¬ m.t.n = sp.n)) ∧ r1 = false) := by
    rcases lc_cases m.t sp with h | h
    · exact .inl ⟨h, by rw [← hr1, decide_eq_true h]⟩
    · exact .inr ⟨h, by rw [← hr1, lc_ne h]⟩
  have e2 : (m.f = sp ∧ r2 = true) ∨ (((¬ m.f.k = sp.k) ∨ (m.f.k = sp.k ∧ ¬ m.f.n = sp.n)) ∧ r2 = false) := by
    rcases lc_cases m.f sp with h | h
    · exact .inl ⟨h, by rw [← hr2, decide_eq_true h]⟩
    · exact .inr ⟨h, by rw [← hr2, lc_ne h]⟩
  clear hb hr1 hr2
  obtain ⟨⟨tk, tn⟩, ⟨fk, fn⟩⟩ := m
  obtain ⟨sk, sn⟩ := sp
  simp only [LcV.mk.injEq] at c0 c1 e1 e2
  unfold mvA
  rcases e1 with ⟨⟨rfl, rfl⟩, rfl⟩ | ⟨h1 | ⟨rfl, h1⟩, rfl⟩
  · clear e2
    go_enter Try.func23, Try.ntmps23
    go_wp2
    go_ret
    exact ⟨by simp, alloc1 w _⟩
  all_goals
    rcases e2 with ⟨⟨h2, h3⟩, h4⟩ | ⟨h2 | ⟨h3, h2⟩, h4⟩
    all_goals
      subst h4
      try subst h3
      try subst h2
      go_enter Try.func23, Try.ntmps23
      go_wp2
      go_ret
      exact ⟨by simp, alloc1 w _⟩
set_option maxRecDepth 100000 in
theorem iself_any (m : MvV) (w : World) : Calls Try.prog 32 #[mvA m] w fun e w' => e = .returned (.bool (selfB m)) ∧ Below w.heap.size w w' := by
  obtain ⟨r1, hr1⟩ := letl (selfB m)
  rw [hr1]
  have e1 : (m.t = m.f ∧ r1 = true) ∨ (((¬ m.t.k = m.f.k) ∨ (m.t.k = m.f.k ∧ ¬ m.t.n = m.f.n)) ∧ r1 = false) := by
    rcases lc_cases m.t m.f with h | h
    · exact .inl ⟨h, by rw [← hr1]; exact decide_eq_true h⟩
    · exact .inr ⟨h, by rw [← hr1]; exact lc_ne h⟩
  clear hr1
  obtain ⟨⟨tk, tn⟩, ⟨fk, fn⟩⟩ := m
  simp only [LcV.mk.injEq] at e1
  unfold mvA
  rcases e1 with ⟨⟨rfl, rfl⟩, rfl⟩ | ⟨h1 | ⟨rfl, h1⟩, rfl⟩
  all_goals
    go_enter Try.func32, Try.ntmps32
    go_wp2
    go_ret
    exact ⟨by simp, alloc1 w _⟩
set_option maxHeartbeats 1000000 in
set_option maxRecDepth 100000 in
theorem inext1_any (gp gq gm n : Nat) (vl vd : Value) (T : LcV → Int) (m : MvV) (hm : lcR m.t) (w : World) (hp : Box w gp #[.pointer (some ⟨gq, 0, none⟩)] 61) (hq : Box w gq #[vl, .map (some gm), vd] 47) (hM : MapL w gm n T) :
    Calls Try.prog 33 #[mvA m, .pointer (some ⟨gp, 0, none⟩)] w fun e w' => e = .returned (.bool (decide (T m.t = 0))) ∧ Below w.heap.size w w' := by
  obtain ⟨⟨tk, tn⟩, ⟨fk, fn⟩⟩ := m
  unfold mvA
  obtain ⟨v, hv⟩ := letl (T ⟨tk, tn⟩)
  have c0 := (hp.cell 0 (v := .pointer (some ⟨gq, 0, none⟩)) rfl).1
  have c1 := (hq.cell 1 (v := .map (some gm)) rfl).1
  have lp := hp.lt
  have lq := hq.lt
  have hlk := fun (W : World) (hW : Below w.heap.size w W) => (hM.below hW).look hm
  simp only at hlk
  rw [hv] at hlk ⊢
  replace hlk := fun n => hlk _ (below_drewN (alloc1 w (.cells #[.int .i64 tk, .int .i64 tn, .int .i64 fk, .int .i64 fn] 38)) n)
  clear hp hq hM hv
  go_enter Try.func33, Try.ntmps33
  go_wp2
  go_quiet (fail)
  go_wp2
  go_ret
  exact ⟨ret_bool (by first | rfl | (by_cases h : v = 0 <;> simp [h])), below_drewN (alloc1 w _) _⟩
def IdxM (q : MvV → Bool) (es : List MvV) (w : World) (e : Ending) (w' : World) : Prop := ∃ z : Int, e = .returned (.int .i64 z) ∧ Below w.heap.size w w' ∧ z = (if es.findIdx q < es.length then ((es.findIdx q : Nat) : Int) else -1)
theorem idx_no {q : MvV → Bool} {es : List MvV} (h : ∀ j, j < es.length → ∀ e, es[j]? = some e → q e = false) : es.findIdx q = es.length := by
  rw [List.findIdx_eq_length]
  intro x hx
  obtain ⟨j, hj⟩ := List.getElem?_of_mem hx
  exact h j (List.getElem?_eq_some_iff.1 hj).1 x hj
theorem idx_at {q : MvV → Bool} {es : List MvV} {i : Nat} {y : MvV} (h : ∀ j, j < i → ∀ e, es[j]? = some e → q e = false) (hy : es[i]? = some y) (hq : q y = true) : es.findIdx q = i := by
  have hi := (List.getElem?_eq_some_iff.1 hy).1
  rw [List.findIdx_eq hi]
  refine ⟨?_, fun j hj => ?_⟩
  · rw [(List.getElem?_eq_some_iff.1 hy).2]; exact hq
  · exact h j hj _ (List.getElem?_eq_getElem (by omega))
set_option maxHeartbeats 2000000 in
set_option maxRecDepth 100000 in
theorem iidx1_any (gs : Nat) (q : MvV → Bool) (es : List MvV) (A : Option Addr) (c : Nat) (w : World) (hn : es.length ≤ 1000) (hs : MvsV w (· < w.heap.size) (.slice A es.length c) es)
    (hq : ∀ (W : World), Below w.heap.size w W → ∀ e ∈ es, Calls Try.prog 23 #[mvA e, .pointer (some ⟨gs, 0, none⟩)] W fun x w' => x = .returned (.bool (q e)) ∧ Below W.heap.size W w') :
    Calls Try.prog 29 #[.slice A es.length c, .func (.func 23) #[] #[.pointer (some ⟨gs, 0, none⟩)]] w (IdxM q es w) := by
  have HQ := hide hq
  have HS := hide (fun (W : World) (hW : Below w.heap.size w W) (b o : Nat) (hA : A = some ⟨b, o, none⟩) (j : Nat) (y : MvV) (hy : es[j]? = some y) => (hA ▸ hs).at' hW hy)
  have HAA := hide (fun (j : Nat) (y : MvV) (hy : es[j]? = some y) => (show (∃ b o, A = some ⟨b, o, none⟩) from by
    obtain ⟨b, o, e, -⟩ := hs.get hy
    exact ⟨b, o, e⟩))
  obtain ⟨n, hn'⟩ := letl es.length
  have HN := hide hn'
  rw [hn'] at hn ⊢
  clear hq hs hn'
  go_enter Try.func29, Try.ntmps29
  go_wp2
  go_loopw [8] (fun i wr => ∃ k : Nat, k ≤ n ∧ i = .int .i64 (k : Int) ∧ Below w.heap.size w wr ∧ Hid (∀ j, j < k → ∀ e, es[j]? = some e → q e = false)) (fun i _ => n - (intOf i).toNat)
  case atStart => exact ⟨0, Nat.zero_le _, rfl, Below.refl _ _, hide (fun j hj => by omega)⟩
  case round =>
    obtain ⟨k, hk, rfl, hb, HNO⟩ := hrel
    obtain ⟨wo, rfl⟩ : ∃ wo, wo = wr := ⟨_, rfl⟩
    have hsz := hb.size
    have HB := hide hb
    clear hb
    by_cases hlt : k < n
    case neg =>
      obtain rfl : n = k := by omega
      have hnl : ¬ ((n : Int) < (n : Int)) := by omega
      have HE := hide (idx_no (q := q) (es := es) (fun j hj e he => HNO.out j (by have := HN.out; omega) e he))
      go_wp2
      go_ret
      exact ⟨-1, rfl, HB.out, by rw [HE.out, if_neg (Nat.lt_irrefl _)]⟩
    have HLT := hide hlt
    obtain ⟨y, hy⟩ : ∃ y, es[k]? = some y := ⟨_, List.getElem?_eq_getElem (by have := HN.out; omega)⟩
    obtain ⟨be, oe, hA⟩ := HAA.out k y hy
    subst hA
    obtain ⟨d0, d1, d2, d3, hbs⟩ := HS.out wo HB.out be oe rfl k y hy
    have HY := hide hy
    have HQK := hide (HQ.out wo HB.out y (List.mem_of_getElem? hy))
    have hk0 : (0 : Int) ≤ (k : Int) := by omega
    have hk1 : (k : Int) < (n : Int) := by omega
    obtain ⟨⟨tk, tn⟩, ⟨fk, fn⟩⟩ := y
    simp only at d0 d1 d2 d3
    unfold mvA at HQK
    simp only at HQK
    clear hy
    cases hqv : q ⟨⟨tk, tn⟩, ⟨fk, fn⟩⟩ with
    | true =>
      have HE := hide (idx_at (q := q) HNO.out HY.out hqv)
      rw [hqv] at HQK
      clear hqv
      go_wp2_with (go_at_call 23; refine HQK.out.mono ?_; rintro e w5 ⟨rfl, hb5⟩; have HB5 := hide (HB.out.trans (hb5.mono hsz)); clear hb5)
      go_ret
      exact ⟨(k : Int), rfl, HB5.out, by rw [HE.out, if_pos (by have := HLT.out; have := HN.out; omega)]⟩
    | false =>
      have HQV := hide hqv
      rw [hqv] at HQK
      clear hqv
      have HN2 := hide (show ∀ j, j < k + 1 → ∀ e, es[j]? = some e → q e = false from fun j hj e he => by
        by_cases h : j < k
        · exact HNO.out j h e he
        · obtain rfl : j = k := by omega
          rw [HY.out] at he
          injection he with he
          subst he
          exact HQV.out)
      go_wp2_with (go_at_call 23; refine HQK.out.mono ?_; rintro e w5 ⟨rfl, hb5⟩; have HB5 := hide (HB.out.trans (hb5.mono hsz)); clear hb5)
      go_roundw
      case rel => exact ⟨k + 1, by have := HLT.out; omega, by go_num, HB5.out, HN2⟩
      case measure => have := HLT.out; simp [intOf]; omega
set_option maxHeartbeats 2000000 in
set_option maxRecDepth 100000 in
theorem iidxS_any (q : MvV → Bool) (es : List MvV) (A : Option Addr) (c : Nat) (w : World) (hn : es.length ≤ 1000) (hs : MvsV w (· < w.heap.size) (.slice A es.length c) es)
    (hq : ∀ (W : World), Below w.heap.size w W → ∀ e ∈ es, Calls Try.prog 32 #[mvA e] W fun x w' => x = .returned (.bool (q e)) ∧ Below W.heap.size W w') :
    Calls Try.prog 29 #[.slice A es.length c, .func (.func 32) #[] #[]] w (IdxM q es w) := by
  have HQ := hide hq
  have HS := hide (fun (W : World) (hW : Below w.heap.size w W) (b o : Nat) (hA : A = some ⟨b, o, none⟩) (j : Nat) (y : MvV) (hy : es[j]? = some y) => (hA ▸ hs).at' hW hy)
  have HAA := hide (fun (j : Nat) (y : MvV) (hy : es[j]? = some y) => (show (∃ b o, A = some ⟨b, o, none⟩) from by
    obtain ⟨b, o, e, -⟩ := hs.get hy
    exact ⟨b, o, e⟩))
  obtain ⟨n, hn'⟩ := letl es.length
  have HN := hide hn'
  rw [hn'] at hn ⊢
  clear hq hs hn'
  go_enter Try.func29, Try.ntmps29
  go_wp2
  go_loopw [8] (fun i wr => ∃ k : Nat, k ≤ n ∧ i = .int .i64 (k : Int) ∧ Below w.heap.size w wr ∧ Hid (∀ j, j < k → ∀ e, es[j]? = some e → q e = false)) (fun i _ => n - (intOf i).toNat)
  case atStart => exact ⟨0, Nat.zero_le _, rfl, Below.refl _ _, hide (fun j hj => by omega)⟩
  case round =>
    obtain ⟨k, hk, rfl, hb, HNO⟩ := hrel
    obtain ⟨wo, rfl⟩ : ∃ wo, wo = wr := ⟨_, rfl⟩
    have hsz := hb.size
    have HB := hide hb
    clear hb
    by_cases hlt : k < n
    case neg =>
      obtain rfl : n = k := by omega
      have hnl : ¬ ((n : Int) < (n : Int)) := by omega
      have HE := hide (idx_no (q := q) (es := es) (fun j hj e he => HNO.out j (by have := HN.out; omega) e he))
      go_wp2
      go_ret
      exact ⟨-1, rfl, HB.out, by rw [HE.out, if_neg (Nat.lt_irrefl _)]⟩
    have HLT := hide hlt
    obtain ⟨y, hy⟩ : ∃ y, es[k]? = some y := ⟨_, List.getElem?_eq_getElem (by have := HN.out; omega)⟩
    obtain ⟨be, oe, hA⟩ := HAA.out k y hy
    subst hA
    obtain ⟨d0, d1, d2, d3, hbs⟩ := HS.out wo HB.out be oe rfl k y hy
    have HY := hide hy
    have HQK := hide (HQ.out wo HB.out y (List.mem_of_getElem? hy))
    have hk0 : (0 : Int) ≤ (k : Int) := by omega
    have hk1 : (k : Int) < (n : Int) := by omega
    obtain ⟨⟨tk, tn⟩, ⟨fk, fn⟩⟩ := y
    simp only at d0 d1 d2 d3
    unfold mvA at HQK
    simp only at HQK
    clear hy
    cases hqv : q ⟨⟨tk, tn⟩, ⟨fk, fn⟩⟩ with
    | true =>
      have HE := hide (idx_at (q := q) HNO.out HY.out hqv)
      rw [hqv] at HQK
      clear hqv
      go_wp2_with (go_at_call 32; refine HQK.out.mono ?_; rintro e w5 ⟨rfl, hb5⟩; have HB5 := hide (HB.out.trans (hb5.mono hsz)); clear hb5)
      go_ret
      exact ⟨(k : Int), rfl, HB5.out, by rw [HE.out, if_pos (by have := HLT.out; have := HN.out; omega)]⟩
    | false =>
      have HQV := hide hqv
      rw [hqv] at HQK
      clear hqv
      have HN2 := hide (show ∀ j, j < k + 1 → ∀ e, es[j]? = some e → q e = false from fun j hj e he => by
        by_cases h : j < k
        · exact HNO.out j h e he
        · obtain rfl : j = k := by omega
          rw [HY.out] at he
          injection he with he
          subst he
          exact HQV.out)
      go_wp2_with (go_at_call 32; refine HQK.out.mono ?_; rintro e w5 ⟨rfl, hb5⟩; have HB5 := hide (HB.out.trans (hb5.mono hsz)); clear hb5)
      go_roundw
      case rel => exact ⟨k + 1, by have := HLT.out; omega, by go_num, HB5.out, HN2⟩
      case measure => have := HLT.out; simp [intOf]; omega
set_option maxHeartbeats 2000000 in
set_option maxRecDepth 100000 in
theorem iidxN_any (gs : Nat) (q : MvV → Bool) (es : List MvV) (A : Option Addr) (c : Nat) (w : World) (hn : es.length ≤ 1000) (hs : MvsV w (· < w.heap.size) (.slice A es.length c) es)
    (hq : ∀ (W : World), Below w.heap.size w W → ∀ e ∈ es, Calls Try.prog 33 #[mvA e, .pointer (some ⟨gs, 0, none⟩)] W fun x w' => x = .returned (.bool (q e)) ∧ Below W.heap.size W w') :
    Calls Try.prog 29 #[.slice A es.length c, .func (.func 33) #[] #[.pointer (some ⟨gs, 0, none⟩)]] w (IdxM q es w) := by
  have HQ := hide hq
  have HS := hide (fun (W : World) (hW : Below w.heap.size w W) (b o : Nat) (hA : A = some ⟨b, o, none⟩) (j : Nat) (y : MvV) (hy : es[j]? = some y) => (hA ▸ hs).at' hW hy)
  have HAA := hide (fun (j : Nat) (y : MvV) (hy : es[j]? = some y) => (show (∃ b o, A = some ⟨b, o, none⟩) from by
    obtain ⟨b, o, e, -⟩ := hs.get hy
    exact ⟨b, o, e⟩))
  obtain ⟨n, hn'⟩ := letl es.length
  have HN := hide hn'
  rw [hn'] at hn ⊢
  clear hq hs hn'
  go_enter Try.func29, Try.ntmps29
  go_wp2
  go_loopw [8] (fun i wr => ∃ k : Nat, k ≤ n ∧ i = .int .i64 (k : Int) ∧ Below w.heap.size w wr ∧ Hid (∀ j, j < k → ∀ e, es[j]? = some e → q e = false)) (fun i _ => n - (intOf i).toNat)
  case atStart => exact ⟨0, Nat.zero_le _, rfl, Below.refl _ _, hide (fun j hj => by omega)⟩
  case round =>
    obtain ⟨k, hk, rfl, hb, HNO⟩ := hrel
    obtain ⟨wo, rfl⟩ : ∃ wo, wo = wr := ⟨_, rfl⟩
    have hsz := hb.size
    have HB := hide hb
    clear hb
    by_cases hlt : k < n
    case neg =>
      obtain rfl : n = k := by omega
      have hnl : ¬ ((n : Int) < (n : Int)) := by omega
      have HE := hide (idx_no (q := q) (es := es) (fun j hj e he => HNO.out j (by have := HN.out; omega) e he))
      go_wp2
      go_ret
      exact ⟨-1, rfl, HB.out, by rw [HE.out, if_neg (Nat.lt_irrefl _)]⟩
    have HLT := hide hlt
    obtain ⟨y, hy⟩ : ∃ y, es[k]? = some y := ⟨_, List.getElem?_eq_getElem (by have := HN.out; omega)⟩
    obtain ⟨be, oe, hA⟩ := HAA.out k y hy
    subst hA
    obtain ⟨d0, d1, d2, d3, hbs⟩ := HS.out wo HB.out be oe rfl k y hy
    have HY := hide hy
    have HQK := hide (HQ.out wo HB.out y (List.mem_of_getElem? hy))
    have hk0 : (0 : Int) ≤ (k : Int) := by omega
    have hk1 : (k : Int) < (n : Int) := by omega
    obtain ⟨⟨tk, tn⟩, ⟨fk, fn⟩⟩ := y
    simp only at d0 d1 d2 d3
    unfold mvA at HQK
    simp only at HQK
    clear hy
    cases hqv : q ⟨⟨tk, tn⟩, ⟨fk, fn⟩⟩ with
    | true =>
      have HE := hide (idx_at (q := q) HNO.out HY.out hqv)
      rw [hqv] at HQK
      clear hqv
      go_wp2_with (go_at_call 33; refine HQK.out.mono ?_; rintro e w5 ⟨rfl, hb5⟩; have HB5 := hide (HB.out.trans (hb5.mono hsz)); clear hb5)
      go_ret
      exact ⟨(k : Int), rfl, HB5.out, by rw [HE.out, if_pos (by have := HLT.out; have := HN.out; omega)]⟩
    | false =>
      have HQV := hide hqv
      rw [hqv] at HQK
      clear hqv
      have HN2 := hide (show ∀ j, j < k + 1 → ∀ e, es[j]? = some e → q e = false from fun j hj e he => by
        by_cases h : j < k
        · exact HNO.out j h e he
        · obtain rfl : j = k := by omega
          rw [HY.out] at he
          injection he with he
          subst he
          exact HQV.out)
      go_wp2_with (go_at_call 33; refine HQK.out.mono ?_; rintro e w5 ⟨rfl, hb5⟩; have HB5 := hide (HB.out.trans (hb5.mono hsz)); clear hb5)
      go_roundw
      case rel => exact ⟨k + 1, by have := HLT.out; omega, by go_num, HB5.out, HN2⟩
      case measure => have := HLT.out; simp [intOf]; omega
set_option maxHeartbeats 1000000 in
set_option maxRecDepth 100000 in
theorem icont_any (gs : Nat) (q : MvV → Bool) (es : List MvV) (A : Option Addr) (c : Nat) (w : World) (hn : es.length ≤ 1000) (hs : MvsV w (· < w.heap.size) (.slice A es.length c) es)
    (hq : ∀ (W : World), Below w.heap.size w W → ∀ e ∈ es, Calls Try.prog 23 #[mvA e, .pointer (some ⟨gs, 0, none⟩)] W fun x w' => x = .returned (.bool (q e)) ∧ Below W.heap.size W w') :
    Calls Try.prog 22 #[.slice A es.length c, .func (.func 23) #[] #[.pointer (some ⟨gs, 0, none⟩)]] w fun e w' => e = .returned (.bool (es.any q)) ∧ Below w.heap.size w w' := by
  have HI := hide (iidx1_any gs q es A c w hn hs hq)
  have HE := hide (show (es.findIdx q < es.length → es.any q = true) ∧ (¬ es.findIdx q < es.length → es.any q = false) from ⟨fun h => List.any_eq_true.2 (List.findIdx_lt_length.1 h), fun h => by
    cases e : es.any q
    · rfl
    · exact absurd (List.findIdx_lt_length.2 (List.any_eq_true.1 e)) h⟩)
  obtain ⟨n, hn'⟩ := letl es.length
  rw [hn'] at HI HE ⊢
  generalize es.any q = r at *
  obtain ⟨i, hi⟩ := letl (es.findIdx q)
  rw [hi] at HE
  have HII := hide hi
  have HN := hide hn'
  clear hq hs hn' hn hi
  go_enter Try.func22, Try.ntmps22
  by_cases h : i < n
  · obtain rfl := HE.out.1 h
    go_wp2_with (go_at_call 29; refine HI.out.mono ?_; rintro e w5 ⟨z, rfl, hb5, hz⟩; rw [HII.out, HN.out, if_pos h] at hz; subst hz; have HB5 := hide hb5; clear hb5)
    go_ret
    exact ⟨by simp, HB5.out⟩
  · obtain rfl := HE.out.2 h
    go_wp2_with (go_at_call 29; refine HI.out.mono ?_; rintro e w5 ⟨z, rfl, hb5, hz⟩; rw [HII.out, HN.out, if_neg h] at hz; subst hz; have HB5 := hide hb5; clear hb5)
    go_ret
    exact ⟨by simp, HB5.out⟩
set_option maxHeartbeats 1000000 in
set_option maxRecDepth 100000 in
theorem iclone17_any (v : Value) (l : List MvV) (w : World) (hx : MvsV w (· < w.heap.size) v l) (hmax : l.length ≤ 100000) :
    Calls Try.prog 31 #[v] w fun e w' => ∃ v', e = .returned v' ∧ OwC mvC 38 4 w' w.heap.size v' l ∧ Below w.heap.size w w' := by
  obtain ⟨A, c, rfl, hc, hm⟩ := hx.open'
  have hcell := fun h => hx.cells h
  have HONE := hide (mvC_one l)
  obtain ⟨n, hn⟩ := letl l.length
  have HLN := hide hn
  rw [hn] at hx hc hmax hcell ⊢
  have HC := hide hcell
  obtain ⟨i0, hi0, hz0, hz1, hz2⟩ := info_parts info_mv
  have HI := hide hi0
  clear hx hn hcell hi0
  have q22 : ∀ (w : World) (a : Option Addr) (n c n' c' : Nat), (binOp .eql 22 (.slice a n c) (.slice none n' c')).run Try.prog w = .ok (.bool a.isNone) w := fun w a n c n' c' => Lib.run_eql_slice_nil w _ _ a n c n' c' Try.underlying22
  rcases A with _ | ad
  · have hz : n = 0 := by
      rcases Nat.eq_zero_or_pos n with h | h
      · exact h
      · obtain ⟨b, o, h, -⟩ := HC.out h
        cases h
    subst hz
    go_enter Try.func31, Try.ntmps31
    go_wp2
    go_ret
    have hl0 : l = [] := List.eq_nil_of_length_eq_zero HLN.out
    exact ⟨_, rfl, by rw [hl0]; exact OwC.nil _ _, Below.refl _ _⟩
  · have HO := hide (OwC.lit0 (c := mvC) (T := 38) (sz := 4) w)
    have HR := hide (show 0 < n → ∃ b o, some ad = some ⟨b, o, none⟩ ∧ ∀ (j : Nat) (u : Value), (l.flatMap mvC)[j]? = some u → (w.alloc (.cells #[] 38)).cell? ⟨b, o + j, none⟩ = some u from fun h => by
      obtain ⟨b, o, e, hb, hc⟩ := HC.out h
      exact ⟨b, o, e, fun j u hu => (World.cell?_alloc_lt w _ ⟨b, o + j, none⟩ hb).trans (hc j u hu)⟩)
    go_enter Try.func31, Try.ntmps31
    go_wp2_with (at_builtin; refine wpList_append_cs (c := mvC) (sz := 4) (fun _ => rfl) _ rfl (.tmp 5) (.tmp 6) rfl w.heap.size i0 _ 32 Try.underlying22 HI.out hz0 hz1 hz2 rfl (by omega) (by omega) (.slice (some ⟨w.heap.size, 0, none⟩) 0 0) [] rfl HO.out (some ad) n c l rfl HLN.out HONE.out HR.out (by simp; omega) (by simp) ?_; intro v1 w1 ho1 hb1)
    go_ret
    exact ⟨v1, rfl, by simpa using ho1, ((Below.refl _ _).alloc (Nat.le_refl _) _).trans hb1⟩
end Go.Proofs.Ytkilfejcohnceaa
