/- Layer 13: slices.Clone of blocks and of instructions; an own list of blocks, each with its own instructions. No condition but on lengths. -/
import Derived.Test.YtnoknodijombpaaDoorPhDA
import Derived.Test.YtnoknodijombpaaDoorPhHC
import Derived.Test.YtnoknodijombpaaDoorPhRDp
set_option linter.unusedSimpArgs false
set_option linter.unusedVariables false
namespace Go.Proofs.YtnoknodijombpaaDoor
open Go.RowKit

theorem vec_build {α β : Type} {sz : Nat} {P : Nat → Nat → α → Prop} {c : β → List Value} {w : World} (hc : ∀ y, (c y).length = sz) (g : β → α) (R : β → Prop) (b : Nat) (hP : ∀ o x, P b o x → ∃ y, g y = x ∧ R y ∧ ∀ (i : Nat) (u : Value), (c y)[i]? = some u → w.cell? ⟨b, o + i, none⟩ = some u) :
    ∀ (xs : List α) (o : Nat), (∀ (j : Nat) (x : α), xs[j]? = some x → P b (o + j * sz) x) → ∃ l : List β, l.map g = xs ∧ (∀ p ∈ l, R p) ∧ ∀ (j : Nat) (u : Value), (l.flatMap c)[j]? = some u → w.cell? ⟨b, o + j, none⟩ = some u
  | [], o, _ => ⟨[], rfl, by simp, fun j u hu => by simp at hu⟩
  | x :: xs, o, h => by
    obtain ⟨y, hy, hr, hcell⟩ := hP o x (by have := h 0 x rfl; rwa [Nat.zero_mul, Nat.add_zero] at this)
    obtain ⟨l, e1, e2, e3⟩ := vec_build hc g R b hP xs (o + sz) (fun j x hj => by
      have := h (j + 1) x (by simpa using hj)
      rwa [show o + (j + 1) * sz = o + sz + j * sz by rw [Nat.succ_mul]; omega] at this)
    refine ⟨y :: l, by simp [hy, e1], fun p hp => ?_, fun j u hu => ?_⟩
    · rcases List.mem_cons.1 hp with rfl | hp
      · exact hr
      · exact e2 p hp
    · rw [List.flatMap_cons] at hu
      by_cases hj : j < sz
      · rw [List.getElem?_append_left (by rw [hc y]; exact hj)] at hu
        exact hcell j u hu
      · rw [List.getElem?_append_right (by rw [hc y]; omega), hc y] at hu
        have := e3 (j - sz) u hu
        rwa [show o + sz + (j - sz) = o + j by omega] at this
theorem vec_cells {α β : Type} {sz : Nat} {P : Nat → Nat → α → Prop} {S : Nat → Prop} {c : β → List Value} {w : World} (hc : ∀ y, (c y).length = sz) (g : β → α) (R : β → Prop) (hP : ∀ b o x, S b → P b o x → ∃ y, g y = x ∧ R y ∧ ∀ (i : Nat) (u : Value), (c y)[i]? = some u → w.cell? ⟨b, o + i, none⟩ = some u) {A : Option Addr} {n cp : Nat} {xs : List α} (h : Vec sz P S (.slice A n cp) xs) :
    ∃ l : List β, l.map g = xs ∧ (∀ p ∈ l, R p) ∧ (0 < xs.length → ∃ b o, A = some ⟨b, o, none⟩ ∧ S b ∧ ∀ (j : Nat) (u : Value), (l.flatMap c)[j]? = some u → w.cell? ⟨b, o + j, none⟩ = some u) := by
  obtain ⟨A', c', e, h1, h2, h3⟩ := h
  injection e with eA _ _
  subst eA
  by_cases h0 : 0 < xs.length
  · obtain ⟨b, o, eA, hb, hx⟩ := h3 h0
    obtain ⟨l, e1, e2, e3⟩ := vec_build hc g R b (fun o x hx => hP b o x hb hx) xs o hx
    exact ⟨l, e1, e2, fun _ => ⟨b, o, eA, hb, e3⟩⟩
  · have hx : xs = [] := List.eq_nil_of_length_eq_zero (by omega)
    subst hx
    exact ⟨[], rfl, by simp, fun h => absurd h (by simp)⟩
theorem flat_len {β : Type} {c : β → List Value} {sz : Nat} (hc : ∀ y, (c y).length = sz) (l : List β) : (l.flatMap c).length = l.length * sz := by
  induction l with
  | nil => simp
  | cons x l ih => rw [List.flatMap_cons, List.length_append, ih, List.length_cons, hc x, Nat.succ_mul]; omega
/-- append(v, x..), v the call's own, x a slice of things, nil or not. -/
theorem wpList_append_cs {β : Type} {c : β → List Value} {T t : TypeId} {sz : Nat} (hcl : ∀ y, (c y).length = sz) (w : World) {ops : Array Oper} {rest : List Oper} {o : Oper} {a : Act} {Q : Exit → Act → World → Prop} (hgd : o.guard = none) (s x : Operand)
    (ho : o.op = .call { callee := .builtin .append, args := #[s, x], argTypes := #[t, t] })
    (base : Nat) (i0 : TypeInfo) (z : Value) (bytes : Nat) (ht : Tryd.prog.underlying t = some (.slice T)) (hi0 : Tryd.prog.info? T = some i0) (hz0 : i0.zero = some z)
    (hsize : i0.size = sz) (hby : i0.bytes = bytes) (hzs : z.cells.size = sz) (hs0 : 0 < sz) (hb : bytes ≤ 1000)
    (v : Value) (l : List β) (hs : a.eval s = v) (hown : OwC c T sz w base v l)
    (A : Option Addr) (m cp : Nat) (news : List β) (hx : a.eval x = .slice A m cp) (hm : news.length = m) (h1 : ∀ u ∈ news.flatMap c, u.oneCell' = true) (hr : 0 < m → ∃ b o, A = some ⟨b, o, none⟩ ∧ ∀ (j : Nat) (u : Value), (news.flatMap c)[j]? = some u → w.cell? ⟨b, o + j, none⟩ = some u)
    (hroom : l.length + m ≤ 1000000) (hbase : base ≤ w.heap.size)
    (h : ∀ v' w', OwC c T sz w' base v' (l ++ news) → Below base w w' → wpList Tryd.prog ops Q rest (a.put o.dst v') w') : wpList Tryd.prog ops Q (o :: rest) a w := by
  subst hm
  refine wpList_plain hgd fun K hK => ?_
  have key : ∃ v' w', (Builtin.append_ #[t, t] o.type #[v, .slice A news.length cp]).run Tryd.prog w = .ok v' w' ∧ OwC c T sz w' base v' (l ++ news) ∧ Below base w w' := by
    by_cases h0 : news = []
    · subst h0
      refine ⟨v, w, ?_, by simpa using hown, Below.refl _ _⟩
      rcases hown.2 with ⟨rfl, _⟩ | ⟨g, cap, cur, rfl, _, _, hnc, _⟩
      · cases A <;> simp [Builtin.append_, run_underlying ht, sizeOf, typeInfo, hi0, Builtin.lenOf, Builtin.firstCells, loadCells, loadCellsFrom]
      · cases A <;> simp [Builtin.append_, run_underlying ht, sizeOf, typeInfo, hi0, Builtin.lenOf, Builtin.firstCells, hnc, storeCells, loadCells, loadCellsFrom]
        all_goals simp [List.length_map] at hnc
        all_goals first | omega | (simp [storeCells])
    · obtain ⟨b, off, rfl, hc⟩ := hr (List.length_pos_iff.2 h0)
      obtain ⟨v', w', hrun, h2, h3, _⟩ := run_append_own (P := Tryd.prog) w base t o.type T i0 z sz bytes ht hi0 hz0 hsize hby hzs hs0 v l.length (l.flatMap c) hown ⟨b, off, none⟩ news.length cp (news.flatMap c) (flat_len hcl news)
        (fun j u hu => by rw [Addr.add_lit]; exact hc j u hu) h1 (by simp only [maxLen]; omega)
        (by have : (l.length + news.length) * bytes ≤ 1000000 * 1000 := Nat.mul_le_mul hroom hb; omega) hbase
      refine ⟨v', w', hrun, by unfold OwC; rw [List.flatMap_append, List.length_append]; exact h2, (Below.refl _ _).grown h3 hbase fun g hg => (World.ownsRow.lt hown g hg).1⟩
  obtain ⟨v', w', hrun, h2, h3⟩ := key
  unfold Oper.wp execOp
  simp only [ho, resolve, invoke, builtin, Sem.run_bind, Sem.run_pure, Result.andThen_ok, List.map_toArray, List.map_cons, List.map_nil, hs, hx, hrun]
  exact hK _ _ (h v' w' h2 h3)
theorem info_blk13 : (Tryd.prog.info? 41).map (fun i => (i.zero, i.size, i.bytes)) = some (some (.agg #[.slice none 0 0]), 1, 24) := by kernel_rfl
set_option maxHeartbeats 1000000 in
set_option maxRecDepth 100000 in
theorem bclone_any (v : Value) (xs : List (List InsV)) (w : World) (S : Nat → Prop) (hS : ∀ b, S b → b < w.heap.size) (hx : BlksV w S v xs) (hmax : xs.length ≤ 100000) :
    Calls Tryd.prog 30 #[v] w fun e w' => ∃ v' l, e = .returned v' ∧ OwC blkC 41 1 w' w.heap.size v' l ∧ l.map (·.1) = xs ∧ (∀ p ∈ l, InssV w S p.2 p.1) ∧ Below w.heap.size w w' := by
  obtain ⟨A, c, rfl, hc, hm⟩ := hx.open'
  obtain ⟨l, hl, hok, hcell⟩ := vec_cells (c := blkC) (w := w) (fun _ => rfl) (fun p : List InsV × Value => p.1) (fun p => InssV w S p.2 p.1) (fun b o x _ ⟨v, h1, h2⟩ => ⟨(x, v), rfl, h2, fun i u hu => by
    cases i with
    | zero => simp [blkC] at hu; subst hu; exact h1
    | succ i => simp [blkC] at hu⟩) hx
  obtain ⟨n, hn⟩ : ∃ n, xs.length = n := ⟨_, rfl⟩
  have HLN := hide (show l.length = n by have := congrArg List.length hl; rw [List.length_map] at this; omega)
  have HL := hide hl
  have HOK := hide hok
  have HONE := hide (show ∀ u ∈ l.flatMap blkC, u.oneCell' = true from by
    intro u hu
    obtain ⟨p, hp, hu⟩ := List.mem_flatMap.1 hu
    obtain ⟨A, c, e⟩ := (HOK.out p hp).open'.imp fun A h => h.imp fun c h => h.1
    simp only [blkC, List.mem_cons, List.mem_nil_iff, or_false] at hu
    subst hu
    all_goals first | rfl | (rw [e]; rfl))
  rw [hn] at hx hc hmax hcell ⊢
  have HC := hide hcell
  obtain ⟨i0, hi0, hz0, hz1, hz2⟩ := info_parts info_blk13
  have HI := hide hi0
  clear hx hn hl hok hcell hi0
  rcases A with _ | ad
  · have hz : n = 0 := by
      rcases Nat.eq_zero_or_pos n with h | h
      · exact h
      · obtain ⟨b, o, h, -⟩ := HC.out h
        cases h
    subst hz
    have q22 : ∀ (w : World) (a : Option Addr) (n c n' c' : Nat), (binOp .eql 32 (.slice a n c) (.slice none n' c')).run Tryd.prog w = .ok (.bool a.isNone) w := fun w a n c n' c' => Lib.run_eql_slice_nil w _ _ a n c n' c' Tryd.underlying32
    go_enter Tryd.func30, Tryd.ntmps30
    go_wp2
    go_ret
    have hl0 : l = [] := List.eq_nil_of_length_eq_zero HLN.out
    exact ⟨_, l, rfl, by rw [hl0]; exact OwC.nil _ _, HL.out, HOK.out, Below.refl _ _⟩
  · have HO := hide (OwC.lit0 (c := blkC) (T := 41) (sz := 1) w)
    have HR := hide (show 0 < n → ∃ b o, some ad = some ⟨b, o, none⟩ ∧ ∀ (j : Nat) (u : Value), (l.flatMap blkC)[j]? = some u → (w.alloc (.cells #[] 41)).cell? ⟨b, o + j, none⟩ = some u from fun h => by
      obtain ⟨b, o, e, hb, hc⟩ := HC.out h
      exact ⟨b, o, e, fun j u hu => (World.cell?_alloc_lt w _ ⟨b, o + j, none⟩ (hS b hb)).trans (hc j u hu)⟩)
    have q22 : ∀ (w : World) (a : Option Addr) (n c n' c' : Nat), (binOp .eql 32 (.slice a n c) (.slice none n' c')).run Tryd.prog w = .ok (.bool a.isNone) w := fun w a n c n' c' => Lib.run_eql_slice_nil w _ _ a n c n' c' Tryd.underlying32
    go_enter Tryd.func30, Tryd.ntmps30
    go_wp2_with (at_builtin; refine wpList_append_cs (c := blkC) (sz := 1) (fun _ => rfl) _ rfl (.tmp 5) (.tmp 6) rfl w.heap.size i0 _ 24 Tryd.underlying32 HI.out hz0 hz1 hz2 rfl (by omega) (by omega) (.slice (some ⟨w.heap.size, 0, none⟩) 0 0) [] rfl HO.out (some ad) n c l rfl HLN.out HONE.out HR.out (by simp; omega) (by simp) ?_; intro v1 w1 ho1 hb1)
    go_ret
    exact ⟨v1, l, rfl, by simpa using ho1, HL.out, HOK.out, ((Below.refl _ _).alloc (Nat.le_refl _) _).trans hb1⟩
theorem info_ins13 : (Tryd.prog.info? 38).map (fun i => (i.zero, i.size, i.bytes)) = some (some (.agg #[.int .i64 0, .int .i64 0, .int .i64 0, .int .i64 0, .int .i64 0, .int .i64 0, .slice none 0 0]), 7, 72) := by kernel_rfl
set_option maxHeartbeats 1000000 in
set_option maxRecDepth 100000 in
theorem iclone_any (v : Value) (xs : List InsV) (w : World) (S : Nat → Prop) (hS : ∀ b, S b → b < w.heap.size) (hx : InssV w S v xs) (hmax : xs.length ≤ 100000) :
    Calls Tryd.prog 31 #[v] w fun e w' => ∃ v' l, e = .returned v' ∧ OwC insC 38 7 w' w.heap.size v' l ∧ l.map (·.1) = xs ∧ (∀ p ∈ l, InsI w S p.2 p.1) ∧ Below w.heap.size w w' := by
  obtain ⟨A, c, rfl, hc, hm⟩ := hx.open'
  obtain ⟨l, hl, hok, hcell⟩ := vec_cells (c := insC) (w := w) (fun _ => rfl) (fun p : InsV × Value => p.1) (fun p => InsI w S p.2 p.1) (fun b o x _ ⟨v, ⟨h0, h1, h2, h3, h4, h5, h6⟩, h7⟩ => ⟨(x, v), rfl, h7, fun i u hu => by
    have hi : i < 7 := (List.getElem?_eq_some_iff.1 hu).1
    rcases (show i = 0 ∨ i = 1 ∨ i = 2 ∨ i = 3 ∨ i = 4 ∨ i = 5 ∨ i = 6 by omega) with rfl | rfl | rfl | rfl | rfl | rfl | rfl <;> simp [insC] at hu <;> subst hu <;> assumption⟩) hx
  obtain ⟨n, hn⟩ : ∃ n, xs.length = n := ⟨_, rfl⟩
  have HLN := hide (show l.length = n by have := congrArg List.length hl; rw [List.length_map] at this; omega)
  have HL := hide hl
  have HOK := hide hok
  have HONE := hide (show ∀ u ∈ l.flatMap insC, u.oneCell' = true from by
    intro u hu
    obtain ⟨p, hp, hu⟩ := List.mem_flatMap.1 hu
    obtain ⟨A, c, e⟩ := (HOK.out p hp).open'
    simp only [insC, List.mem_cons, List.mem_nil_iff, or_false] at hu
    rcases hu with rfl | rfl | rfl | rfl | rfl | rfl | rfl
    all_goals first | rfl | (rw [e]; rfl))
  rw [hn] at hx hc hmax hcell ⊢
  have HC := hide hcell
  obtain ⟨i0, hi0, hz0, hz1, hz2⟩ := info_parts info_ins13
  have HI := hide hi0
  clear hx hn hl hok hcell hi0
  rcases A with _ | ad
  · have hz : n = 0 := by
      rcases Nat.eq_zero_or_pos n with h | h
      · exact h
      · obtain ⟨b, o, h, -⟩ := HC.out h
        cases h
    subst hz
    have q22 : ∀ (w : World) (a : Option Addr) (n c n' c' : Nat), (binOp .eql 39 (.slice a n c) (.slice none n' c')).run Tryd.prog w = .ok (.bool a.isNone) w := fun w a n c n' c' => Lib.run_eql_slice_nil w _ _ a n c n' c' Tryd.underlying39
    go_enter Tryd.func31, Tryd.ntmps31
    go_wp2
    go_ret
    have hl0 : l = [] := List.eq_nil_of_length_eq_zero HLN.out
    exact ⟨_, l, rfl, by rw [hl0]; exact OwC.nil _ _, HL.out, HOK.out, Below.refl _ _⟩
  · have HO := hide (OwC.lit0 (c := insC) (T := 38) (sz := 7) w)
    have HR := hide (show 0 < n → ∃ b o, some ad = some ⟨b, o, none⟩ ∧ ∀ (j : Nat) (u : Value), (l.flatMap insC)[j]? = some u → (w.alloc (.cells #[] 38)).cell? ⟨b, o + j, none⟩ = some u from fun h => by
      obtain ⟨b, o, e, hb, hc⟩ := HC.out h
      exact ⟨b, o, e, fun j u hu => (World.cell?_alloc_lt w _ ⟨b, o + j, none⟩ (hS b hb)).trans (hc j u hu)⟩)
    have q22 : ∀ (w : World) (a : Option Addr) (n c n' c' : Nat), (binOp .eql 39 (.slice a n c) (.slice none n' c')).run Tryd.prog w = .ok (.bool a.isNone) w := fun w a n c n' c' => Lib.run_eql_slice_nil w _ _ a n c n' c' Tryd.underlying39
    go_enter Tryd.func31, Tryd.ntmps31
    go_wp2_with (at_builtin; refine wpList_append_cs (c := insC) (sz := 7) (fun _ => rfl) _ rfl (.tmp 5) (.tmp 6) rfl w.heap.size i0 _ 72 Tryd.underlying39 HI.out hz0 hz1 hz2 rfl (by omega) (by omega) (.slice (some ⟨w.heap.size, 0, none⟩) 0 0) [] rfl HO.out (some ad) n c l rfl HLN.out HONE.out HR.out (by simp; omega) (by simp) ?_; intro v1 w1 ho1 hb1)
    go_ret
    exact ⟨v1, l, rfl, by simpa using ho1, HL.out, HOK.out, ((Below.refl _ _).alloc (Nat.le_refl _) _).trans hb1⟩
end Go.Proofs.YtnoknodijombpaaDoor
