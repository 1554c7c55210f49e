/- Layer 13: slices.Clone of blocks and of instructions; an own list of blocks, each with its own instructions. No condition but on lengths. -/
import Derived.Test.YtojobajeffipdaaPaDA
import Derived.Test.YtojobajeffipdaaPaHC
import Derived.Test.YtojobajeffipdaaPaRDp
set_option linter.unusedSimpArgs false
set_option linter.unusedVariables false
namespace Go.Proofs.Ytojobajeffipdaa
open Go.RowKit

theorem vec_build {α β : Type} {sz : Nat} {P : Nat → Nat → α → Prop} {c : β → List Value} {w : World} (hc : ∀ y, (c y).length = sz) (g : β → α) (R : β → Prop) (b : Nat) (hP : ∀ o x, P b o x → ∃ y, g y = x ∧ R y ∧ ∀ (i : Nat) (u : Value), (c y)[i]? = some u → w.cell? ⟨b, o + i, none⟩ = some u) :
    ∀ (xs : List α) (o : Nat), (∀ (j : Nat) (x : α), xs[j]? = some x → P b (o + j * sz) x) → ∃ l : List β, l.map g = xs ∧ (∀ p ∈ l, R p) ∧ ∀ (j : Nat) (u : Value), (l.flatMap c)[j]? = some u → w.cell? ⟨b, o + j, none⟩ = some u
  | [], o, _ => ⟨[], rfl, by simp, fun j u hu => by simp at hu⟩
  | x :: xs, o, h => by
    obtain ⟨y, hy, hr, hcell⟩ := hP o x (by have := h 0 x rfl; rwa [Nat.zero_mul, Nat.add_zero] at this)
    obtain ⟨l, e1, e2, e3⟩ := vec_build hc g R b hP xs (o + sz) (fun j x hj => by
      have := h (j + 1) x (by simpa using hj)
      rwa [show o + (j + 1) * sz = o + sz + j * sz by rw [Nat.succ_mul]; omega] at this)
    refine ⟨y :: l, by simp [hy, e1], fun p hp => ?_, fun j u hu => ?_⟩
    · rcases List.mem_cons.1 hp with rfl | hp
      · exact hr
      · exact e2 p hp
    · rw [List.flatMap_cons] at hu
      by_cases hj : j < sz
      · rw [List.getElem?_append_left (by rw [hc y]; exact hj)] at hu
        exact hcell j u hu
      · rw [List.getElem?_append_right (by rw [hc y]; omega), hc y] at hu
        have := e3 (j - sz) u hu
        rwa [show o + sz + (j - sz) = o + j by omega] at this
theorem vec_cells {α β : Type} {sz : Nat} {P : Nat → Nat → α → Prop} {S : Nat → Prop} {c : β → List Value} {w : World} (hc : ∀ y, (c y).length = sz) (g : β → α) (R : β → Prop) (hP : ∀ b o x, S b → P b o x → ∃ y, g y = x ∧ R y ∧ ∀ (i : Nat) (u : Value), (c y)[i]? = some u → w.cell? ⟨b, o + i, none⟩ = some u) {A : Option Addr} {n cp : Nat} {xs : List α} (h : Vec sz P S (.slice A n cp) xs) :
    ∃ l : List β, l.map g = xs ∧ (∀ p ∈ l, R p) ∧ (0 < xs.length → ∃ b o, A = some ⟨b, o, none⟩ ∧ S b ∧ ∀ (j : Nat) (u : Value), (l.flatMap c)[j]? = some u → w.cell? ⟨b, o + j, none⟩ = some u) := by
  obtain ⟨A', c', e, h1, h2, h3⟩ := h
  injection e with eA _ _
  subst eA
  by_cases h0 : 0 < xs.length
  · obtain ⟨b, o, eA, hb, hx⟩ := h3 h0
    obtain ⟨l, e1, e2, e3⟩ := vec_build hc g R b (fun o x hx => hP b o x hb hx) xs o hx
    exact ⟨l, e1, e2, fun _ => ⟨b, o, eA, hb, e3⟩⟩
  · have hx : xs = [] := List.eq_nil_of_length_eq_zero (by omega)
    subst hx
    exact ⟨[], rfl, by simp, fun h => absurd h (by simp)⟩
theorem flat_len {β : Type} {c : β → List Value} {sz : Nat} (hc : ∀ y, (c y).length = sz) (l : List β) : (l.flatMap c).length = l.length * sz := by
  induction l with
  | nil => simp
  | cons x l ih => rw [List.flatMap_cons, List.length_append, ih, List.length_cons, hc x, Nat.succ_mul]; omega
/-- append(v, x..), v the call's own, x a slice of things, nil or not. -/
theorem wpList_append_cs {β : Type} {c : β → List Value} {T t : TypeId} {sz : Nat} (hcl : ∀ y, (c y).length = sz) (w : World) {ops : Array Oper} {rest : List Oper} {o : Oper} {a : Act} {Q : Exit → Act → World → Prop} (hgd : o.guard = none) (s x : Operand)
    (ho : o.op = .call { callee := .builtin .append, args := #[s, x], argTypes := #[t, t] })
    (base : Nat) (i0 : TypeInfo) (z : Value) (bytes : Nat) (ht : Try.prog.underlying t = some (.slice T)) (hi0 : Try.prog.info? T = some i0) (hz0 : i0.zero = some z)
    (hsize : i0.size = sz) (hby : i0.bytes = bytes) (hzs : z.cells.size = sz) (hs0 : 0 < sz) (hb : bytes ≤ 1000)
    (v : Value) (l : List β) (hs : a.eval s = v) (hown : OwC c T sz w base v l)
    (A : Option Addr) (m cp : Nat) (news : List β) (hx : a.eval x = .slice A m cp) (hm : news.length = m) (h1 : ∀ u ∈ news.flatMap c, u.oneCell' = true) (hr : 0 < m → ∃ b o, A = some ⟨b, o, none⟩ ∧ ∀ (j : Nat) (u : Value), (news.flatMap c)[j]? = some u → w.cell? ⟨b, o + j, none⟩ = some u)
    (hroom : l.length + m ≤ 1000000) (hbase : base ≤ w.heap.size)
    (h : ∀ v' w', OwC c T sz w' base v' (l ++ news) → Below base w w' → wpList Try.prog ops Q rest (a.put o.dst v') w') : wpList Try.prog ops Q (o :: rest) a w := by
  subst hm
  refine wpList_plain hgd fun K hK => ?_
  have key : ∃ v' w', (Builtin.append_ #[t, t] o.type #[v, .slice A news.length cp]).run Try.prog w = .ok v' w' ∧ OwC c T sz w' base v' (l ++ news) ∧ Below base w w' := by
    by_cases h0 : news = []
    · subst h0
      refine ⟨v, w, ?_, by simpa using hown, Below.refl _ _⟩
      rcases hown.2 with ⟨rfl, _⟩ | ⟨g, cap, cur, rfl, _, _, hnc, _⟩
      · cases A <;> simp [Builtin.append_, run_underlying ht, sizeOf, typeInfo, hi0, Builtin.lenOf, Builtin.firstCells, loadCells, loadCellsFrom]
      · cases A <;> simp [Builtin.append_, run_underlying ht, sizeOf, typeInfo, hi0, Builtin.lenOf, Builtin.firstCells, hnc, storeCells, loadCells, loadCellsFrom]
        all_goals simp [List.length_map] at hnc
        all_goals first | omega | (simp [storeCells])
    · obtain ⟨b, off, rfl, hc⟩ := hr (List.length_pos_iff.2 h0)
      obtain ⟨v', w', hrun, h2, h3, _⟩ := run_append_own (P := Try.prog) w base t o.type T i0 z sz bytes ht hi0 hz0 hsize hby hzs hs0 v l.length (l.flatMap c) hown ⟨b, off, none⟩ news.length cp (news.flatMap c) (flat_len hcl news)
        (fun j u hu => by rw [Addr.add_lit]; exact hc j u hu) h1 (by simp only [maxLen]; omega)
        (by have : (l.length + news.length) * bytes ≤ 1000000 * 1000 := Nat.mul_le_mul hroom hb; omega) hbase
      refine ⟨v', w', hrun, by unfold OwC; rw [List.flatMap_append, List.length_append]; exact h2, (Below.refl _ _).grown h3 hbase fun g hg => (World.ownsRow.lt hown g hg).1⟩
  obtain ⟨v', w', hrun, h2, h3⟩ := key
  unfold Oper.wp execOp
  simp only [ho, resolve, invoke, builtin, Sem.run_bind, Sem.run_pure, Result.andThen_ok, List.map_toArray, List.map_cons, List.map_nil, hs, hx, hrun]
  exact hK _ _ (h v' w' h2 h3)
end Go.Proofs.Ytojobajeffipdaa
