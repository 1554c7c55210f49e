/- Layer 13: slices.Clone of blocks and of instructions; an own list of blocks, each with its own instructions. No condition but on lengths. -/
import Derived.Test.YtkilfejcohnceaaPaDA
import Derived.Test.YtkilfejcohnceaaPaHC
import Derived.Test.YtkilfejcohnceaaPaRDp
set_option linter.unusedSimpArgs false
set_option linter.unusedVariables false
namespace Go.Proofs.Ytkilfejcohnceaa
open Go.RowKit

theorem flat_len {β : Type} {c : β → List Value} {sz : Nat} (hc : ∀ y, (c y).length = sz) (l : List β) : (l.flatMap c).length = l.length * sz := by
  induction l with
  | nil => simp
  | cons x l ih => rw [List.flatMap_cons, List.length_append, ih, List.length_cons, hc x, Nat.succ_mul]; omega
/-- append(v, x..), v the call's own, x a slice of things, nil or not. -/
theorem wpList_append_cs {β : Type} {c : β → List Value} {T t : TypeId} {sz : Nat} (hcl : ∀ y, (c y).length = sz) (w : World) {ops : Array Oper} {rest : List Oper} {o : Oper} {a : Act} {Q : Exit → Act → World → Prop} (hgd : o.guard = none) (s x : Operand)
    (ho : o.op = .call { callee := .builtin .append, args := #[s, x], argTypes := #[t, t] })
    (base : Nat) (i0 : TypeInfo) (z : Value) (bytes : Nat) (ht : Try.prog.underlying t = some (.slice T)) (hi0 : Try.prog.info? T = some i0) (hz0 : i0.zero = some z)
    (hsize : i0.size = sz) (hby : i0.bytes = bytes) (hzs : z.cells.size = sz) (hs0 : 0 < sz) (hb : bytes ≤ 1000)
    (v : Value) (l : List β) (hs : a.eval s = v) (hown : OwC c T sz w base v l)
    (A : Option Addr) (m cp : Nat) (news : List β) (hx : a.eval x = .slice A m cp) (hm : news.length = m) (h1 : ∀ u ∈ news.flatMap c, u.oneCell' = true) (hr : 0 < m → ∃ b o, A = some ⟨b, o, none⟩ ∧ ∀ (j : Nat) (u : Value), (news.flatMap c)[j]? = some u → w.cell? ⟨b, o + j, none⟩ = some u)
    (hroom : l.length + m ≤ 1000000) (hbase : base ≤ w.heap.size)
    (h : ∀ v' w', OwC c T sz w' base v' (l ++ news) → Below base w w' → wpList Try.prog ops Q rest (a.put o.dst v') w') : wpList Try.prog ops Q (o :: rest) a w := by
  subst hm
  refine wpList_plain hgd fun K hK => ?_
  have key : ∃ v' w', (Builtin.append_ #[t, t] o.type #[v, .slice A news.length cp]).run Try.prog w = .ok v' w' ∧ OwC c T sz w' base v' (l ++ news) ∧ Below base w w' := by
    by_cases h0 : news = []
    · subst h0
      refine ⟨v, w, ?_, by simpa using hown, Below.refl _ _⟩
      rcases hown.2 with ⟨rfl, _⟩ | ⟨g, cap, cur, rfl, _, _, hnc, _⟩
      · cases A <;> simp [Builtin.append_, run_underlying ht, sizeOf, typeInfo, hi0, Builtin.lenOf, Builtin.firstCells, loadCells, loadCellsFrom]
      · cases A <;> simp [Builtin.append_, run_underlying ht, sizeOf, typeInfo, hi0, Builtin.lenOf, Builtin.firstCells, hnc, storeCells, loadCells, loadCellsFrom]
        all_goals simp [List.length_map] at hnc
        all_goals first | omega | (simp [storeCells])
    · obtain ⟨b, off, rfl, hc⟩ := hr (List.length_pos_iff.2 h0)
      obtain ⟨v', w', hrun, h2, h3, _⟩ := run_append_own (P := Try.prog) w base t o.type T i0 z sz bytes ht hi0 hz0 hsize hby hzs hs0 v l.length (l.flatMap c) hown ⟨b, off, none⟩ news.length cp (news.flatMap c) (flat_len hcl news)
        (fun j u hu => by rw [Addr.add_lit]; exact hc j u hu) h1 (by simp only [maxLen]; omega)
        (by have : (l.length + news.length) * bytes ≤ 1000000 * 1000 := Nat.mul_le_mul hroom hb; omega) hbase
      refine ⟨v', w', hrun, by unfold OwC; rw [List.flatMap_append, List.length_append]; exact h2, (Below.refl _ _).grown h3 hbase fun g hg => (World.ownsRow.lt hown g hg).1⟩
  obtain ⟨v', w', hrun, h2, h3⟩ := key
  unfold Oper.wp execOp
  simp only [ho, resolve, invoke, builtin, Sem.run_bind, Sem.run_pure, Result.andThen_ok, List.map_toArray, List.map_cons, List.map_nil, hs, hx, hrun]
  exact hK _ _ (h v' w' h2 h3)
end Go.Proofs.Ytkilfejcohnceaa
