/- The reference's Decode: what is under way in memory, level by level, and the append to an own list that a box keeps. No condition. -/
import Derived.Test.YtkilfejcohnceaaPaRDo
set_option linter.unusedSimpArgs false
set_option linter.unusedVariables false
namespace Go.Proofs.Ytkilfejcohnceaa
open Go.RowKit

/-- append(v, y) to an own list; y laid in a block of its own. -/
theorem wpList_append_c {P : Program} {β : Type} {c : β → List Value} {T : TypeId} {sz : Nat} (w : World) {ops : Array Oper} {rest : List Oper} {o : Oper} {a : Act} {Q : Exit → Act → World → Prop} (hgd : o.guard = none) (s x : Operand) (t : TypeId)
    (ho : o.op = .call { callee := .builtin .append, args := #[s, x], argTypes := #[t, t] })
    (base : Nat) (i : TypeInfo) (z : Value) (bytes : Nat) (ht : P.underlying t = some (.slice T)) (hi : P.info? T = some i) (hz : i.zero = some z)
    (hsize : i.size = sz) (hby : i.bytes = bytes) (hzs : z.cells.size = sz) (hs0 : 0 < sz) (hb : bytes ≤ 1000)
    (v : Value) (l : List β) (n : Nat) (hln : l.length = n) (hs : a.eval s = v) (hown : OwC c T sz w base v l) (y : β) (hy : (c y).length = sz) (h1 : ∀ u ∈ c y, u.oneCell' = true) (H : Nat) (cs : Array Value) (hH : Box w H cs T) (hcs : cs.toList = c y)
    (hx : a.eval x = .slice (some ⟨H, 0, none⟩) 1 1)
    (hroom : n < 1000000) (hbase : base ≤ w.heap.size)
    (h : ∀ g cap w', OwC c T sz w' base (.slice (some ⟨g, 0, none⟩) (n + 1) cap) (l ++ [y]) → w.grownBy w' v.ownBlock → (v.ownBlock = some g ∨ g = w.heap.size) → g < w'.heap.size → wpList P ops Q rest (a.put o.dst (.slice (some ⟨g, 0, none⟩) (n + 1) cap)) w') :
    wpList P ops Q (o :: rest) a w := by
  subst hln
  exact wpList_append_lies w hgd s x t ho base T i z sz bytes ht hi hz hsize hby hzs hs0 v l.length (l.flatMap c) hs hown ⟨H, 0, none⟩ 1 1 (c y) hx (by rw [hy, Nat.one_mul])
    (by rw [← hcs]; exact World.news_of_block hH) h1 (by omega) (by simp only [maxLen]; omega) (by
      have : (l.length + 1) * bytes ≤ 1000000 * 1000 := Nat.mul_le_mul (by omega) hb
      omega) hbase w.heap.size rfl
    fun g cap w' h2 h3 h4 h5 => h g cap w' (by unfold OwC; rw [List.flatMap_append, List.length_append, List.flatMap_cons, List.flatMap_nil, List.append_nil]; exact h2) h3 h4 h5
theorem step_append_cn {P : Program} {β : Type} {c : β → List Value} {T : TypeId} {sz : Nat} (w : World) {ops : Array Oper} {o : Oper} {a : Act} {K : Act → World → Prop} {Q : Exit → Act → World → Prop} {E : Prop} (hgd : o.guard = none) (s x : Operand) (t : TypeId)
    (ho : o.op = .call { callee := .builtin .append, args := #[s, x], argTypes := #[t, t] })
    (base : Nat) (i : TypeInfo) (z : Value) (bytes : Nat) (ht : P.underlying t = some (.slice T)) (hi : P.info? T = some i) (hz : i.zero = some z)
    (hsize : i.size = sz) (hby : i.bytes = bytes) (hzs : z.cells.size = sz) (hs0 : 0 < sz) (hb : bytes ≤ 1000)
    (v : Value) (l : List β) (n : Nat) (hln : l.length = n) (hs : a.eval s = v) (hown : OwC c T sz w base v l) (y : β) (hy : (c y).length = sz) (h1 : ∀ u ∈ c y, u.oneCell' = true) (H : Nat) (cs : Array Value) (hH : Box w H cs T) (hcs : cs.toList = c y)
    (hx : a.eval x = .slice (some ⟨H, 0, none⟩) 1 1)
    (hroom : n < 1000000) (hbase : base ≤ w.heap.size)
    (h : ∀ g cap w', OwC c T sz w' base (.slice (some ⟨g, 0, none⟩) (n + 1) cap) (l ++ [y]) → w.grownBy w' v.ownBlock → (v.ownBlock = some g ∨ g = w.heap.size) → g < w'.heap.size → K (a.put o.dst (.slice (some ⟨g, 0, none⟩) (n + 1) cap)) w') :
    if Region.wanted o (yielded ops a.tmps) = true then Oper.wp P o a w K Q else E := by
  subst hln
  exact step_append_c w hgd s x t ho base i z bytes ht hi hz hsize hby hzs hs0 hb v l hs hown y hy h1 H cs hH hcs hx hroom hbase h
section
variable {β : Type} {c : β → List Value} {T Tb : TypeId} {sz h j : Nat} {w w4 w5 : World} {v v5 : Value} {l l5 : List β} {cs : Array Value}
end
section
variable {w w' : World} {H g : Nat} {v : Value}
def intC (z : Int) : List Value := [.int .i64 z]
theorem intC_map : ∀ l : List Int, l.flatMap intC = l.map (Value.int .i64)
  | [] => rfl
  | x :: l => by rw [List.flatMap_cons, intC_map l]; rfl
theorem OwC.ints {base : Nat} {zs : List Int} (h : OwC intC 3 1 w base v zs) : Ow w base 3 .i64 v zs := by
  unfold OwC at h
  rw [intC_map] at h
  exact h
section
variable {hf : Nat} {p r : Int} {vk vb : Value} {ks bs : List Int}
variable {ys : List (List InsV × Value)}
end
section
variable {hp : Nat} {ys : List (FunV × Value × Value × Value)}
end
end
end Go.Proofs.Ytkilfejcohnceaa
