/- Edges in memory: a slice of edges that the call owns, append onto it; the edges of a function in plain lists. No condition. -/
import Derived.Test.YtkpikgakphdjjaaFB
import Derived.Maps.AppendAt
set_option linter.unusedSimpArgs false
set_option linter.unusedVariables false
namespace Go.Proofs.Ytkpikgakphdjjaa
open Go.RowKit

def eCells (es : List (Int × Int)) : List Value := es.flatMap (fun p => [Value.int .i64 p.1, Value.int .i64 p.2])
theorem eCells_len (es : List (Int × Int)) : (eCells es).length = es.length * 2 := by
  induction es with
  | nil => rfl
  | cons p es ih => simp only [eCells, List.flatMap_cons, List.length_append, List.length_cons] at *; simp at *; omega
theorem eCells_app (es : List (Int × Int)) (p : Int × Int) : eCells (es ++ [p]) = eCells es ++ [Value.int .i64 p.1, Value.int .i64 p.2] := by simp [eCells]
theorem eCells_get : ∀ (es : List (Int × Int)) (j : Nat) (p : Int × Int), es[j]? = some p → (eCells es)[j * 2]? = some (.int .i64 p.1) ∧ (eCells es)[j * 2 + 1]? = some (.int .i64 p.2)
  | [], j, p, h => by cases h
  | q :: es, 0, p, h => by
    simp at h; subst h
    exact ⟨rfl, rfl⟩
  | q :: es, j + 1, p, h => by
    have ih := eCells_get es j p (by simpa using h)
    have e : eCells (q :: es) = [Value.int .i64 q.1, Value.int .i64 q.2] ++ eCells es := rfl
    rw [e, List.getElem?_append_right (by simp; omega), List.getElem?_append_right (by simp; omega)]
    have e1 : (j + 1) * 2 - [Value.int .i64 q.1, Value.int .i64 q.2].length = j * 2 := by simp; omega
    have e2 : (j + 1) * 2 + 1 - [Value.int .i64 q.1, Value.int .i64 q.2].length = j * 2 + 1 := by simp; omega
    rw [e1, e2]
    exact ih
/-- The slice value v is the call's own, from block 'base' on, and holds the edges es. -/
def OwE (w : World) (base : Nat) (v : Value) (es : List (Int × Int)) : Prop := w.ownsRow base 64 2 v es.length (eCells es)
/-- The slice whose address is A holds the edges es, in a block below B. -/
def EdgS (w : World) (B : Nat) (A : Option Addr) (es : List (Int × Int)) : Prop :=
  0 < es.length → ∃ b o, A = some ⟨b, o, none⟩ ∧ b < B ∧ ∀ (j : Nat) (p : Int × Int), es[j]? = some p → w.cell? ⟨b, o + j * 2, none⟩ = some (.int .i64 p.1) ∧ w.cell? ⟨b, o + j * 2 + 1, none⟩ = some (.int .i64 p.2)
section
variable {w w' : World} {base B B' : Nat} {v : Value} {A : Option Addr} {es : List (Int × Int)}
theorem OwE.nil (w : World) (base : Nat) : OwE w base (.slice none 0 0) [] := World.ownsRow_nil _ _ _ _
theorem OwE.lower (h : OwE w base v es) {b : Nat} (hb : b ≤ base) : OwE w b v es := by
  refine ⟨h.1, ?_⟩
  rcases h.2 with h2 | ⟨g, cap, cur, hv, hg, r⟩
  · exact .inl h2
  · exact .inr ⟨g, cap, cur, hv, by omega, r⟩
theorem OwE.below (h : OwE w base v es) (hb : Below w.heap.size w w') : OwE w' base v es := by
  refine ⟨h.1, ?_⟩
  rcases h.2 with h2 | ⟨g, cap, cur, hv, hg, hh, r⟩
  · exact .inl h2
  · exact .inr ⟨g, cap, cur, hv, hg, (hb.block g (Array.getElem?_eq_some_iff.1 hh).1).trans hh, r⟩
theorem OwE.sl (h : OwE w base v es) : ∃ A c, v = .slice A es.length c ∧ es.length ≤ c ∧ c ≤ maxLen ∧ EdgS w w.heap.size A es := by
  rcases h.2 with ⟨rfl, h0⟩ | ⟨g, cap, cur, rfl, hg, hh, hnc, hcm, hsz, htake⟩
  · have hz : es = [] := List.eq_nil_of_length_eq_zero h0
    subst hz
    exact ⟨none, 0, rfl, Nat.le_refl _, by simp [maxLen], fun h => absurd h (by simp)⟩
  · refine ⟨_, _, rfl, hnc, hcm, fun hp => ⟨g, 0, rfl, (Array.getElem?_eq_some_iff.1 hh).1, fun j p hj => ?_⟩⟩
    have hjl := (List.getElem?_eq_some_iff.1 hj).1
    obtain ⟨h1, h2⟩ := eCells_get es j p hj
    rw [Nat.zero_add, World.ownsRow.cellAt h (j * 2) (by omega), World.ownsRow.cellAt h (j * 2 + 1) (by omega)]
    exact ⟨h1, h2⟩
theorem EdgS.below (h : EdgS w B A es) (hb : Below B w w') : EdgS w' B A es := fun hp => by
  obtain ⟨b, o, e, hbb, hc⟩ := h hp
  exact ⟨b, o, e, hbb, fun j p hj => ⟨(hb.cell (p := ⟨b, o + j * 2, none⟩) hbb).trans (hc j p hj).1, (hb.cell (p := ⟨b, o + j * 2 + 1, none⟩) hbb).trans (hc j p hj).2⟩⟩
theorem EdgS.more (h : EdgS w B A es) (hB : B ≤ B') : EdgS w B' A es := fun hp => by
  obtain ⟨b, o, e, hb, hc⟩ := h hp
  exact ⟨b, o, e, by omega, hc⟩
end
theorem info_edge : (Try.prog.info? 64).map (fun i => (i.zero, i.size, i.bytes)) = some (some (.agg #[.int .i64 0, .int .i64 0]), 2, 16) := by kernel_rfl
/-- append(v, Edge{a, b}), v the call's own. -/
theorem wpList_append_edge {P : Program} (w : World) {ops : Array Oper} {rest : List Oper} {o : Oper} {a : Act} {Q : Exit → Act → World → Prop} (hgd : o.guard = none) (s x : Operand) (t : TypeId)
    (ho : o.op = .call { callee := .builtin .append, args := #[s, x], argTypes := #[t, t] })
    (base : Nat) (i : TypeInfo) (z : Value) (ht : P.underlying t = some (.slice 64)) (hi : P.info? 64 = some i) (hz : i.zero = some z)
    (hsize : i.size = 2) (hby : i.bytes = 16) (hzs : z.cells.size = 2)
    (v : Value) (es : List (Int × Int)) (hs : a.eval s = v) (hown : OwE w base v es) (y1 y2 : Int)
    (hx : a.eval x = .slice (some ⟨w.heap.size, 0, none⟩) 1 1)
    (hroom : es.length < 1000000) (hbase : base ≤ w.heap.size)
    (h : ∀ v' w', OwE w' base v' (es ++ [(y1, y2)]) → Below base w w' → (∀ p : Addr, p.block < w.heap.size → some p.block ≠ v.ownBlock → w'.cell? p = w.cell? p) → (v'.ownBlock = v.ownBlock ∨ v'.ownBlock = some (w.heap.size + 1)) → wpList P ops Q rest (a.put o.dst v') w') :
    wpList P ops Q (o :: rest) a (w.alloc (.cells #[.int .i64 y1, .int .i64 y2] 64)) := by
  refine wpList_plain hgd fun K hK => ?_
  have hown' : (w.alloc (.cells #[.int .i64 y1, .int .i64 y2] 64)).ownsRow base 64 2 v es.length (eCells es) := World.ownsRow.alloc hown _
  obtain ⟨v', w', hrun, h2, h3, -, h5⟩ := run_append_own_at (P := P) (w.alloc (.cells #[.int .i64 y1, .int .i64 y2] 64)) base t o.type 64 i z 2 16 ht hi hz hsize hby hzs (by omega) v es.length (eCells es) hown'
    ⟨w.heap.size, 0, none⟩ 1 1 [.int .i64 y1, .int .i64 y2] rfl
    (fun j u hu => by
      rw [Addr.add_lit, cell_of_row (w.alloc (.cells #[.int .i64 y1, .int .i64 y2] 64)) w.heap.size (0 + j) _ _ (0, 0) (heap_alloc_new w _), Nat.zero_add, ← Array.getElem?_toList]
      exact hu) (by intro u hu; simp at hu; rcases hu with rfl | rfl <;> rfl) (by simp only [maxLen]; omega) (by omega) (by simp only [World.size_alloc]; omega)
  unfold Oper.wp execOp
  simp only [ho, resolve, invoke, builtin, Sem.run_bind, Sem.run_pure, Result.andThen_ok, List.map_toArray, List.map_cons, List.map_nil, hs, hx, hrun]
  refine hK _ _ (h v' w' ?_ ?_ ?_ ?_)
  · unfold OwE
    rw [eCells_app, List.length_append]
    exact h2
  · exact ((Below.refl _ _).alloc hbase _).grown h3 (by simp only [World.size_alloc]; omega) fun g hg => (World.ownsRow.lt hown g hg).1
  · intro p hp hne
    rw [World.cell?_of_block (h3.block p.block (by simp only [World.size_alloc]; omega) hne), World.cell?_alloc_lt w _ p hp]
  · simpa only [World.size_alloc] using h5

def edgesTo (f : FunV) (k : Nat) : List (Int × Int) := (List.range k).flatMap (fun i => (nxt f i).map (fun v => ((i : Int), v)))
def edgesN (f : FunV) : List (Int × Int) := edgesTo f f.blocks.length
def edgesIn (f : FunV) (k j : Nat) : List (Int × Int) := edgesTo f k ++ ((nxt f k).take j).map (fun v => ((k : Int), v))
theorem edgesTo_zero (f : FunV) : edgesTo f 0 = [] := rfl
theorem edgesIn_zero (f : FunV) (k : Nat) : edgesIn f k 0 = edgesTo f k := by simp [edgesIn]
theorem edgesIn_all {f : FunV} {k j : Nat} (h : (nxt f k).length ≤ j) : edgesIn f k j = edgesTo f (k + 1) := by
  unfold edgesIn edgesTo
  rw [List.take_of_length_le h, List.range_succ, List.flatMap_append]
  simp
theorem edgesIn_step {f : FunV} {k j : Nat} {v : Int} (h : (nxt f k)[j]? = some v) : edgesIn f k j ++ [((k : Int), v)] = edgesIn f k (j + 1) := by
  unfold edgesIn
  rw [List.append_assoc, List.take_add_one, h]
  simp
theorem edgesTo_len (f : FunV) (k : Nat) : (edgesTo f k).length ≤ 2 * k := by
  induction k with
  | zero => simp [edgesTo]
  | succ k ih =>
    rw [← edgesIn_all (Nat.le_refl _)]
    unfold edgesIn
    rw [List.length_append, List.length_map, List.take_length]
    have := nxt_len f k
    omega
theorem edgesIn_len (f : FunV) (k j : Nat) : (edgesIn f k j).length ≤ 2 * k + 2 := by
  unfold edgesIn
  rw [List.length_append, List.length_map]
  have h1 := edgesTo_len f k
  have h2 := nxt_len f k
  have h3 : ((nxt f k).take j).length ≤ (nxt f k).length := List.length_take_le' _ _
  omega
end Go.Proofs.Ytkpikgakphdjjaa
