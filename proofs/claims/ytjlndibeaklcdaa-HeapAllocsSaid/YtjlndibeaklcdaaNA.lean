/- Layer 5: the blocks that follow one another, in plain lists; the contracts of flow.there, flow.Next and of the reference's Next. Condition: what comes next is there. -/
import Derived.Test.YtjlndibeaklcdaaSFirst
import Derived.Test.YtjlndibeaklcdaaTA
import Derived.Maps.AppendAt
set_option linter.unusedSimpArgs false
set_option linter.unusedVariables false
namespace Go.Proofs.Ytjlndibeaklcdaa
open Go.RowKit

def nextB (b : List InsV) : List Int := match b.getLast? with | some x => nextL x | none => []
def nxt (f : FunV) (k : Nat) : List Int := match f.blocks[k]? with | some b => nextB b | none => []
def nxtI (f : FunV) (z : Int) : List Int := if inB 0 ((f.blocks.length : Int) - 1) z = true then nxt f z.toNat else []
def FlowOk (f : FunV) : Prop := f.blocks.length ≤ 40 ∧ (∀ b ∈ f.blocks, b.length ≤ 40) ∧ ∀ k v, v ∈ nxt f k → 0 ≤ v ∧ v < f.blocks.length
theorem nextL_len (x : InsV) : (nextL x).length ≤ 2 := by unfold nextL; split <;> (try split) <;> simp
theorem nextL_nodup (x : InsV) : (nextL x).Nodup := by
  unfold nextL
  split
  · simp
  · split
    · rename_i h1 h2
      have : x.n ≠ x.m := fun h => h1 (.inr ⟨h2, h⟩)
      simp; omega
    · simp
theorem nxt_len (f : FunV) (k : Nat) : (nxt f k).length ≤ 2 := by
  unfold nxt nextB
  split
  · split
    · exact nextL_len _
    · simp
  · simp
theorem nxt_nodup (f : FunV) (k : Nat) : (nxt f k).Nodup := by
  unfold nxt nextB
  split
  · split
    · exact nextL_nodup _
    · simp
  · simp
theorem nxt_last {f : FunV} {k mp : Nat} {b : List InsV} {x : InsV} (hb : f.blocks[k]? = some b) (hm : b.length = mp + 1) (hx : b[mp]? = some x) : nxt f k = nextL x := by
  unfold nxt nextB
  rw [hb]
  show (match b.getLast? with | some x => nextL x | none => []) = _
  rw [List.getLast?_eq_getElem?, hm, Nat.add_sub_cancel, hx]
theorem nxt_none {f : FunV} {k : Nat} {b : List InsV} (hb : f.blocks[k]? = some b) (hm : b.length = 0) : nxt f k = [] := by
  unfold nxt nextB
  rw [hb, List.eq_nil_of_length_eq_zero hm]
  rfl
theorem nxtI_nat {f : FunV} {k : Nat} (h : k < f.blocks.length) : nxtI f (k : Int) = nxt f k := by
  unfold nxtI
  rw [if_pos (by rw [inB_iff]; omega), Int.toNat_natCast]
theorem flowOk_of {p : List FunV} (h : progB4 p = true) : ∀ f ∈ p, FlowOk f ∧ 1 ≤ f.blocks.length := by
  intro f hf
  obtain ⟨-, -, -, hall⟩ := prog_parts h
  obtain ⟨-, -, -, ⟨hb1, hb40, hbl⟩, hmay⟩ := fun_parts (hall f hf)
  refine ⟨⟨hb40, fun b hb => (hbl b hb).2.1, fun k v hv => ?_⟩, hb1⟩
  unfold nxt nextB at hv
  split at hv
  · rename_i b hbk
    split at hv
    · rename_i x hx
      have := next_blk (hmay b (List.mem_of_getElem? hbk) x (List.mem_of_getLast? hx)) v hv
      omega
    · cases hv
  · cases hv

end Go.Proofs.Ytjlndibeaklcdaa
namespace Go.Proofs.Ytjlndibeaklcdaa
open Go.RowKit

theorem Sl.vec {w : World} {B c : Nat} {A : Option Addr} {zs : List Int} (h : Sl w B .i64 A zs) (hc : zs.length ≤ c) (hm : c ≤ 9223372036854775807) (hr : ∀ z ∈ zs, i64R z) : IntsV w (· < B) (.slice A zs.length c) zs := by
  refine ⟨A, c, rfl, hc, hm, fun hp => ?_⟩
  obtain ⟨b, o, e2, hb, hcc⟩ := h hp
  refine ⟨b, o, e2, hb, fun j x hj => ⟨?_, hr x (List.mem_of_getElem? hj)⟩⟩
  have := hcc j (List.getElem?_eq_some_iff.1 hj).1
  rw [Nat.mul_one, this]
  simp [List.getD, hj]
theorem nxt_R {f : FunV} (hok : FlowOk f) (k : Nat) : ∀ z ∈ nxt f k, i64R z := fun z hz => by have := hok.2.2 k z hz; have := hok.1; unfold i64R; omega
theorem nxtI_out {f : FunV} {z : Int} (h : inB 0 ((f.blocks.length : Int) - 1) z = false) : nxtI f z = [] := by unfold nxtI; rw [h]; rfl
end Go.Proofs.Ytjlndibeaklcdaa
namespace Go.Proofs.Ytjlndibeaklcdaa
open Go.RowKit

def eCells (es : List (Int × Int)) : List Value := es.flatMap (fun p => [Value.int .i64 p.1, Value.int .i64 p.2])
theorem eCells_len (es : List (Int × Int)) : (eCells es).length = es.length * 2 := by
  induction es with
  | nil => rfl
  | cons p es ih => simp only [eCells, List.flatMap_cons, List.length_append, List.length_cons] at *; simp at *; omega
theorem eCells_app (es : List (Int × Int)) (p : Int × Int) : eCells (es ++ [p]) = eCells es ++ [Value.int .i64 p.1, Value.int .i64 p.2] := by simp [eCells]
theorem eCells_get : ∀ (es : List (Int × Int)) (j : Nat) (p : Int × Int), es[j]? = some p → (eCells es)[j * 2]? = some (.int .i64 p.1) ∧ (eCells es)[j * 2 + 1]? = some (.int .i64 p.2)
  | [], j, p, h => by cases h
  | q :: es, 0, p, h => by
    simp at h; subst h
    exact ⟨rfl, rfl⟩
  | q :: es, j + 1, p, h => by
    have ih := eCells_get es j p (by simpa using h)
    have e : eCells (q :: es) = [Value.int .i64 q.1, Value.int .i64 q.2] ++ eCells es := rfl
    rw [e, List.getElem?_append_right (by simp; omega), List.getElem?_append_right (by simp; omega)]
    have e1 : (j + 1) * 2 - [Value.int .i64 q.1, Value.int .i64 q.2].length = j * 2 := by simp; omega
    have e2 : (j + 1) * 2 + 1 - [Value.int .i64 q.1, Value.int .i64 q.2].length = j * 2 + 1 := by simp; omega
    rw [e1, e2]
    exact ih
/-- The slice whose address is A holds the edges es, in a block below B. -/
def EdgS (w : World) (B : Nat) (A : Option Addr) (es : List (Int × Int)) : Prop :=
  0 < es.length → ∃ b o, A = some ⟨b, o, none⟩ ∧ b < B ∧ ∀ (j : Nat) (p : Int × Int), es[j]? = some p → w.cell? ⟨b, o + j * 2, none⟩ = some (.int .i64 p.1) ∧ w.cell? ⟨b, o + j * 2 + 1, none⟩ = some (.int .i64 p.2)
section
variable {w w' : World} {base B B' : Nat} {v : Value} {A : Option Addr} {es : List (Int × Int)}
theorem EdgS.below (h : EdgS w B A es) (hb : Below B w w') : EdgS w' B A es := fun hp => by
  obtain ⟨b, o, e, hbb, hc⟩ := h hp
  exact ⟨b, o, e, hbb, fun j p hj => ⟨(hb.cell (p := ⟨b, o + j * 2, none⟩) hbb).trans (hc j p hj).1, (hb.cell (p := ⟨b, o + j * 2 + 1, none⟩) hbb).trans (hc j p hj).2⟩⟩
theorem EdgS.more (h : EdgS w B A es) (hB : B ≤ B') : EdgS w B' A es := fun hp => by
  obtain ⟨b, o, e, hb, hc⟩ := h hp
  exact ⟨b, o, e, by omega, hc⟩
end
def edgesTo (f : FunV) (k : Nat) : List (Int × Int) := (List.range k).flatMap (fun i => (nxt f i).map (fun v => ((i : Int), v)))
def edgesN (f : FunV) : List (Int × Int) := edgesTo f f.blocks.length
def edgesIn (f : FunV) (k j : Nat) : List (Int × Int) := edgesTo f k ++ ((nxt f k).take j).map (fun v => ((k : Int), v))
theorem edgesTo_zero (f : FunV) : edgesTo f 0 = [] := rfl
theorem edgesIn_zero (f : FunV) (k : Nat) : edgesIn f k 0 = edgesTo f k := by simp [edgesIn]
theorem edgesIn_all {f : FunV} {k j : Nat} (h : (nxt f k).length ≤ j) : edgesIn f k j = edgesTo f (k + 1) := by
  unfold edgesIn edgesTo
  rw [List.take_of_length_le h, List.range_succ, List.flatMap_append]
  simp
theorem edgesIn_step {f : FunV} {k j : Nat} {v : Int} (h : (nxt f k)[j]? = some v) : edgesIn f k j ++ [((k : Int), v)] = edgesIn f k (j + 1) := by
  unfold edgesIn
  rw [List.append_assoc, List.take_add_one, h]
  simp
theorem edgesTo_len (f : FunV) (k : Nat) : (edgesTo f k).length ≤ 2 * k := by
  induction k with
  | zero => simp [edgesTo]
  | succ k ih =>
    rw [← edgesIn_all (Nat.le_refl _)]
    unfold edgesIn
    rw [List.length_append, List.length_map, List.take_length]
    have := nxt_len f k
    omega
theorem edgesIn_len (f : FunV) (k j : Nat) : (edgesIn f k j).length ≤ 2 * k + 2 := by
  unfold edgesIn
  rw [List.length_append, List.length_map]
  have h1 := edgesTo_len f k
  have h2 := nxt_len f k
  have h3 : ((nxt f k).take j).length ≤ (nxt f k).length := List.length_take_le' _ _
  omega
end Go.Proofs.Ytjlndibeaklcdaa
namespace Go.Proofs.Ytjlndibeaklcdaa
open Go.RowKit

end Go.Proofs.Ytjlndibeaklcdaa
namespace Go.Proofs.Ytjlndibeaklcdaa
open Go.RowKit

end Go.Proofs.Ytjlndibeaklcdaa
namespace Go.Proofs.Ytjlndibeaklcdaa
open Go.RowKit

theorem Sl.far {w w' : World} {B : Nat} {k : IntKind} {A : Option Addr} {zs : List Int} {own : Option Nat} (h : Sl w B k A zs) (hf : ∀ b o, A = some ⟨b, o, none⟩ → some b ≠ own) (hk : ∀ p : Addr, p.block < B → some p.block ≠ own → w'.cell? p = w.cell? p) : Sl w' B k A zs := fun hp => by
  obtain ⟨b, o, e, hb, hc⟩ := h hp
  exact ⟨b, o, e, hb, fun j hj => (hk _ hb (hf b o e)).trans (hc j hj)⟩
end Go.Proofs.Ytjlndibeaklcdaa
namespace Go.Proofs.Ytjlndibeaklcdaa
open Go.RowKit

def prevN (f : FunV) (z : Int) : List Int := ((edgesN f).filter (fun e => e.2 == z)).map Prod.fst
theorem nodup_filter_one {l : List Int} {z : Int} (h : l.Nodup) : (l.filter (fun v => v == z)) = if z ∈ l then [z] else [] := by
  induction l with
  | nil => rfl
  | cons a l ih =>
    have hn := (List.nodup_cons.1 h)
    rw [List.filter_cons, ih hn.2]
    by_cases ha : a = z
    · subst ha
      simp [hn.1]
    · have : ¬ z = a := fun h => ha h.symm
      simp [ha, this]
def prevTo (f : FunV) (z : Int) (k : Nat) : List Int := ((edgesTo f k).filter (fun e => e.2 == z)).map Prod.fst
theorem prevTo_zero (f : FunV) (z : Int) : prevTo f z 0 = [] := rfl
theorem prevTo_all (f : FunV) (z : Int) : prevTo f z f.blocks.length = prevN f z := rfl
theorem prevTo_step (f : FunV) (z : Int) (k : Nat) : prevTo f z (k + 1) = prevTo f z k ++ if z ∈ nxt f k then [(k : Int)] else [] := by
  unfold prevTo
  rw [← edgesIn_all (Nat.le_refl _)]
  unfold edgesIn
  rw [List.take_length, List.filter_append, List.map_append]
  congr 1
  rw [List.filter_map, List.map_map]
  have : (fun v : Int => ((k : Int), v).2 == z) = (fun v => v == z) := rfl
  show ((nxt f k).filter (fun v => v == z)).map (fun v => (k : Int)) = _
  rw [nodup_filter_one (nxt_nodup f k)]
  split <;> simp
theorem prevN_out {f : FunV} (hok : FlowOk f) {z : Int} (h : inB 0 ((f.blocks.length : Int) - 1) z = false) : prevN f z = [] := by
  unfold prevN
  rw [List.filter_eq_nil_iff.2, List.map_nil]
  rintro ⟨a, b⟩ he hz
  unfold edgesN edgesTo at he
  simp only [List.mem_flatMap, List.mem_map] at he
  obtain ⟨i, -, v, hv, hp⟩ := he
  injection hp with h1 h2
  simp only [beq_iff_eq] at hz
  subst hz
  subst h2
  have := hok.2.2 i _ hv
  rw [inB_iff.2 (by omega)] at h
  cases h
theorem prevTo_len (f : FunV) (z : Int) (k : Nat) : (prevTo f z k).length ≤ 2 * k := by
  unfold prevTo
  rw [List.length_map]
  exact Nat.le_trans (List.length_filter_le _ _) (edgesTo_len f k)
def sizeTo (f : FunV) (k : Nat) : Nat := ((f.blocks.take k).map List.length).sum
theorem sizeTo_step {f : FunV} {k : Nat} {b : List InsV} (h : f.blocks[k]? = some b) : sizeTo f (k + 1) = sizeTo f k + b.length := by
  unfold sizeTo
  rw [List.take_add_one, h]
  simp
theorem sizeTo_le {f : FunV} (hok : FlowOk f) (k : Nat) (hk : k ≤ f.blocks.length) : sizeTo f k ≤ 40 * k := by
  induction k with
  | zero => simp [sizeTo]
  | succ k ih =>
    have hb : f.blocks[k]? = some (f.blocks[k]'(by omega)) := List.getElem?_eq_getElem _
    rw [sizeTo_step hb]
    have := hok.2.1 _ (List.getElem_mem (l := f.blocks) (n := k) (by omega))
    have := ih (by omega)
    omega
end Go.Proofs.Ytjlndibeaklcdaa
namespace Go.Proofs.Ytjlndibeaklcdaa
open Go.RowKit

def selTo (es : List (Int × Int)) (z : Int) (k : Nat) : List Int := ((es.take k).filter (fun e => e.2 == z)).map Prod.fst
theorem selTo_yes {es : List (Int × Int)} {z : Int} {k : Nat} {e : Int × Int} (h : es[k]? = some e) (hz : e.2 = z) : selTo es z k ++ [e.1] = selTo es z (k + 1) := by
  unfold selTo
  rw [List.take_add_one, h]
  simp [List.filter_append, hz]
theorem selTo_no {es : List (Int × Int)} {z : Int} {k : Nat} {e : Int × Int} (h : es[k]? = some e) (hz : ¬ e.2 = z) : selTo es z k = selTo es z (k + 1) := by
  unfold selTo
  rw [List.take_add_one, h]
  simp [List.filter_append, hz]
theorem selTo_len (es : List (Int × Int)) (z : Int) (k : Nat) : (selTo es z k).length ≤ k := by
  unfold selTo
  rw [List.length_map]
  exact Nat.le_trans (List.length_filter_le _ _) (List.length_take_le _ _)
theorem selTo_all {f : FunV} {z : Int} {k : Nat} (h : (edgesN f).length ≤ k) : selTo (edgesN f) z k = prevN f z := by
  unfold selTo prevN
  rw [List.take_of_length_le h]
theorem edgesN_len {f : FunV} (hok : FlowOk f) : (edgesN f).length ≤ 80 := by
  have h1 := edgesTo_len f f.blocks.length
  have h2 := hok.1
  unfold edgesN
  omega
theorem mem_take_step {l : List Int} {z y : Int} {k : Nat} (h : z ∉ l.take k) (hy : l[k]? = some y) (hz : ¬ y = z) : z ∉ l.take (k + 1) := by
  rw [List.take_add_one, hy]
  intro hm
  rcases List.mem_append.1 hm with h1 | h1
  · exact h h1
  · simp at h1; exact hz h1.symm
end Go.Proofs.Ytjlndibeaklcdaa
namespace Go.Proofs.Ytjlndibeaklcdaa
open Go.RowKit

theorem prevTo_yes {f : FunV} {z : Int} {k : Nat} (h : z ∈ nxt f k) : prevTo f z k ++ [(k : Int)] = prevTo f z (k + 1) := by rw [prevTo_step, if_pos h]
theorem prevTo_no {f : FunV} {z : Int} {k : Nat} (h : ¬ z ∈ nxt f k) : prevTo f z k = prevTo f z (k + 1) := by rw [prevTo_step, if_neg h, List.append_nil]
end Go.Proofs.Ytjlndibeaklcdaa
