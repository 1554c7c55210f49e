/- Plain mathematics: a walk over blocks, as a relation; it has one outcome; the same walk with a list of what isn't left yet. Condition: .. -/
import Derived.Test.YthbnbaikdcfbmaaGreatDoorPmNA
set_option linter.unusedSimpArgs false
set_option linter.unusedVariables false
namespace Go.Proofs.YthbnbaikdcfbmaaGreatDoor
open Go.RowKit
def metB (m : List Bool) (c : Int) : Bool := m.getD c.toNat false
def meet (m : List Bool) (c : Int) : List Bool := m.set c.toNat true
theorem jid {m : List Bool} {c : Int} (hc : c.toNat < m.length) (h : metB m c = false) : (meet m c).count false + 1 = m.count false := by
 unfold metB at h
 unfold meet
 generalize c.toNat = k at *
 clear c
 induction m generalizing k with
 | nil => simp at hc
 | cons a m ih =>
  cases k with
  | zero =>
   simp at h
   subst h
   simp
  | succ k =>
   have := ih k (by simpa using hc) (by simpa using h)
   cases a <;> simp <;> omega
section
variable {w w' : World} {base : Nat} {v : Value} {os : List (Int × Value)}
theorem Ow.kept' {e : TypeId} {k : IntKind} {zs : List Int} (h : Ow w base e k v zs) (hk : ∀ g, v.ownBlock = some g -> w'.heap[g]? = w.heap[g]?) : Ow w' base e k v zs := by
 refine ⟨h.1, ?_⟩
 rcases h.2 with h2 | ⟨g, cap, cur, hv, hg, hh, r⟩
 ·exact .inl h2
 ·exact .inr ⟨g, cap, cur, hv, hg, (hk g (by rw [hv]; rfl)).trans hh, r⟩
theorem Ow.row' {e : TypeId} {k : IntKind} {zs : List Int} (h : Ow w base e k v zs) : ∀ g, v.ownBlock = some g -> base <= g /\ g < w.heap.size /\ ∃ c, w.heap[g]? = some (.cells c e (0, 0)) := fun g hg => by
 rcases h.2 with ⟨rfl, -⟩ | ⟨g', cap, cur, rfl, hb, hh, -⟩
 ·cases hg
 ·simp [Value.ownBlock] at hg
  subst hg
  exact ⟨hb, (Array.getElem?_eq_some_iff.1 hh).1, cur, hh⟩
end
section
variable {w w' : World} {base hw bm n : Nat} {fk fb fs vo vl : Value} {fp fr : Int} {m : List Bool} {os : List (Int × List Int)} {l : List Int} {ov : List (Int × Value)}
theorem Box.apart {w : World} {h g : Nat} {cs ds : Array Value} {T U : TypeId} (b : Box w h cs T) (c : w.heap[g]? = some (.cells ds U (0, 0))) (hT : T ≠ U) : h ≠ g := fun e => by
 subst e
 have := b.symm.trans c
 injection this with this
 injection this with _ h2
 exact hT h2
end
section
variable {w w4 w5 : World} {base hw bm n : Nat} {fk fb fs vo vl v5 x : Value} {fp fr c : Int} {m : List Bool} {os : List (Int × List Int)} {l nx : List Int} {ov : List (Int × Value)}
end
section
variable {w w4 w5 : World} {base hw bm n : Nat} {fk fb fs vo vl v5 x y : Value} {fp fr b : Int} {m : List Bool} {os : List (Int × List Int)} {l nx cs : List Int} {ov : List (Int × Value)} {g no cap : Nat}
end
attribute [local go_sem ↓] Go.wp_at_zero Go.wp_at_succ
theorem jgk {P : Program} (w : World) {ops : Array Oper} {o : Oper} {a : Act} {K : Act -> World -> Prop} {Q : Exit -> Act -> World -> Prop} {E : Prop} (hgd : o.guard = none) (s x : Operand) (t : TypeId)
  (ho : o.op = .call { callee := .builtin .append, args := #[s, x], argTypes := #[t, t] })
  (base : Nat) (i : TypeInfo) (z : Value) (ht : P.underlying t = some (.slice 3)) (hi : P.info? 3 = some i) (hz : i.zero = some z)
  (hsize : i.size = 1) (hby : i.bytes = 8) (hzs : z.cells.size = 1)
  (v : Value) (zs : List Int) (hs : a.eval s = v) (hown : Ow w base 3 .i64 v zs) (y : Int) (H : Nat) (hH : Box w H #[.int .i64 y] 3)
  (hx : a.eval x = .slice (some ⟨H, 0, none⟩) 1 1)
  (hroom : zs.length < 1000000) (hbase : base <= w.heap.size)
  (h : ∀ g cap w', Ow w' base 3 .i64 (.slice (some ⟨g, 0, none⟩) (zs.length + 1) cap) (zs ++ [y]) -> w.grownBy w' v.ownBlock -> (v.ownBlock = some g \/ g = w.heap.size) -> g < w'.heap.size -> K (a.put o.dst (.slice (some ⟨g, 0, none⟩) (zs.length + 1) cap)) w') :
  if Region.wanted o (yielded ops a.tmps) = true then Oper.wp P o a w K Q else E :=
 step_append_lies w hgd s x t ho base 3 i z 1 8 ht hi hz hsize hby hzs (by omega) v zs.length (zs.map (Value.int .i64)) hs hown ⟨H, 0, none⟩ 1 1 [.int .i64 y] hx rfl
  (World.news_of_block hH) (by intro u hu; simp at hu; subst hu; rfl) (by omega) (by simp only [maxLen]; omega) (by omega) hbase w.heap.size rfl
  fun g cap w' h2 h3 h4 h5 => h g cap w' (by unfold Ow; rw [List.map_append, List.length_append]; exact h2) h3 h4 h5
theorem jrv : (Tryz.prog.info? 4).map (fun i => (i.zero, i.size, i.bytes)) = some (some (.bool false), 1, 1) := by kernel_rfl
theorem jhj (n : Nat) : madeCells (Value.bool false).cells (n * 1) = ((List.replicate n false).map Value.bool).toArray := by
 unfold madeCells
 apply Array.ext
 ·simp
 ·intro i h1 h2
  simp [Value.cells, Nat.mod_one]
section
variable {w w' : World} {base : Nat} {e : TypeId} {k : IntKind} {zs : List Int}
end
end Go.Proofs.YthbnbaikdcfbmaaGreatDoor
