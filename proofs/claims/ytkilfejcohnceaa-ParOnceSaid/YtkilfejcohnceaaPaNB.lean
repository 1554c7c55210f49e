/- Plain mathematics: a walk over blocks, as a relation; it has one outcome; the same walk with a list of what isn't left yet. Condition: what comes next is there. -/
import Derived.Test.YtkilfejcohnceaaPaNA
import Derived.Test.YtkilfejcohnceaaPaMD
import Derived.Deep.RegionLaw
import Derived.Deep.RegionHeld3
import Derived.Deep.DrawnRows
import Derived.BigQuiet
import Derived.BigRegion
import Derived.Deep.LoopGhost
set_option linter.unusedSimpArgs false
set_option linter.unusedVariables false
namespace Go.Proofs.Ytkilfejcohnceaa

def metB (m : List Bool) (c : Int) : Bool := m.getD c.toNat false
def meet (m : List Bool) (c : Int) : List Bool := m.set c.toNat true
inductive Dfs (f : FunV) : List Int → List Bool → List Int → List Bool → List Int → Prop
  | nil (m l) : Dfs f [] m l m l
  | old {c cs m l m' l'} : metB m c = true → Dfs f cs m l m' l' → Dfs f (c :: cs) m l m' l'
  | new {c cs m l m1 l1 m' l'} : metB m c = false → Dfs f (nxt f c.toNat) (meet m c) l m1 l1 → Dfs f cs m1 (l1 ++ [c]) m' l' → Dfs f (c :: cs) m l m' l'
theorem Dfs.one {f : FunV} {cs : List Int} {m : List Bool} {l : List Int} {m1 m2 : List Bool} {l1 l2 : List Int} (h1 : Dfs f cs m l m1 l1) : Dfs f cs m l m2 l2 → m1 = m2 ∧ l1 = l2 := by
  induction h1 generalizing m2 l2 with
  | nil m l => intro h2; cases h2; exact ⟨rfl, rfl⟩
  | old hm _ ih =>
    intro h2
    cases h2 with
    | old _ h => exact ih h
    | new hf _ _ => rw [hm] at hf; cases hf
  | new hm _ _ ih1 ih2 =>
    intro h2
    cases h2 with
    | old hf _ => rw [hm] at hf; cases hf
    | new _ ha hb =>
      obtain ⟨rfl, rfl⟩ := ih1 ha
      exact ih2 hb
/-- The same walk under way: what isn't left yet (the last one on top) comes to its end so. -/
inductive FinS (f : FunV) : List (Int × List Int) → List Bool → List Int → List Bool → List Int → Prop
  | done (m l) : FinS f [] m l m l
  | go {b nx st m l m1 l1 m' l'} : Dfs f nx m l m1 l1 → FinS f st m1 (l1 ++ [b]) m' l' → FinS f ((b, nx) :: st) m l m' l'
theorem FinS.pop {f : FunV} {b : Int} {st m l m' l'} (h : FinS f ((b, []) :: st) m l m' l') : FinS f st m (l ++ [b]) m' l' := by
  cases h with
  | go h1 h2 => cases h1; exact h2
theorem FinS.old {f : FunV} {b c : Int} {cs : List Int} {st m l m' l'} (h : FinS f ((b, c :: cs) :: st) m l m' l') (hm : metB m c = true) : FinS f ((b, cs) :: st) m l m' l' := by
  cases h with
  | go h1 h2 =>
    cases h1 with
    | old _ h => exact .go h h2
    | new hf _ _ => rw [hm] at hf; cases hf
theorem FinS.new {f : FunV} {b c : Int} {cs : List Int} {st m l m' l'} (h : FinS f ((b, c :: cs) :: st) m l m' l') (hm : metB m c = false) : FinS f ((c, nxt f c.toNat) :: (b, cs) :: st) (meet m c) l m' l' := by
  cases h with
  | go h1 h2 =>
    cases h1 with
    | old hf _ => rw [hm] at hf; cases hf
    | new _ ha hb => exact .go ha (.go hb h2)
/-- A walk from block c on. -/
theorem FinS.start {f : FunV} {c : Int} {m l m' l'} (h : Dfs f [c] m l m' l') (hm : metB m c = false) : FinS f [(c, nxt f c.toNat)] (meet m c) l m' l' := by
  cases h with
  | old hf _ => rw [hm] at hf; cases hf
  | new _ ha hb => cases hb; exact .go ha (.done _ _)
end Go.Proofs.Ytkilfejcohnceaa
namespace Go.Proofs.Ytkilfejcohnceaa
open Go.RowKit

section
variable {w w' : World} {base : Nat} {v : Value} {os : List (Int × Value)}
end
def VisOk (w : World) (M : Nat → Prop) (p : Int × Value) (q : Int × List Int) : Prop := p.1 = q.1 ∧ ∃ A c, p.2 = .slice A q.2.length c ∧ q.2.length ≤ c ∧ c ≤ 2 ∧ Sl w w.heap.size .i64 A q.2 ∧ ∀ b o, A = some ⟨b, o, none⟩ → 0 < q.2.length → ¬ M b
theorem VisOk.move {w w' : World} {M M' : Nat → Prop} {p : Int × Value} {q : Int × List Int} (h : VisOk w M p q) (hs : w.heap.size ≤ w'.heap.size) (hk : ∀ b, b < w.heap.size → ¬ M b → w'.heap[b]? = w.heap[b]?) (hM : ∀ b, b < w.heap.size → M' b → M b) : VisOk w' M' p q := by
  obtain ⟨h1, A, c, h2, h3, h4, h5, h6⟩ := h
  refine ⟨h1, A, c, h2, h3, h4, fun hp => ?_, fun b o hA hp hm => ?_⟩
  · obtain ⟨b, o, e, hb, hc⟩ := h5 hp
    exact ⟨b, o, e, by omega, fun j hj => (World.cell?_of_block (a := ⟨b, o + j, none⟩) (hk b hb (h6 b o e hp))).trans (hc j hj)⟩
  · obtain ⟨b', o', e, hb, -⟩ := h5 hp
    rw [hA] at e
    injection e with e
    injection e with e1 e2
    subst e1
    exact h6 b o hA hp (hM b hb hm)
section
variable {w w' : World} {base hw bm n : Nat} {fk fb fs vo vl : Value} {fp fr : Int} {m : List Bool} {os : List (Int × List Int)} {l : List Int} {ov : List (Int × Value)}
theorem Box.apart {w : World} {h g : Nat} {cs ds : Array Value} {T U : TypeId} (b : Box w h cs T) (c : w.heap[g]? = some (.cells ds U (0, 0))) (hT : T ≠ U) : h ≠ g := fun e => by
  subst e
  have := b.symm.trans c
  injection this with this
  injection this with _ h2
  exact hT h2
end
end Go.Proofs.Ytkilfejcohnceaa
namespace Go.Proofs.Ytkilfejcohnceaa
open Go.RowKit
section
variable {w w4 w5 : World} {base hw bm n : Nat} {fk fb fs vo vl v5 x : Value} {fp fr c : Int} {m : List Bool} {os : List (Int × List Int)} {l nx : List Int} {ov : List (Int × Value)}
end
end Go.Proofs.Ytkilfejcohnceaa
namespace Go.Proofs.Ytkilfejcohnceaa
open Go.RowKit

section
variable {w w4 w5 : World} {base hw bm n : Nat} {fk fb fs vo vl v5 x y : Value} {fp fr b : Int} {m : List Bool} {os : List (Int × List Int)} {l nx cs : List Int} {ov : List (Int × Value)} {g no cap : Nat}
end
end Go.Proofs.Ytkilfejcohnceaa
namespace Go.Proofs.Ytkilfejcohnceaa
open Go.RowKit
attribute [local go_sem ↓] Go.wp_at_zero Go.wp_at_succ

end Go.Proofs.Ytkilfejcohnceaa
namespace Go.Proofs.Ytkilfejcohnceaa
open Go.RowKit
end Go.Proofs.Ytkilfejcohnceaa
namespace Go.Proofs.Ytkilfejcohnceaa
open Go.RowKit

end Go.Proofs.Ytkilfejcohnceaa
namespace Go.Proofs.Ytkilfejcohnceaa
open Go.RowKit

section
variable {w w' : World} {base : Nat} {e : TypeId} {k : IntKind} {zs : List Int}
theorem Ow.blk {A : Option Addr} {n c : Nat} (h : Ow w base e k (.slice A n c) zs) (hp : 0 < zs.length) :
    ∃ g, A = some ⟨g, 0, none⟩ ∧ base ≤ g ∧ g < w.heap.size ∧ (∀ j x, zs[j]? = some x → w.cell? ⟨g, j, none⟩ = some (.int k x)) ∧ (∀ j, w.frozen? ⟨g, j, none⟩ = false) := by
  obtain ⟨h1, h2⟩ := h
  rcases h2 with ⟨h2, h0⟩ | ⟨g, cap, cur, hv, hg, hh, hnc, hcm, hsz, htake⟩
  · omega
  · injection hv with hA hn hc
    subst hA
    subst hn
    subst hc
    have hO : w.ownsRow base e 1 (.slice (some ⟨g, 0, none⟩) zs.length c) zs.length (zs.map (Value.int k)) := ⟨h1, .inr ⟨g, c, cur, rfl, hg, hh, hnc, hcm, hsz, htake⟩⟩
    refine ⟨g, rfl, hg, (Array.getElem?_eq_some_iff.1 hh).1, fun j x hx => ?_, fun j => World.ownsRow.frozenAt hO j⟩
    have hj : j < zs.length := (List.getElem?_eq_some_iff.1 hx).1
    rw [World.ownsRow.cellAt hO j (by omega), List.getElem?_map, hx]; rfl
end
/-- k elements from both ends have changed places. -/
def RevAt (zs : List Int) (k : Nat) (ys : List Int) : Prop := ys.length = zs.length ∧ ∀ t, t < zs.length → ys[t]? = if t < k ∨ zs.length ≤ t + k then zs[zs.length - 1 - t]? else zs[t]?
theorem RevAt.zero (zs : List Int) : RevAt zs 0 zs := ⟨rfl, fun t ht => by rw [if_neg (by omega)]⟩
theorem RevAt.step {zs ys : List Int} {k : Nat} {a b : Int} (h : RevAt zs k ys) (hk : 2 * k + 1 < zs.length) (ha : ys[k]? = some a) (hb : ys[zs.length - 1 - k]? = some b) : RevAt zs (k + 1) ((ys.set k b).set (zs.length - 1 - k) a) := by
  obtain ⟨h1, h2⟩ := h
  have a2 := h2 k (by omega)
  have b2 := h2 (zs.length - 1 - k) (by omega)
  rw [if_neg (by omega)] at a2 b2
  refine ⟨by simp [h1], fun t ht => ?_⟩
  by_cases e2 : t = zs.length - 1 - k
  · subst e2
    rw [List.getElem?_set_self (by simp [h1]; omega), if_pos (by omega)]
    have : zs.length - 1 - (zs.length - 1 - k) = k := by omega
    rw [this, ← a2, ha]
  · rw [List.getElem?_set_ne (by omega)]
    by_cases e1 : t = k
    · subst e1
      rw [List.getElem?_set_self (by omega), if_pos (by omega), ← b2, hb]
    · rw [List.getElem?_set_ne (by omega), h2 t ht]
      by_cases e3 : t < k ∨ zs.length ≤ t + k
      · rw [if_pos e3, if_pos (by omega)]
      · rw [if_neg e3, if_neg (by omega)]
theorem RevAt.done {zs ys : List Int} {k : Nat} (h : RevAt zs k ys) (hk : zs.length ≤ 2 * k + 1) : ys = zs.reverse := by
  obtain ⟨h1, h2⟩ := h
  apply List.ext_getElem?
  intro t
  by_cases ht : t < zs.length
  · rw [h2 t ht, List.getElem?_reverse ht]
    by_cases e : t < k ∨ zs.length ≤ t + k
    · rw [if_pos e]
    · rw [if_neg e]
      congr 1
      omega
  · rw [List.getElem?_eq_none (by omega), List.getElem?_eq_none (by simp; omega)]
theorem RevAt.lt {zs ys : List Int} {k : Nat} (h : RevAt zs k ys) : ys.length = zs.length := h.1
/-- The order of a walk: what it leaves, from behind. -/
def OrderOf (f : FunV) (l : List Int) : Prop := ∃ mF lF, Dfs f [0] (List.replicate f.blocks.length false) [] mF lF ∧ l = lF.reverse
theorem OrderOf.one {f : FunV} {l l' : List Int} (h : OrderOf f l) (h' : OrderOf f l') : l = l' := by
  obtain ⟨m, x, h1, rfl⟩ := h
  obtain ⟨m', x', h2, rfl⟩ := h'
  rw [(h1.one h2).2]
end Go.Proofs.Ytkilfejcohnceaa
