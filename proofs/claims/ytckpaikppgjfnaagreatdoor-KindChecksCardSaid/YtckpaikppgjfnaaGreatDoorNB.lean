/- Plain mathematics: a walk over blocks, as a relation; it has one outcome; the same walk with a list of what isn't left yet. Condition: what comes next is there. -/
import Derived.Test.YtckpaikppgjfnaaGreatDoorNA
import Derived.Deep.RegionLaw
import Derived.Deep.RegionHeld3
import Derived.Deep.DrawnRows
import Derived.BigQuiet
import Derived.BigRegion
import Derived.Test.YtckpaikppgjfnaaGreatDoorMD
import Derived.Deep.LoopGhost
set_option linter.unusedSimpArgs false
set_option linter.unusedVariables false
namespace Go.Proofs.YtckpaikppgjfnaaGreatDoor

def metB (m : List Bool) (c : Int) : Bool := m.getD c.toNat false
def meet (m : List Bool) (c : Int) : List Bool := m.set c.toNat true
inductive Dfs (f : FunV) : List Int → List Bool → List Int → List Bool → List Int → Prop
  | nil (m l) : Dfs f [] m l m l
  | old {c cs m l m' l'} : metB m c = true → Dfs f cs m l m' l' → Dfs f (c :: cs) m l m' l'
  | new {c cs m l m1 l1 m' l'} : metB m c = false → Dfs f (nxt f c.toNat) (meet m c) l m1 l1 → Dfs f cs m1 (l1 ++ [c]) m' l' → Dfs f (c :: cs) m l m' l'
theorem Dfs.one {f : FunV} {cs : List Int} {m : List Bool} {l : List Int} {m1 m2 : List Bool} {l1 l2 : List Int} (h1 : Dfs f cs m l m1 l1) : Dfs f cs m l m2 l2 → m1 = m2 ∧ l1 = l2 := by
  induction h1 generalizing m2 l2 with
  | nil m l => intro h2; cases h2; exact ⟨rfl, rfl⟩
  | old hm _ ih =>
    intro h2
    cases h2 with
    | old _ h => exact ih h
    | new hf _ _ => rw [hm] at hf; cases hf
  | new hm _ _ ih1 ih2 =>
    intro h2
    cases h2 with
    | old hf _ => rw [hm] at hf; cases hf
    | new _ ha hb =>
      obtain ⟨rfl, rfl⟩ := ih1 ha
      exact ih2 hb
theorem count_meet {m : List Bool} {c : Int} (hc : c.toNat < m.length) (h : metB m c = false) : (meet m c).count false + 1 = m.count false := by
  unfold metB at h
  unfold meet
  generalize c.toNat = k at *
  clear c
  induction m generalizing k with
  | nil => simp at hc
  | cons a m ih =>
    cases k with
    | zero =>
      simp at h
      subst h
      simp
    | succ k =>
      have := ih k (by simpa using hc) (by simpa using h)
      cases a <;> simp <;> omega
theorem meet_len (m : List Bool) (c : Int) : (meet m c).length = m.length := by simp [meet]
theorem dfs_total {f : FunV} (hok : ∀ k v, v ∈ nxt f k → 0 ≤ v ∧ v < f.blocks.length) : ∀ (u : Nat) (m : List Bool) (cs : List Int) (l : List Int), m.length = f.blocks.length → (∀ c ∈ cs, 0 ≤ c ∧ c < f.blocks.length) → m.count false ≤ u → ∃ m' l', Dfs f cs m l m' l' ∧ m'.length = f.blocks.length ∧ m'.count false ≤ m.count false := by
  intro u
  induction u with
  | zero =>
    intro m cs
    induction cs with
    | nil => intro l hl _ _; exact ⟨m, l, .nil m l, hl, Nat.le_refl _⟩
    | cons c cs ih =>
      intro l hl hc hu
      by_cases hm : metB m c = true
      · obtain ⟨m', l', h, h1, h2⟩ := ih l hl (fun c h => hc c (List.mem_cons_of_mem _ h)) hu
        exact ⟨m', l', .old hm h, h1, h2⟩
      · have := hc c List.mem_cons_self
        have := count_meet (m := m) (c := c) (by omega) (Bool.eq_false_iff.2 hm)
        omega
  | succ u ihu =>
    intro m cs
    induction cs with
    | nil => intro l hl _ _; exact ⟨m, l, .nil m l, hl, Nat.le_refl _⟩
    | cons c cs ih =>
      intro l hl hc hu
      by_cases hm : metB m c = true
      · obtain ⟨m', l', h, h1, h2⟩ := ih l hl (fun c h => hc c (List.mem_cons_of_mem _ h)) hu
        exact ⟨m', l', .old hm h, h1, h2⟩
      · have hcr := hc c List.mem_cons_self
        have hmf := Bool.eq_false_iff.2 hm
        have hcnt := count_meet (m := m) (c := c) (by omega) hmf
        obtain ⟨m1, l1, h1, h2, h3⟩ := ihu (meet m c) (nxt f c.toNat) l (by rw [meet_len, hl]) (fun v hv => hok _ v hv) (by omega)
        obtain ⟨m', l', h4, h5, h6⟩ := ihu m1 cs (l1 ++ [c]) h2 (fun c h => hc c (List.mem_cons_of_mem _ h)) (by omega)
        exact ⟨m', l', .new hmf h1 h4, h5, by omega⟩

/-- The same walk under way: what isn't left yet (the last one on top) comes to its end so. -/
inductive FinS (f : FunV) : List (Int × List Int) → List Bool → List Int → List Bool → List Int → Prop
  | done (m l) : FinS f [] m l m l
  | go {b nx st m l m1 l1 m' l'} : Dfs f nx m l m1 l1 → FinS f st m1 (l1 ++ [b]) m' l' → FinS f ((b, nx) :: st) m l m' l'
theorem FinS.empty {f : FunV} {m : List Bool} {l : List Int} {m' : List Bool} {l' : List Int} (h : FinS f [] m l m' l') : m = m' ∧ l = l' := by cases h; exact ⟨rfl, rfl⟩
theorem FinS.pop {f : FunV} {b : Int} {st m l m' l'} (h : FinS f ((b, []) :: st) m l m' l') : FinS f st m (l ++ [b]) m' l' := by
  cases h with
  | go h1 h2 => cases h1; exact h2
theorem FinS.old {f : FunV} {b c : Int} {cs : List Int} {st m l m' l'} (h : FinS f ((b, c :: cs) :: st) m l m' l') (hm : metB m c = true) : FinS f ((b, cs) :: st) m l m' l' := by
  cases h with
  | go h1 h2 =>
    cases h1 with
    | old _ h => exact .go h h2
    | new hf _ _ => rw [hm] at hf; cases hf
theorem FinS.new {f : FunV} {b c : Int} {cs : List Int} {st m l m' l'} (h : FinS f ((b, c :: cs) :: st) m l m' l') (hm : metB m c = false) : FinS f ((c, nxt f c.toNat) :: (b, cs) :: st) (meet m c) l m' l' := by
  cases h with
  | go h1 h2 =>
    cases h1 with
    | old hf _ => rw [hm] at hf; cases hf
    | new _ ha hb => exact .go ha (.go hb h2)
/-- A walk from block c on. -/
theorem FinS.start {f : FunV} {c : Int} {m l m' l'} (h : Dfs f [c] m l m' l') (hm : metB m c = false) : FinS f [(c, nxt f c.toNat)] (meet m c) l m' l' := by
  cases h with
  | old hf _ => rw [hm] at hf; cases hf
  | new _ ha hb => cases hb; exact .go ha (.done _ _)
def openW (os : List (Int × List Int)) : Nat := (os.map (fun v => 1 + v.2.length)).sum
def walkM (m : List Bool) (os : List (Int × List Int)) : Nat := 4 * m.count false + openW os
theorem openW_app (xs ys : List (Int × List Int)) : openW (xs ++ ys) = openW xs + openW ys := by simp [openW]
theorem openW_one (b : Int) (nx : List Int) : openW [(b, nx)] = 1 + nx.length := by simp [openW]
theorem walkM_pop (m : List Bool) (os : List (Int × List Int)) (b : Int) : walkM m os < walkM m (os ++ [(b, [])]) := by
  unfold walkM; rw [openW_app, openW_one]; simp
theorem walkM_old (m : List Bool) (os : List (Int × List Int)) (b c : Int) (cs : List Int) : walkM m (os ++ [(b, cs)]) < walkM m (os ++ [(b, c :: cs)]) := by
  unfold walkM; rw [openW_app, openW_app, openW_one, openW_one]; simp
theorem walkM_new {f : FunV} {m : List Bool} (os : List (Int × List Int)) (b c : Int) (cs : List Int) (hc : c.toNat < m.length) (hm : metB m c = false) : walkM (meet m c) (os ++ [(b, cs)] ++ [(c, nxt f c.toNat)]) < walkM m (os ++ [(b, c :: cs)]) := by
  have h1 := count_meet hc hm
  have h2 := nxt_len f c.toNat
  unfold walkM
  rw [openW_app, openW_app, openW_app, openW_one, openW_one, openW_one, List.length_cons]
  omega
end Go.Proofs.YtckpaikppgjfnaaGreatDoor
namespace Go.Proofs.YtckpaikppgjfnaaGreatDoor
open Go.RowKit

def vCells (os : List (Int × Value)) : List Value := os.flatMap (fun p => [Value.int .i64 p.1, p.2])
theorem vCells_len (os : List (Int × Value)) : (vCells os).length = os.length * 2 := by
  induction os with
  | nil => rfl
  | cons p es ih => simp only [vCells, List.flatMap_cons, List.length_append, List.length_cons] at *; simp at *; omega
theorem vCells_app (os : List (Int × Value)) (p : Int × Value) : vCells (os ++ [p]) = vCells os ++ [Value.int .i64 p.1, p.2] := by simp [vCells]
theorem vCells_last (os : List (Int × Value)) (p : Int × Value) : (vCells (os ++ [p]))[os.length * 2]? = some (.int .i64 p.1) ∧ (vCells (os ++ [p]))[os.length * 2 + 1]? = some p.2 := by
  have h := vCells_len os
  rw [vCells_app]
  constructor
  · rw [List.getElem?_append_right (by omega), h]; simp
  · rw [List.getElem?_append_right (by omega), h]; simp
theorem vCells_set (os : List (Int × Value)) (p : Int × Value) (v : Value) : (vCells (os ++ [p])).set (os.length * 2 + 1) v = vCells (os ++ [(p.1, v)]) := by
  have h := vCells_len os
  rw [vCells_app, vCells_app, List.set_append_right (s := vCells os) _ _ (by omega), h]
  have e : os.length * 2 + 1 - os.length * 2 = 1 := by omega
  rw [e]
  rfl
section
variable {w w' : World} {base : Nat} {v : Value} {os : List (Int × Value)}
theorem Ow.kept' {e : TypeId} {k : IntKind} {zs : List Int} (h : Ow w base e k v zs) (hk : ∀ g, v.ownBlock = some g → w'.heap[g]? = w.heap[g]?) : Ow w' base e k v zs := by
  refine ⟨h.1, ?_⟩
  rcases h.2 with h2 | ⟨g, cap, cur, hv, hg, hh, r⟩
  · exact .inl h2
  · exact .inr ⟨g, cap, cur, hv, hg, (hk g (by rw [hv]; rfl)).trans hh, r⟩
theorem Ow.row' {e : TypeId} {k : IntKind} {zs : List Int} (h : Ow w base e k v zs) : ∀ g, v.ownBlock = some g → base ≤ g ∧ g < w.heap.size ∧ ∃ c, w.heap[g]? = some (.cells c e (0, 0)) := fun g hg => by
  rcases h.2 with ⟨rfl, -⟩ | ⟨g', cap, cur, rfl, hb, hh, -⟩
  · cases hg
  · simp [Value.ownBlock] at hg
    subst hg
    exact ⟨hb, (Array.getElem?_eq_some_iff.1 hh).1, cur, hh⟩
end
def Mut (hw bm : Nat) (vo vl : Value) (b : Nat) : Prop := b = hw ∨ b = bm ∨ vo.ownBlock = some b ∨ vl.ownBlock = some b
def VisOk (w : World) (M : Nat → Prop) (p : Int × Value) (q : Int × List Int) : Prop := p.1 = q.1 ∧ ∃ A c, p.2 = .slice A q.2.length c ∧ q.2.length ≤ c ∧ c ≤ 2 ∧ Sl w w.heap.size .i64 A q.2 ∧ ∀ b o, A = some ⟨b, o, none⟩ → 0 < q.2.length → ¬ M b
theorem VisOk.move {w w' : World} {M M' : Nat → Prop} {p : Int × Value} {q : Int × List Int} (h : VisOk w M p q) (hs : w.heap.size ≤ w'.heap.size) (hk : ∀ b, b < w.heap.size → ¬ M b → w'.heap[b]? = w.heap[b]?) (hM : ∀ b, b < w.heap.size → M' b → M b) : VisOk w' M' p q := by
  obtain ⟨h1, A, c, h2, h3, h4, h5, h6⟩ := h
  refine ⟨h1, A, c, h2, h3, h4, fun hp => ?_, fun b o hA hp hm => ?_⟩
  · obtain ⟨b, o, e, hb, hc⟩ := h5 hp
    exact ⟨b, o, e, by omega, fun j hj => (World.cell?_of_block (a := ⟨b, o + j, none⟩) (hk b hb (h6 b o e hp))).trans (hc j hj)⟩
  · obtain ⟨b', o', e, hb, -⟩ := h5 hp
    rw [hA] at e
    injection e with e
    injection e with e1 e2
    subst e1
    exact h6 b o hA hp (hM b hb hm)
section
variable {w w' : World} {base hw bm n : Nat} {fk fb fs vo vl : Value} {fp fr : Int} {m : List Bool} {os : List (Int × List Int)} {l : List Int} {ov : List (Int × Value)}
theorem Box.apart {w : World} {h g : Nat} {cs ds : Array Value} {T U : TypeId} (b : Box w h cs T) (c : w.heap[g]? = some (.cells ds U (0, 0))) (hT : T ≠ U) : h ≠ g := fun e => by
  subst e
  have := b.symm.trans c
  injection this with this
  injection this with _ h2
  exact hT h2
end
end Go.Proofs.YtckpaikppgjfnaaGreatDoor
namespace Go.Proofs.YtckpaikppgjfnaaGreatDoor
open Go.RowKit
section
variable {w w4 w5 : World} {base hw bm n : Nat} {fk fb fs vo vl v5 x : Value} {fp fr c : Int} {m : List Bool} {os : List (Int × List Int)} {l nx : List Int} {ov : List (Int × Value)}
end
end Go.Proofs.YtckpaikppgjfnaaGreatDoor
namespace Go.Proofs.YtckpaikppgjfnaaGreatDoor
open Go.RowKit

section
variable {w w4 w5 : World} {base hw bm n : Nat} {fk fb fs vo vl v5 x y : Value} {fp fr b : Int} {m : List Bool} {os : List (Int × List Int)} {l nx cs : List Int} {ov : List (Int × Value)} {g no cap : Nat}
end
end Go.Proofs.YtckpaikppgjfnaaGreatDoor
namespace Go.Proofs.YtckpaikppgjfnaaGreatDoor
open Go.RowKit
attribute [local go_sem ↓] Go.wp_at_zero Go.wp_at_succ

/-- append(v, y) at a step of a region that draws its order, v the call's own. -/
theorem step_append_int {P : Program} (w : World) {ops : Array Oper} {o : Oper} {a : Act} {K : Act → World → Prop} {Q : Exit → Act → World → Prop} {E : Prop} (hgd : o.guard = none) (s x : Operand) (t : TypeId)
    (ho : o.op = .call { callee := .builtin .append, args := #[s, x], argTypes := #[t, t] })
    (base : Nat) (i : TypeInfo) (z : Value) (ht : P.underlying t = some (.slice 3)) (hi : P.info? 3 = some i) (hz : i.zero = some z)
    (hsize : i.size = 1) (hby : i.bytes = 8) (hzs : z.cells.size = 1)
    (v : Value) (zs : List Int) (hs : a.eval s = v) (hown : Ow w base 3 .i64 v zs) (y : Int) (H : Nat) (hH : Box w H #[.int .i64 y] 3)
    (hx : a.eval x = .slice (some ⟨H, 0, none⟩) 1 1)
    (hroom : zs.length < 1000000) (hbase : base ≤ w.heap.size)
    (h : ∀ g cap w', Ow w' base 3 .i64 (.slice (some ⟨g, 0, none⟩) (zs.length + 1) cap) (zs ++ [y]) → w.grownBy w' v.ownBlock → (v.ownBlock = some g ∨ g = w.heap.size) → g < w'.heap.size → K (a.put o.dst (.slice (some ⟨g, 0, none⟩) (zs.length + 1) cap)) w') :
    if Region.wanted o (yielded ops a.tmps) = true then Oper.wp P o a w K Q else E :=
  step_append_lies w hgd s x t ho base 3 i z 1 8 ht hi hz hsize hby hzs (by omega) v zs.length (zs.map (Value.int .i64)) hs hown ⟨H, 0, none⟩ 1 1 [.int .i64 y] hx rfl
    (World.news_of_block hH) (by intro u hu; simp at hu; subst hu; rfl) (by omega) (by simp only [maxLen]; omega) (by omega) hbase w.heap.size rfl
    fun g cap w' h2 h3 h4 h5 => h g cap w' (by unfold Ow; rw [List.map_append, List.length_append]; exact h2) h3 h4 h5
end Go.Proofs.YtckpaikppgjfnaaGreatDoor
namespace Go.Proofs.YtckpaikppgjfnaaGreatDoor
open Go.RowKit
end Go.Proofs.YtckpaikppgjfnaaGreatDoor
namespace Go.Proofs.YtckpaikppgjfnaaGreatDoor
open Go.RowKit

theorem info_bool : (Tryz.prog.info? 4).map (fun i => (i.zero, i.size, i.bytes)) = some (some (.bool false), 1, 1) := by kernel_rfl
theorem madeCells_bool (n : Nat) : madeCells (Value.bool false).cells (n * 1) = ((List.replicate n false).map Value.bool).toArray := by
  unfold madeCells
  apply Array.ext
  · simp
  · intro i h1 h2
    simp [Value.cells, Nat.mod_one]
def StartsAt (f : FunV) : Prop := ∃ mF lF, Dfs f [0] (List.replicate f.blocks.length false) [] mF lF
theorem starts_at {f : FunV} (hok : FlowOk f) (h1 : 1 ≤ f.blocks.length) : StartsAt f := by
  obtain ⟨m', l', h, -⟩ := dfs_total hok.2.2 _ (List.replicate f.blocks.length false) [0] [] (by simp) (by intro c hc; simp at hc; subst hc; omega) (Nat.le_refl _)
  exact ⟨m', l', h⟩
end Go.Proofs.YtckpaikppgjfnaaGreatDoor
namespace Go.Proofs.YtckpaikppgjfnaaGreatDoor
open Go.RowKit

section
variable {w w' : World} {base : Nat} {e : TypeId} {k : IntKind} {zs : List Int}
theorem Ow.blk {A : Option Addr} {n c : Nat} (h : Ow w base e k (.slice A n c) zs) (hp : 0 < zs.length) :
    ∃ g, A = some ⟨g, 0, none⟩ ∧ base ≤ g ∧ g < w.heap.size ∧ (∀ j x, zs[j]? = some x → w.cell? ⟨g, j, none⟩ = some (.int k x)) ∧ (∀ j, w.frozen? ⟨g, j, none⟩ = false) := by
  obtain ⟨h1, h2⟩ := h
  rcases h2 with ⟨h2, h0⟩ | ⟨g, cap, cur, hv, hg, hh, hnc, hcm, hsz, htake⟩
  · omega
  · injection hv with hA hn hc
    subst hA
    subst hn
    subst hc
    have hO : w.ownsRow base e 1 (.slice (some ⟨g, 0, none⟩) zs.length c) zs.length (zs.map (Value.int k)) := ⟨h1, .inr ⟨g, c, cur, rfl, hg, hh, hnc, hcm, hsz, htake⟩⟩
    refine ⟨g, rfl, hg, (Array.getElem?_eq_some_iff.1 hh).1, fun j x hx => ?_, fun j => World.ownsRow.frozenAt hO j⟩
    have hj : j < zs.length := (List.getElem?_eq_some_iff.1 hx).1
    rw [World.ownsRow.cellAt hO j (by omega), List.getElem?_map, hx]; rfl
theorem Ow.putAt {g n c : Nat} (h : Ow w base e k (.slice (some ⟨g, 0, none⟩) n c) zs) (hn : zs.length = n) (j : Nat) (x : Int) :
    Ow (w.setCell ⟨g, j, none⟩ (.int k x)) base e k (.slice (some ⟨g, 0, none⟩) n c) (zs.set j x) := by
  subst hn
  have := (World.ownsRow.stored h j (.int k x)).1
  unfold Ow
  rw [List.map_set, List.length_set]
  exact this
end
/-- k elements from both ends have changed places. -/
def RevAt (zs : List Int) (k : Nat) (ys : List Int) : Prop := ys.length = zs.length ∧ ∀ t, t < zs.length → ys[t]? = if t < k ∨ zs.length ≤ t + k then zs[zs.length - 1 - t]? else zs[t]?
theorem RevAt.zero (zs : List Int) : RevAt zs 0 zs := ⟨rfl, fun t ht => by rw [if_neg (by omega)]⟩
theorem RevAt.step {zs ys : List Int} {k : Nat} {a b : Int} (h : RevAt zs k ys) (hk : 2 * k + 1 < zs.length) (ha : ys[k]? = some a) (hb : ys[zs.length - 1 - k]? = some b) : RevAt zs (k + 1) ((ys.set k b).set (zs.length - 1 - k) a) := by
  obtain ⟨h1, h2⟩ := h
  have a2 := h2 k (by omega)
  have b2 := h2 (zs.length - 1 - k) (by omega)
  rw [if_neg (by omega)] at a2 b2
  refine ⟨by simp [h1], fun t ht => ?_⟩
  by_cases e2 : t = zs.length - 1 - k
  · subst e2
    rw [List.getElem?_set_self (by simp [h1]; omega), if_pos (by omega)]
    have : zs.length - 1 - (zs.length - 1 - k) = k := by omega
    rw [this, ← a2, ha]
  · rw [List.getElem?_set_ne (by omega)]
    by_cases e1 : t = k
    · subst e1
      rw [List.getElem?_set_self (by omega), if_pos (by omega), ← b2, hb]
    · rw [List.getElem?_set_ne (by omega), h2 t ht]
      by_cases e3 : t < k ∨ zs.length ≤ t + k
      · rw [if_pos e3, if_pos (by omega)]
      · rw [if_neg e3, if_neg (by omega)]
theorem RevAt.done {zs ys : List Int} {k : Nat} (h : RevAt zs k ys) (hk : zs.length ≤ 2 * k + 1) : ys = zs.reverse := by
  obtain ⟨h1, h2⟩ := h
  apply List.ext_getElem?
  intro t
  by_cases ht : t < zs.length
  · rw [h2 t ht, List.getElem?_reverse ht]
    by_cases e : t < k ∨ zs.length ≤ t + k
    · rw [if_pos e]
    · rw [if_neg e]
      congr 1
      omega
  · rw [List.getElem?_eq_none (by omega), List.getElem?_eq_none (by simp; omega)]
theorem RevAt.lt {zs ys : List Int} {k : Nat} (h : RevAt zs k ys) : ys.length = zs.length := h.1
def RevL (w1 : World) (base g n c : Nat) (zs : List Int) (k : Nat) (wr : World) : Prop := ∃ ys, RevAt zs k ys ∧ Ow wr base 3 .i64 (.slice (some ⟨g, 0, none⟩) n c) ys ∧ Below base w1 wr
/-- The order of a walk: what it leaves, from behind. -/
def OrderOf (f : FunV) (l : List Int) : Prop := ∃ mF lF, Dfs f [0] (List.replicate f.blocks.length false) [] mF lF ∧ l = lF.reverse
theorem OrderOf.one {f : FunV} {l l' : List Int} (h : OrderOf f l) (h' : OrderOf f l') : l = l' := by
  obtain ⟨m, x, h1, rfl⟩ := h
  obtain ⟨m', x', h2, rfl⟩ := h'
  rw [(h1.one h2).2]
theorem Dfs.fewer {f : FunV} {cs : List Int} {m : List Bool} {l : List Int} {m' : List Bool} {l' : List Int} (h : Dfs f cs m l m' l') (hok : ∀ k v, v ∈ nxt f k → 0 ≤ v ∧ v < f.blocks.length) : m.length = f.blocks.length → (∀ c ∈ cs, 0 ≤ c ∧ c < f.blocks.length) → l'.length + m'.count false = l.length + m.count false ∧ m'.length = m.length := by
  induction h with
  | nil m l => intro _ _; exact ⟨rfl, rfl⟩
  | old hm _ ih => intro hl hc; exact ih hl (fun c h => hc c (List.mem_cons_of_mem _ h))
  | new hm h1 h2 ih1 ih2 =>
    intro hl hc
    have hcr := hc _ List.mem_cons_self
    obtain ⟨a1, a2⟩ := ih1 (by rw [meet_len, hl]) (fun v hv => hok _ v hv)
    obtain ⟨b1, b2⟩ := ih2 (by rw [a2, meet_len, hl]) (fun c h => hc c (List.mem_cons_of_mem _ h))
    have hcm := count_meet (by rw [hl]; omega) hm
    rw [List.length_append, List.length_singleton] at b1
    exact ⟨by omega, by rw [b2, a2, meet_len]⟩
theorem dfs_len {f : FunV} (hok : FlowOk f) (h1 : 1 ≤ f.blocks.length) {mF : List Bool} {lF : List Int} (h : Dfs f [0] (List.replicate f.blocks.length false) [] mF lF) : lF.length ≤ f.blocks.length := by
  have := (h.fewer hok.2.2 (by simp) (by intro c hc; simp at hc; subst hc; omega)).1
  rw [List.count_replicate_self, List.length_nil] at this
  omega
end Go.Proofs.YtckpaikppgjfnaaGreatDoor
