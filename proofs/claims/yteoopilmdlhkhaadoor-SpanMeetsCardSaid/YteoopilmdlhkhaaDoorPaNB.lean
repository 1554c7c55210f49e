/- Plain mathematics: a walk over blocks, as a relation; it has one outcome; the same walk with a list of what isn't left yet. Condition: what comes next is there. -/
import Derived.Test.YteoopilmdlhkhaaDoorPaNA
import Derived.Test.YteoopilmdlhkhaaDoorPaMD
import Derived.Deep.RegionLaw
import Derived.Deep.RegionHeld3
import Derived.Deep.DrawnRows
import Derived.BigQuiet
import Derived.BigRegion
import Derived.Deep.LoopGhost
set_option linter.unusedSimpArgs false
set_option linter.unusedVariables false
namespace Go.Proofs.YteoopilmdlhkhaaDoor

def metB (m : List Bool) (c : Int) : Bool := m.getD c.toNat false
def meet (m : List Bool) (c : Int) : List Bool := m.set c.toNat true
inductive Dfs (f : FunV) : List Int → List Bool → List Int → List Bool → List Int → Prop
  | nil (m l) : Dfs f [] m l m l
  | old {c cs m l m' l'} : metB m c = true → Dfs f cs m l m' l' → Dfs f (c :: cs) m l m' l'
  | new {c cs m l m1 l1 m' l'} : metB m c = false → Dfs f (nxt f c.toNat) (meet m c) l m1 l1 → Dfs f cs m1 (l1 ++ [c]) m' l' → Dfs f (c :: cs) m l m' l'
theorem Dfs.one {f : FunV} {cs : List Int} {m : List Bool} {l : List Int} {m1 m2 : List Bool} {l1 l2 : List Int} (h1 : Dfs f cs m l m1 l1) : Dfs f cs m l m2 l2 → m1 = m2 ∧ l1 = l2 := by
  induction h1 generalizing m2 l2 with
  | nil m l => intro h2; cases h2; exact ⟨rfl, rfl⟩
  | old hm _ ih =>
    intro h2
    cases h2 with
    | old _ h => exact ih h
    | new hf _ _ => rw [hm] at hf; cases hf
  | new hm _ _ ih1 ih2 =>
    intro h2
    cases h2 with
    | old hf _ => rw [hm] at hf; cases hf
    | new _ ha hb =>
      obtain ⟨rfl, rfl⟩ := ih1 ha
      exact ih2 hb
theorem count_meet {m : List Bool} {c : Int} (hc : c.toNat < m.length) (h : metB m c = false) : (meet m c).count false + 1 = m.count false := by
  unfold metB at h
  unfold meet
  generalize c.toNat = k at *
  clear c
  induction m generalizing k with
  | nil => simp at hc
  | cons a m ih =>
    cases k with
    | zero =>
      simp at h
      subst h
      simp
    | succ k =>
      have := ih k (by simpa using hc) (by simpa using h)
      cases a <;> simp <;> omega
theorem meet_len (m : List Bool) (c : Int) : (meet m c).length = m.length := by simp [meet]
theorem dfs_total {f : FunV} (hok : ∀ k v, v ∈ nxt f k → 0 ≤ v ∧ v < f.blocks.length) : ∀ (u : Nat) (m : List Bool) (cs : List Int) (l : List Int), m.length = f.blocks.length → (∀ c ∈ cs, 0 ≤ c ∧ c < f.blocks.length) → m.count false ≤ u → ∃ m' l', Dfs f cs m l m' l' ∧ m'.length = f.blocks.length ∧ m'.count false ≤ m.count false := by
  intro u
  induction u with
  | zero =>
    intro m cs
    induction cs with
    | nil => intro l hl _ _; exact ⟨m, l, .nil m l, hl, Nat.le_refl _⟩
    | cons c cs ih =>
      intro l hl hc hu
      by_cases hm : metB m c = true
      · obtain ⟨m', l', h, h1, h2⟩ := ih l hl (fun c h => hc c (List.mem_cons_of_mem _ h)) hu
        exact ⟨m', l', .old hm h, h1, h2⟩
      · have := hc c List.mem_cons_self
        have := count_meet (m := m) (c := c) (by omega) (Bool.eq_false_iff.2 hm)
        omega
  | succ u ihu =>
    intro m cs
    induction cs with
    | nil => intro l hl _ _; exact ⟨m, l, .nil m l, hl, Nat.le_refl _⟩
    | cons c cs ih =>
      intro l hl hc hu
      by_cases hm : metB m c = true
      · obtain ⟨m', l', h, h1, h2⟩ := ih l hl (fun c h => hc c (List.mem_cons_of_mem _ h)) hu
        exact ⟨m', l', .old hm h, h1, h2⟩
      · have hcr := hc c List.mem_cons_self
        have hmf := Bool.eq_false_iff.2 hm
        have hcnt := count_meet (m := m) (c := c) (by omega) hmf
        obtain ⟨m1, l1, h1, h2, h3⟩ := ihu (meet m c) (nxt f c.toNat) l (by rw [meet_len, hl]) (fun v hv => hok _ v hv) (by omega)
        obtain ⟨m', l', h4, h5, h6⟩ := ihu m1 cs (l1 ++ [c]) h2 (fun c h => hc c (List.mem_cons_of_mem _ h)) (by omega)
        exact ⟨m', l', .new hmf h1 h4, h5, by omega⟩

/-- The same walk under way: what isn't left yet (the last one on top) comes to its end so. -/
inductive FinS (f : FunV) : List (Int × List Int) → List Bool → List Int → List Bool → List Int → Prop
  | done (m l) : FinS f [] m l m l
  | go {b nx st m l m1 l1 m' l'} : Dfs f nx m l m1 l1 → FinS f st m1 (l1 ++ [b]) m' l' → FinS f ((b, nx) :: st) m l m' l'
theorem FinS.empty {f : FunV} {m : List Bool} {l : List Int} {m' : List Bool} {l' : List Int} (h : FinS f [] m l m' l') : m = m' ∧ l = l' := by cases h; exact ⟨rfl, rfl⟩
theorem FinS.pop {f : FunV} {b : Int} {st m l m' l'} (h : FinS f ((b, []) :: st) m l m' l') : FinS f st m (l ++ [b]) m' l' := by
  cases h with
  | go h1 h2 => cases h1; exact h2
theorem FinS.old {f : FunV} {b c : Int} {cs : List Int} {st m l m' l'} (h : FinS f ((b, c :: cs) :: st) m l m' l') (hm : metB m c = true) : FinS f ((b, cs) :: st) m l m' l' := by
  cases h with
  | go h1 h2 =>
    cases h1 with
    | old _ h => exact .go h h2
    | new hf _ _ => rw [hm] at hf; cases hf
theorem FinS.new {f : FunV} {b c : Int} {cs : List Int} {st m l m' l'} (h : FinS f ((b, c :: cs) :: st) m l m' l') (hm : metB m c = false) : FinS f ((c, nxt f c.toNat) :: (b, cs) :: st) (meet m c) l m' l' := by
  cases h with
  | go h1 h2 =>
    cases h1 with
    | old hf _ => rw [hm] at hf; cases hf
    | new _ ha hb => exact .go ha (.go hb h2)
/-- A walk from block c on. -/
theorem FinS.start {f : FunV} {c : Int} {m l m' l'} (h : Dfs f [c] m l m' l') (hm : metB m c = false) : FinS f [(c, nxt f c.toNat)] (meet m c) l m' l' := by
  cases h with
  | old hf _ => rw [hm] at hf; cases hf
  | new _ ha hb => cases hb; exact .go ha (.done _ _)
def openW (os : List (Int × List Int)) : Nat := (os.map (fun v => 1 + v.2.length)).sum
def walkM (m : List Bool) (os : List (Int × List Int)) : Nat := 4 * m.count false + openW os
theorem openW_app (xs ys : List (Int × List Int)) : openW (xs ++ ys) = openW xs + openW ys := by simp [openW]
theorem openW_one (b : Int) (nx : List Int) : openW [(b, nx)] = 1 + nx.length := by simp [openW]
theorem walkM_pop (m : List Bool) (os : List (Int × List Int)) (b : Int) : walkM m os < walkM m (os ++ [(b, [])]) := by
  unfold walkM; rw [openW_app, openW_one]; simp
theorem walkM_old (m : List Bool) (os : List (Int × List Int)) (b c : Int) (cs : List Int) : walkM m (os ++ [(b, cs)]) < walkM m (os ++ [(b, c :: cs)]) := by
  unfold walkM; rw [openW_app, openW_app, openW_one, openW_one]; simp
theorem walkM_new {f : FunV} {m : List Bool} (os : List (Int × List Int)) (b c : Int) (cs : List Int) (hc : c.toNat < m.length) (hm : metB m c = false) : walkM (meet m c) (os ++ [(b, cs)] ++ [(c, nxt f c.toNat)]) < walkM m (os ++ [(b, c :: cs)]) := by
  have h1 := count_meet hc hm
  have h2 := nxt_len f c.toNat
  unfold walkM
  rw [openW_app, openW_app, openW_app, openW_one, openW_one, openW_one, List.length_cons]
  omega
end Go.Proofs.YteoopilmdlhkhaaDoor
namespace Go.Proofs.YteoopilmdlhkhaaDoor
open Go.RowKit

def vCells (os : List (Int × Value)) : List Value := os.flatMap (fun p => [Value.int .i64 p.1, p.2])
theorem vCells_len (os : List (Int × Value)) : (vCells os).length = os.length * 2 := by
  induction os with
  | nil => rfl
  | cons p es ih => simp only [vCells, List.flatMap_cons, List.length_append, List.length_cons] at *; simp at *; omega
theorem vCells_app (os : List (Int × Value)) (p : Int × Value) : vCells (os ++ [p]) = vCells os ++ [Value.int .i64 p.1, p.2] := by simp [vCells]
theorem vCells_last (os : List (Int × Value)) (p : Int × Value) : (vCells (os ++ [p]))[os.length * 2]? = some (.int .i64 p.1) ∧ (vCells (os ++ [p]))[os.length * 2 + 1]? = some p.2 := by
  have h := vCells_len os
  rw [vCells_app]
  constructor
  · rw [List.getElem?_append_right (by omega), h]; simp
  · rw [List.getElem?_append_right (by omega), h]; simp
theorem vCells_set (os : List (Int × Value)) (p : Int × Value) (v : Value) : (vCells (os ++ [p])).set (os.length * 2 + 1) v = vCells (os ++ [(p.1, v)]) := by
  have h := vCells_len os
  rw [vCells_app, vCells_app, List.set_append_right (s := vCells os) _ _ (by omega), h]
  have e : os.length * 2 + 1 - os.length * 2 = 1 := by omega
  rw [e]
  rfl
/-- The slice value v is the call's own, from block 'base' on, and holds the visits os. -/
def OwV (w : World) (base : Nat) (v : Value) (os : List (Int × Value)) : Prop := w.ownsRow base 107 2 v os.length (vCells os)
section
variable {w w' : World} {base : Nat} {v : Value} {os : List (Int × Value)}
theorem OwV.nil (w : World) (base : Nat) : OwV w base (.slice none 0 0) [] := World.ownsRow_nil _ _ _ _
theorem OwV.kept (h : OwV w base v os) (hk : ∀ g, v.ownBlock = some g → w'.heap[g]? = w.heap[g]?) : OwV w' base v os := by
  refine ⟨h.1, ?_⟩
  rcases h.2 with h2 | ⟨g, cap, cur, hv, hg, hh, r⟩
  · exact .inl h2
  · exact .inr ⟨g, cap, cur, hv, hg, (hk g (by rw [hv]; rfl)).trans hh, r⟩
theorem OwV.lt (h : OwV w base v os) : ∀ k, v.ownBlock = some k → base ≤ k ∧ k < w.heap.size := World.ownsRow.lt h
theorem OwV.row (h : OwV w base v os) : ∀ g, v.ownBlock = some g → ∃ c, w.heap[g]? = some (.cells c 107 (0, 0)) := fun g hg => by
  rcases h.2 with ⟨rfl, -⟩ | ⟨g', cap, cur, rfl, -, hh, -⟩
  · cases hg
  · simp [Value.ownBlock] at hg
    subst hg
    exact ⟨cur, hh⟩
theorem Ow.kept' {e : TypeId} {k : IntKind} {zs : List Int} (h : Ow w base e k v zs) (hk : ∀ g, v.ownBlock = some g → w'.heap[g]? = w.heap[g]?) : Ow w' base e k v zs := by
  refine ⟨h.1, ?_⟩
  rcases h.2 with h2 | ⟨g, cap, cur, hv, hg, hh, r⟩
  · exact .inl h2
  · exact .inr ⟨g, cap, cur, hv, hg, (hk g (by rw [hv]; rfl)).trans hh, r⟩
theorem Ow.row' {e : TypeId} {k : IntKind} {zs : List Int} (h : Ow w base e k v zs) : ∀ g, v.ownBlock = some g → base ≤ g ∧ g < w.heap.size ∧ ∃ c, w.heap[g]? = some (.cells c e (0, 0)) := fun g hg => by
  rcases h.2 with ⟨rfl, -⟩ | ⟨g', cap, cur, rfl, hb, hh, -⟩
  · cases hg
  · simp [Value.ownBlock] at hg
    subst hg
    exact ⟨hb, (Array.getElem?_eq_some_iff.1 hh).1, cur, hh⟩
/-- What is on top: its block, and that its cells may be read and written. -/
theorem OwV.top {b : Int} {x : Value} (h : OwV w base v (os ++ [(b, x)])) : ∃ g cap, v = .slice (some ⟨g, 0, none⟩) (os.length + 1) cap ∧ os.length + 1 ≤ cap ∧ cap ≤ maxLen ∧ base ≤ g ∧ g < w.heap.size ∧
    w.cell? ⟨g, os.length * 2, none⟩ = some (.int .i64 b) ∧ w.cell? ⟨g, os.length * 2 + 1, none⟩ = some x ∧ w.frozen? ⟨g, os.length * 2 + 1, none⟩ = false := by
  have hl : (os ++ [(b, x)]).length = os.length + 1 := by simp
  have h' := h
  unfold OwV at h'
  rw [hl] at h'
  rcases h'.2 with ⟨-, h0⟩ | ⟨g, cap, cur, rfl, hg, hh, hnc, hcm, hsz, htake⟩
  · omega
  · have hv := vCells_last os (b, x)
    refine ⟨g, cap, rfl, hnc, hcm, hg, (Array.getElem?_eq_some_iff.1 hh).1, ?_, ?_, ?_⟩
    · rw [World.ownsRow.cellAt h' _ (by omega)]; exact hv.1
    · rw [World.ownsRow.cellAt h' _ (by omega)]; exact hv.2
    · simp [World.frozen?, hh]
theorem OwV.setTop {b : Int} {x y : Value} {g n cap : Nat} (h : OwV w base (.slice (some ⟨g, 0, none⟩) n cap) (os ++ [(b, x)])) : OwV (w.setCell ⟨g, os.length * 2 + 1, none⟩ y) base (.slice (some ⟨g, 0, none⟩) n cap) (os ++ [(b, y)]) := by
  have hl : ∀ z : Value, (os ++ [(b, z)]).length = os.length + 1 := fun z => by simp
  unfold OwV at *
  rw [hl] at *
  rcases h.2 with ⟨h0, -⟩ | ⟨g', cap', cur, hv, hg, hh, hnc, hcm, hsz, htake⟩
  · cases h0
  · injection hv with h1 h2 h3
    injection h1 with h1
    injection h1 with h1
    subst h1; subst h2; subst h3
    refine ⟨by rw [vCells_len, hl], .inr ⟨_, _, cur.setIfInBounds (os.length * 2 + 1) y, rfl, hg, heap_setCell_same w _ _ cur _ y hh, hnc, hcm, by simpa using hsz, ?_⟩⟩
    rw [← vCells_set os (b, x) y, ← htake, Array.toList_setIfInBounds, List.take_set]
theorem OwV.pop {b : Int} {x : Value} {g n cap : Nat} (h : OwV w base (.slice (some ⟨g, 0, none⟩) n cap) (os ++ [(b, x)])) : OwV w base (.slice (some ⟨g, 0, none⟩) os.length cap) os := by
  have hl : (os ++ [(b, x)]).length = os.length + 1 := by simp
  unfold OwV at *
  rw [hl] at h
  rcases h.2 with ⟨h0, -⟩ | ⟨g', cap', cur, hv, hg, hh, hnc, hcm, hsz, htake⟩
  · cases h0
  · injection hv with h1 h2 h3
    injection h1 with h1
    injection h1 with h1
    subst h1; subst h2; subst h3
    refine ⟨vCells_len os, .inr ⟨_, _, cur, rfl, hg, hh, by omega, hcm, hsz, ?_⟩⟩
    have e : cur.toList.take (os.length * 2) = (cur.toList.take ((os.length + 1) * 2)).take (os.length * 2) := by rw [List.take_take, Nat.min_eq_left (by omega)]
    rw [e, htake, vCells_app, List.take_append_of_le_length (by rw [vCells_len]; exact Nat.le_refl _), List.take_of_length_le (by rw [vCells_len]; exact Nat.le_refl _)]
end
theorem info_visit : (Tryd.prog.info? 107).map (fun i => (i.zero, i.size, i.bytes)) = some (some (.agg #[.int .i64 0, .slice none 0 0]), 2, 32) := by kernel_rfl
/-- append(v, visit{y1, y2}) at a step of a region that draws its order, v the call's own. -/
theorem step_append_visit {P : Program} (w : World) {ops : Array Oper} {o : Oper} {a : Act} {K : Act → World → Prop} {Q : Exit → Act → World → Prop} {E : Prop} (hgd : o.guard = none) (s x : Operand) (t : TypeId)
    (ho : o.op = .call { callee := .builtin .append, args := #[s, x], argTypes := #[t, t] })
    (base : Nat) (i : TypeInfo) (z : Value) (ht : P.underlying t = some (.slice 107)) (hi : P.info? 107 = some i) (hz : i.zero = some z)
    (hsize : i.size = 2) (hby : i.bytes = 32) (hzs : z.cells.size = 2)
    (v : Value) (os : List (Int × Value)) (hs : a.eval s = v) (hown : OwV w base v os) (y1 : Int) (y2 : Value) (h1 : y2.oneCell' = true) (H : Nat) (hH : Box w H #[.int .i64 y1, y2] 107)
    (hx : a.eval x = .slice (some ⟨H, 0, none⟩) 1 1)
    (hroom : os.length < 1000000) (hbase : base ≤ w.heap.size)
    (h : ∀ g cap w', OwV w' base (.slice (some ⟨g, 0, none⟩) (os.length + 1) cap) (os ++ [(y1, y2)]) → w.grownBy w' v.ownBlock → (v.ownBlock = some g ∨ g = w.heap.size) → g < w'.heap.size → K (a.put o.dst (.slice (some ⟨g, 0, none⟩) (os.length + 1) cap)) w') :
    if Region.wanted o (yielded ops a.tmps) = true then Oper.wp P o a w K Q else E :=
  step_append_lies w hgd s x t ho base 107 i z 2 32 ht hi hz hsize hby hzs (by omega) v os.length (vCells os) hs hown ⟨H, 0, none⟩ 1 1 [.int .i64 y1, y2] hx rfl
    (World.news_of_block hH) (by intro u hu; simp at hu; rcases hu with rfl | rfl; rfl; exact h1) (by omega) (by simp only [maxLen]; omega) (by omega) hbase w.heap.size rfl
    fun g cap w' h2 h3 h4 h5 => h g cap w' (by unfold OwV; rw [vCells_app, List.length_append]; exact h2) h3 h4 h5

def Mut (hw bm : Nat) (vo vl : Value) (b : Nat) : Prop := b = hw ∨ b = bm ∨ vo.ownBlock = some b ∨ vl.ownBlock = some b
def VisOk (w : World) (M : Nat → Prop) (p : Int × Value) (q : Int × List Int) : Prop := p.1 = q.1 ∧ ∃ A c, p.2 = .slice A q.2.length c ∧ q.2.length ≤ c ∧ c ≤ 2 ∧ Sl w w.heap.size .i64 A q.2 ∧ ∀ b o, A = some ⟨b, o, none⟩ → 0 < q.2.length → ¬ M b
theorem VisOk.move {w w' : World} {M M' : Nat → Prop} {p : Int × Value} {q : Int × List Int} (h : VisOk w M p q) (hs : w.heap.size ≤ w'.heap.size) (hk : ∀ b, b < w.heap.size → ¬ M b → w'.heap[b]? = w.heap[b]?) (hM : ∀ b, b < w.heap.size → M' b → M b) : VisOk w' M' p q := by
  obtain ⟨h1, A, c, h2, h3, h4, h5, h6⟩ := h
  refine ⟨h1, A, c, h2, h3, h4, fun hp => ?_, fun b o hA hp hm => ?_⟩
  · obtain ⟨b, o, e, hb, hc⟩ := h5 hp
    exact ⟨b, o, e, by omega, fun j hj => (World.cell?_of_block (a := ⟨b, o + j, none⟩) (hk b hb (h6 b o e hp))).trans (hc j hj)⟩
  · obtain ⟨b', o', e, hb, -⟩ := h5 hp
    rw [hA] at e
    injection e with e
    injection e with e1 e2
    subst e1
    exact h6 b o hA hp (hM b hb hm)
structure WalkP (w : World) (base hw bm n : Nat) (fk fb : Value) (fp fr : Int) (fs : Value) (m : List Bool) (os : List (Int × List Int)) (l : List Int) (vo vl : Value) (ov : List (Int × Value)) : Prop where
  box : Box w hw #[fk, fb, .int .i64 fp, .int .i64 fr, fs, .slice (some ⟨bm, 0, none⟩) n n, vo, vl] 83
  met : Box w bm (m.map Value.bool).toArray 4
  len : m.length = n
  opn : OwV w base vo ov
  lft : Ow w base 3 .i64 vl l
  vlen : ov.length = os.length
  vis : ∀ (i : Nat) p q, ov[i]? = some p → os[i]? = some q → VisOk w (Mut hw bm vo vl) p q
  hb : base ≤ hw ∧ base ≤ bm
section
variable {w w' : World} {base hw bm n : Nat} {fk fb fs vo vl : Value} {fp fr : Int} {m : List Bool} {os : List (Int × List Int)} {l : List Int} {ov : List (Int × Value)}
theorem Box.apart {w : World} {h g : Nat} {cs ds : Array Value} {T U : TypeId} (b : Box w h cs T) (c : w.heap[g]? = some (.cells ds U (0, 0))) (hT : T ≠ U) : h ≠ g := fun e => by
  subst e
  have := b.symm.trans c
  injection this with this
  injection this with _ h2
  exact hT h2
theorem WalkP.ne (h : WalkP w base hw bm n fk fb fp fr fs m os l vo vl ov) : hw ≠ bm ∧ vo.ownBlock ≠ some hw ∧ vo.ownBlock ≠ some bm ∧ vl.ownBlock ≠ some hw ∧ vl.ownBlock ≠ some bm ∧ ∀ g, vo.ownBlock = some g → vl.ownBlock ≠ some g := by
  refine ⟨h.box.apart h.met (by decide), fun e => ?_, fun e => ?_, fun e => ?_, fun e => ?_, fun g e1 e2 => ?_⟩
  · obtain ⟨c, hc⟩ := h.opn.row _ e; exact h.box.apart hc (by decide) rfl
  · obtain ⟨c, hc⟩ := h.opn.row _ e; exact h.met.apart hc (by decide) rfl
  · obtain ⟨-, -, c, hc⟩ := h.lft.row' _ e; exact h.box.apart hc (by decide) rfl
  · obtain ⟨-, -, c, hc⟩ := h.lft.row' _ e; exact h.met.apart hc (by decide) rfl
  · obtain ⟨c, hc⟩ := h.opn.row _ e1
    obtain ⟨-, -, d, hd⟩ := h.lft.row' _ e2
    exact Box.apart (cs := c) hc hd (by decide) rfl
theorem WalkP.below (h : WalkP w base hw bm n fk fb fp fr fs m os l vo vl ov) (hb : Below w.heap.size w w') : WalkP w' base hw bm n fk fb fp fr fs m os l vo vl ov where
  box := h.box.below hb
  met := h.met.below hb
  len := h.len
  opn := h.opn.kept fun g hg => hb.block g (h.opn.lt g hg).2
  lft := h.lft.kept' fun g hg => hb.block g (h.lft.row' g hg).2.1
  vlen := h.vlen
  vis := fun i p q hp hq => (h.vis i p q hp hq).move hb.size (fun b hlt _ => hb.block b hlt) (fun _ _ h => h)
  hb := h.hb
/-- A block is met. -/
theorem WalkP.mark (h : WalkP w base hw bm n fk fb fp fr fs m os l vo vl ov) (c : Nat) : WalkP (w.setCell ⟨bm, c, none⟩ (.bool true)) base hw bm n fk fb fp fr fs (m.set c true) os l vo vl ov := by
  obtain ⟨n1, n2, n3, n4, n5, n6⟩ := h.ne
  refine ⟨h.box.other n1, ?_, by simpa using h.len, h.opn.kept fun g hg => heap_setCell_other _ _ _ _ (fun e => n3 (by rw [hg]; exact congrArg some e)), h.lft.kept' fun g hg => heap_setCell_other _ _ _ _ (fun e => n5 (by rw [hg]; exact congrArg some e)), h.vlen,
    fun i p q hp hq => (h.vis i p q hp hq).move (by rw [World.size_setCell]; exact Nat.le_refl _) (fun b hlt hm => heap_setCell_other _ _ _ _ (fun e => hm (.inr (.inl e)))) (fun _ _ h => h), h.hb⟩
  have := h.met.set c (.bool true)
  simpa [List.map_set] using this
end
end Go.Proofs.YteoopilmdlhkhaaDoor
namespace Go.Proofs.YteoopilmdlhkhaaDoor
open Go.RowKit
attribute [local go_sem ↓] Go.wp_at_zero Go.wp_at_succ

theorem OwV.sl {w : World} {base : Nat} {v : Value} {os : List (Int × Value)} (h : OwV w base v os) : ∃ A c, v = .slice A os.length c ∧ os.length ≤ c ∧ c ≤ maxLen := by
  rcases h.2 with ⟨rfl, h0⟩ | ⟨g, cap, cur, rfl, hg, hh, hnc, hcm, hsz, htake⟩
  · exact ⟨none, 0, by rw [h0], by omega, by simp [maxLen]⟩
  · exact ⟨_, _, rfl, hnc, hcm⟩
section
variable {w w4 w5 : World} {base hw bm n : Nat} {fk fb fs vo vl v5 x : Value} {fp fr c : Int} {m : List Bool} {os : List (Int × List Int)} {l nx : List Int} {ov : List (Int × Value)}
theorem WalkP.push (h : WalkP w base hw bm n fk fb fp fr fs m os l vo vl ov) (hb4 : Below w.heap.size w w4) (hg : w4.grownBy w5 vo.ownBlock) (ho : OwV w5 base v5 (ov ++ [(c, x)])) (hv5 : v5.ownBlock = vo.ownBlock ∨ ∃ g, v5.ownBlock = some g ∧ w.heap.size ≤ g)
    (hx : VisOk w (Mut hw bm vo vl) (c, x) (c, nx)) : WalkP (w5.setCell ⟨hw, 6, none⟩ v5) base hw bm n fk fb fp fr fs m (os ++ [(c, nx)]) l v5 vl (ov ++ [(c, x)]) := by
  obtain ⟨n1, n2, n3, n4, n5, n6⟩ := h.ne
  have hwl := h.box.lt
  have hbl := h.met.lt
  have k5 : ∀ b, b < w.heap.size → vo.ownBlock ≠ some b → w5.heap[b]? = w.heap[b]? := fun b hb hn => (hg.block b (by have := hb4.size; omega) (fun e => hn e.symm)).trans (hb4.block b hb)
  have hv6 : ∀ b, b < w.heap.size → v5.ownBlock = some b → vo.ownBlock = some b := fun b hb e => by
    rcases hv5 with h5 | ⟨g, h5, h6⟩
    · rw [← h5]; exact e
    · rw [h5] at e; injection e with e; omega
  have kS : ∀ b, b < w.heap.size → b ≠ hw → vo.ownBlock ≠ some b → (w5.setCell ⟨hw, 6, none⟩ v5).heap[b]? = w.heap[b]? := fun b hb h1 h2 => (heap_setCell_other _ _ _ _ h1).trans (k5 b hb h2)
  have hsz : w.heap.size ≤ (w5.setCell ⟨hw, 6, none⟩ v5).heap.size := by rw [World.size_setCell]; have := hb4.size; have := hg.size; omega
  have hmv : ∀ p q, VisOk w (Mut hw bm vo vl) p q → VisOk (w5.setCell ⟨hw, 6, none⟩ v5) (Mut hw bm v5 vl) p q := fun p q hpq => hpq.move hsz (fun b hlt hm => kS b hlt (fun e => hm (.inl e)) (fun e => hm (.inr (.inr (.inl e))))) (fun b hlt hm => by
    rcases hm with hm | hm | hm | hm
    · exact .inl hm
    · exact .inr (.inl hm)
    · exact .inr (.inr (.inl (hv6 b hlt hm)))
    · exact .inr (.inr (.inr hm)))
  refine ⟨?_, (kS bm hbl (fun e => n1 e.symm) n3).trans h.met, h.len, ho.kept fun g hgv => heap_setCell_other _ _ _ _ (fun e => ?_), h.lft.kept' fun g hgv => kS g (h.lft.row' g hgv).2.1 (fun e => n4 (by rw [hgv, e])) (fun e => n6 g e hgv), by simp [h.vlen], fun i p q hp hq => ?_, h.hb⟩
  · have hb5 : Box w5 hw _ _ := (k5 hw hwl n2).trans h.box
    have := hb5.set 6 v5
    simpa using this
  · subst e
    exact n2 (hv6 _ hwl hgv)
  · by_cases hi : i < ov.length
    · rw [List.getElem?_append_left hi] at hp
      rw [List.getElem?_append_left (by rw [← h.vlen]; exact hi)] at hq
      exact hmv p q (h.vis i p q hp hq)
    · have hil : i = ov.length := by
        have := (List.getElem?_eq_some_iff.1 hp).1
        simp at this; omega
      subst hil
      rw [List.getElem?_append_right (Nat.le_refl _)] at hp
      rw [h.vlen, List.getElem?_append_right (Nat.le_refl _)] at hq
      simp at hp hq
      subst hp; subst hq
      exact hmv _ _ hx
end
set_option maxHeartbeats 1000000 in
set_option maxRecDepth 100000 in
theorem enter_any (f : FunV) (base hw bm : Nat) (fk fb fs vo vl : Value) (m : List Bool) (os : List (Int × List Int)) (l : List Int) (ov : List (Int × Value)) (c : Nat) (w : World) (B : Nat) (hB : B ≤ base) (hbase : base ≤ w.heap.size)
    (hi : FunI w (· < B) fk fb fs f) (hok : FlowOk f) (hc : c < f.blocks.length) (hW : WalkP w base hw bm f.blocks.length fk fb f.params f.result fs m os l vo vl ov) (hol : os.length < 1000) :
    Calls Tryd.prog 40 #[.pointer (some ⟨hw, 0, none⟩), .int .i64 (c : Int)] w fun e w' => e = .returned (.tuple #[]) ∧ (∃ vo' ov', WalkP w' base hw bm f.blocks.length fk fb f.params f.result fs (m.set c true) (os ++ [((c : Int), nxt f c)]) l vo' vl ov') ∧ Below base w w' := by
  have hbd := hW.hb
  obtain ⟨i0, hi0, hz0, hz1, hz2⟩ := info_parts info_visit
  have hM := hW.mark c
  have hb1 : Below base w (w.setCell ⟨bm, c, none⟩ (.bool true)) := (Below.refl _ _).setCell (p := ⟨bm, c, none⟩) hbd.2 _
  have hs1 : (w.setCell ⟨bm, c, none⟩ (.bool true)).heap.size = w.heap.size := World.size_setCell _ _ _
  have HNX := hide (fun (W : World) (hb : Below base w W) => (show Calls Tryd.prog 62 #[.agg #[fk, fb, .int .i64 f.params, .int .i64 f.result, fs], .int .i64 (c : Int)] W fun e w' => ∃ A c', e = .returned (.slice A (nxt f c).length c') ∧ Sl w' w'.heap.size .i64 A (nxt f c) ∧ (nxt f c).length ≤ c' ∧ c' ≤ 2 ∧ (∀ b o, A = some ⟨b, o, none⟩ → W.heap.size ≤ b) ∧ Below W.heap.size W w' by
    have h := fnextN_any fk fb fs f (c : Int) W B (by have := hb.size; omega) (hi.keep (Same'.of_below (hb.mono hB)) (fun _ h => h)) hok
    rw [nxtI_nat hc] at h
    exact h))
  have hmc : (m.map Value.bool).toArray[c]? = some (.bool (m.getD c false)) := by
    have : c < m.length := by rw [hW.len]; exact hc
    simp [List.getD, this]
  have e1 := (hW.met.cell c hmc).1
  have e2 := (hW.met.cell c hmc).2
  have b5 := (hW.box.cell 5 (v := .slice (some ⟨bm, 0, none⟩) f.blocks.length f.blocks.length) rfl).1
  obtain ⟨Ak, ck, rfl, -, -⟩ := hi.1.open'
  obtain ⟨Ab, cb, rfl, -, -⟩ := hi.2.1.open'
  obtain ⟨As, cs, rfl, -, -⟩ := hi.2.2.1.open'
  have hvl := hW.vlen
  have hblen := hok.1
  have hnl := nxt_len f c
  obtain ⟨nx, hnx⟩ : ∃ nx, nxt f c = nx := ⟨_, rfl⟩
  rw [hnx] at HNX hnl ⊢
  obtain ⟨nl, hnl'⟩ : ∃ nl, nx.length = nl := ⟨_, rfl⟩
  have HNL := hide hnl'
  rw [hnl'] at HNX hnl
  have HI := hide hi0
  have HM := hide hM
  have HB1 := hide hb1
  obtain ⟨Ao, co, rfl, -, -⟩ := hM.opn.sl
  obtain ⟨no, hno⟩ : ∃ no, ov.length = no := ⟨_, rfl⟩
  have HNO := hide hno
  rw [hno] at HM
  have HBH := hide (show base ≤ hw ∧ base ≤ bm from hbd)
  have hwl := hW.box.lt
  have hbl := hW.met.lt
  have hci : (0 : Int) ≤ (c : Int) := by omega
  generalize f.blocks.length = n at *
  have hcn : (c : Int) < (n : Int) := by omega
  generalize m.getD c false = mb at *
  generalize f.kinds.length = lk, f.base.length = lb, f.params = fp, f.result = fr at *
  have HOL := hide (show ov.length < 1000 by rw [hvl]; exact hol)
  clear hi hok hW hM hb1 hi0 hnx hnl' hno hmc hvl hol
  go_enter Tryd.func40, Tryd.ntmps40
  go_upto_region 1 with (fail)
  obtain ⟨w1, hw1⟩ : ∃ w1, w1 = w.setCell ⟨bm, c, none⟩ (.bool true) := ⟨_, rfl⟩
  rw [← hw1] at HM HB1 hs1 ⊢
  clear hw1 e1 e2 b5
  have bx := HM.out.box
  have x0 := (bx.cell 0 (v := .slice Ak lk ck) rfl).1
  have x1 := (bx.cell 1 (v := .slice Ab lb cb) rfl).1
  have x2 := (bx.cell 2 (v := .int .i64 fp) rfl).1
  have x3 := (bx.cell 3 (v := .int .i64 fr) rfl).1
  have x4 := (bx.cell 4 (v := .slice As n cs) rfl).1
  have x6 := (bx.cell 6 (v := .slice Ao no co) rfl).1
  have hwl1 : hw < w1.heap.size := by omega
  have HBX := hide bx
  have hbs1 : base ≤ w1.heap.size := by omega
  clear bx hbase hwl hbl hs1
  go_region_law
    (first
      | (refine step_append_visit (w3.alloc (.cells #[.int .i64 (c : Int), .slice A3 nl c3] 107)) (by rfl) _ _ _ (by rfl) base i0 _ Tryd.underlying81 HI.out hz0 hz1 hz2 rfl (.slice Ao no co) ov (by rfl) ((HM.out.opn.kept (fun g hg => HB3.out.block g (HM.out.opn.lt g hg).2)).kept (fun g hg => Below.heap_alloc _ _ _ (by have := (HM.out.opn.lt g hg).2; omega))) (c : Int) (.slice A3 nl c3) rfl w3.heap.size (Box.new w3 _ _) (by rfl) (by have := HOL.out; omega) (by simp only [World.size_alloc]; omega) ?_; intro g5 cap5 w5 ho5 hg5 hv5 hl5; have y6 := (hg5.cell_far ⟨hw, 6, none⟩ (by simp; omega) (Ne.symm hne)).trans ((World.cell?_alloc_lt w3 _ ⟨hw, 6, none⟩ (by simp; omega)).trans z6); have y6f := (hg5.frozen_far ⟨hw, 6, none⟩ (by simp; omega) (Ne.symm hne)).trans ((World.frozen?_of_block (a := ⟨hw, 6, none⟩) (w := w3) (Below.heap_alloc w3 _ hw (by omega))).trans z6f))
      | (rw [if_pos (by rfl)]; go_simp; go_at_call 62; refine (HNX.out (w1.drewN 1) (below_drewN HB1.out 1)).mono ?_; rintro e w3 ⟨A3, c3, rfl, hs3, hl3, hm3, hn3, hb0⟩; have hb3 : Below w1.heap.size w1 w3 := ⟨hb0.os, hb0.tape, hb0.output, hb0.size, hb0.block⟩; have hz3 := hb3.size; have hwl3 : hw < w3.heap.size := (by omega); have bx3 := HBX.out.below hb3; have z6 := (bx3.cell 6 (v := .slice Ao no co) rfl).1; have z6f := (bx3.cell 6 (v := .slice Ao no co) rfl).2; have hne := HM.out.ne.2.1; have HB3 := hide hb3; have HS3 := hide hs3; have HN3 := hide (show ∀ b o, A3 = some ⟨b, o, none⟩ → w1.heap.size ≤ b from hn3); clear hb0 hb3 bx3 hs3 hn3))
  all_goals
    have HVO := hide (show VisOk w3 (Mut hw bm (.slice Ao no co) vl) ((c : Int), .slice A3 nl c3) ((c : Int), nx) from ⟨rfl, A3, c3, by rw [HNL.out], by rw [HNL.out]; exact hl3, hm3, HS3.out, fun b o hA _ hm => by
      have h1 := HN3.out b o hA
      have h2 := HM.out.box.lt
      have h3 := HM.out.met.lt
      rcases hm with hm | hm | hm | hm
      · omega
      · omega
      · have := (HM.out.opn.lt b hm).2; omega
      · have := (HM.out.lft.row' b hm).2.1; omega⟩)
    have HE := hide ((HM.out.below HB3.out).push ((Below.refl _ _).alloc (Nat.le_refl _) _) hg5 ho5 (by
      rcases hv5 with h | h
      · exact .inl (by rw [h]; rfl)
      · exact .inr ⟨g5, rfl, by rw [h, World.size_alloc]; omega⟩) HVO.out)
    have HBF := hide ((((HB1.out.trans (HB3.out.mono hbs1)).alloc (by omega) (.cells #[.int .i64 (c : Int), .slice A3 nl c3] 107)).grown hg5 (by simp only [World.size_alloc]; omega) (fun k hk => (HM.out.opn.lt k hk).1)).setCell (p := ⟨hw, 6, none⟩) HBH.out.1 (.slice (some ⟨g5, 0, none⟩) (ov.length + 1) cap5))
    go_end0
    exact ⟨rfl, ⟨_, _, HE.out⟩, HBF.out⟩
end Go.Proofs.YteoopilmdlhkhaaDoor
namespace Go.Proofs.YteoopilmdlhkhaaDoor
open Go.RowKit

section
variable {w w4 w5 : World} {base hw bm n : Nat} {fk fb fs vo vl v5 x y : Value} {fp fr b : Int} {m : List Bool} {os : List (Int × List Int)} {l nx cs : List Int} {ov : List (Int × Value)} {g no cap : Nat}
theorem WalkP.left (h : WalkP w base hw bm n fk fb fp fr fs m os l vo vl ov) (hb4 : Below w.heap.size w w4) (hg : w4.grownBy w5 vl.ownBlock) (ho : Ow w5 base 3 .i64 v5 (l ++ [b])) (hv5 : v5.ownBlock = vl.ownBlock ∨ ∃ g, v5.ownBlock = some g ∧ w.heap.size ≤ g) :
    WalkP (w5.setCell ⟨hw, 7, none⟩ v5) base hw bm n fk fb fp fr fs m os (l ++ [b]) vo v5 ov := by
  obtain ⟨n1, n2, n3, n4, n5, n6⟩ := h.ne
  have hwl := h.box.lt
  have hbl := h.met.lt
  have k5 : ∀ b, b < w.heap.size → vl.ownBlock ≠ some b → w5.heap[b]? = w.heap[b]? := fun b hb hn => (hg.block b (by have := hb4.size; omega) (fun e => hn e.symm)).trans (hb4.block b hb)
  have hv6 : ∀ b, b < w.heap.size → v5.ownBlock = some b → vl.ownBlock = some b := fun b hb e => by
    rcases hv5 with h5 | ⟨g, h5, h6⟩
    · rw [← h5]; exact e
    · rw [h5] at e; injection e with e; omega
  have kS : ∀ b, b < w.heap.size → b ≠ hw → vl.ownBlock ≠ some b → (w5.setCell ⟨hw, 7, none⟩ v5).heap[b]? = w.heap[b]? := fun b hb h1 h2 => (heap_setCell_other _ _ _ _ h1).trans (k5 b hb h2)
  have hsz : w.heap.size ≤ (w5.setCell ⟨hw, 7, none⟩ v5).heap.size := by rw [World.size_setCell]; have := hb4.size; have := hg.size; omega
  refine ⟨?_, (kS bm hbl (fun e => n1 e.symm) n5).trans h.met, h.len, h.opn.kept fun g hgv => kS g (h.opn.lt g hgv).2 (fun e => n2 (by rw [hgv, e])) (n6 g hgv), ho.kept' fun g hgv => heap_setCell_other _ _ _ _ (fun e => ?_), h.vlen, fun i p q hp hq => (h.vis i p q hp hq).move hsz (fun b hlt hm => kS b hlt (fun e => hm (.inl e)) (fun e => hm (.inr (.inr (.inr e))))) (fun b hlt hm => ?_), h.hb⟩
  · have hb5 : Box w5 hw _ _ := (k5 hw hwl n4).trans h.box
    have := hb5.set 7 v5
    simpa using this
  · subst e
    exact n4 (hv6 _ hwl hgv)
  · rcases hm with hm | hm | hm | hm
    · exact .inl hm
    · exact .inr (.inl hm)
    · exact .inr (.inr (.inl hm))
    · exact .inr (.inr (.inr (hv6 b hlt hm)))
theorem WalkP.drop (h : WalkP w base hw bm n fk fb fp fr fs m (os ++ [(b, nx)]) l (.slice (some ⟨g, 0, none⟩) no cap) vl (ov ++ [(b, x)])) :
    WalkP (w.setCell ⟨hw, 6, none⟩ (.slice (some ⟨g, 0, none⟩) ov.length cap)) base hw bm n fk fb fp fr fs m os l (.slice (some ⟨g, 0, none⟩) ov.length cap) vl ov := by
  obtain ⟨n1, n2, n3, n4, n5, n6⟩ := h.ne
  have hvl : ov.length = os.length := by have := h.vlen; simp at this; exact this
  have kS : ∀ b, b ≠ hw → (w.setCell ⟨hw, 6, none⟩ (.slice (some ⟨g, 0, none⟩) ov.length cap)).heap[b]? = w.heap[b]? := fun b h1 => heap_setCell_other _ _ _ _ h1
  refine ⟨?_, (kS bm (fun e => n1 e.symm)).trans h.met, h.len, h.opn.pop.kept fun g' hgv => kS g' (fun e => n2 (by rw [← e]; exact hgv)), h.lft.kept' fun g hgv => kS g (fun e => n4 (by rw [hgv, e])), hvl, fun i p q hp hq => ?_, h.hb⟩
  · have := h.box.set 6 (.slice (some ⟨g, 0, none⟩) ov.length cap)
    simpa using this
  · have hi := (List.getElem?_eq_some_iff.1 hp).1
    exact (h.vis i p q (by rw [List.getElem?_append_left hi]; exact hp) (by rw [List.getElem?_append_left (by omega)]; exact hq)).move (by rw [World.size_setCell]; exact Nat.le_refl _) (fun b hlt hm => kS b (fun e => hm (.inl e))) (fun b hlt hm => hm)
theorem WalkP.later (h : WalkP w base hw bm n fk fb fp fr fs m (os ++ [(b, nx)]) l (.slice (some ⟨g, 0, none⟩) no cap) vl (ov ++ [(b, x)])) (hy : VisOk w (Mut hw bm (.slice (some ⟨g, 0, none⟩) no cap) vl) (b, y) (b, cs)) :
    WalkP (w.setCell ⟨g, ov.length * 2 + 1, none⟩ y) base hw bm n fk fb fp fr fs m (os ++ [(b, cs)]) l (.slice (some ⟨g, 0, none⟩) no cap) vl (ov ++ [(b, y)]) := by
  obtain ⟨n1, n2, n3, n4, n5, n6⟩ := h.ne
  have hvl : ov.length = os.length := by have := h.vlen; simp at this; exact this
  have kS : ∀ b, b ≠ g → (w.setCell ⟨g, ov.length * 2 + 1, none⟩ y).heap[b]? = w.heap[b]? := fun b h1 => heap_setCell_other _ _ _ _ h1
  have hmv : ∀ p q, VisOk w (Mut hw bm (.slice (some ⟨g, 0, none⟩) no cap) vl) p q → VisOk (w.setCell ⟨g, ov.length * 2 + 1, none⟩ y) (Mut hw bm (.slice (some ⟨g, 0, none⟩) no cap) vl) p q := fun p q hpq =>
    hpq.move (by rw [World.size_setCell]; exact Nat.le_refl _) (fun b hlt hm => kS b (fun e => hm (.inr (.inr (.inl (by rw [e]; rfl)))))) (fun b hlt hm => hm)
  refine ⟨(kS hw (fun e => n2 (by rw [e]; rfl))).trans h.box, (kS bm (fun e => n3 (by rw [e]; rfl))).trans h.met, h.len, h.opn.setTop, h.lft.kept' fun g' hgv => kS g' (fun e => n6 g rfl (by rw [← e]; exact hgv)), by simp [hvl], fun i p q hp hq => ?_, h.hb⟩
  by_cases hi : i < ov.length
  · rw [List.getElem?_append_left hi] at hp
    rw [List.getElem?_append_left (by omega)] at hq
    exact hmv p q (h.vis i p q (by rw [List.getElem?_append_left hi]; exact hp) (by rw [List.getElem?_append_left (by omega)]; exact hq))
  · have hil : i = ov.length := by
      have := (List.getElem?_eq_some_iff.1 hp).1
      simp at this; omega
    subst hil
    rw [List.getElem?_append_right (Nat.le_refl _)] at hp
    rw [hvl, List.getElem?_append_right (Nat.le_refl _)] at hq
    simp at hp hq
    subst hp; subst hq
    exact hmv _ _ hy
/-- What is on top. -/
theorem WalkP.top (h : WalkP w base hw bm n fk fb fp fr fs m (os ++ [(b, nx)]) l vo vl ov) : ∃ ov0 A c g cap, ov = ov0 ++ [(b, .slice A nx.length c)] ∧ vo = .slice (some ⟨g, 0, none⟩) (ov0.length + 1) cap ∧ ov0.length = os.length ∧ ov0.length + 1 ≤ cap ∧ cap ≤ maxLen ∧
    base ≤ g ∧ g < w.heap.size ∧ w.cell? ⟨g, ov0.length * 2, none⟩ = some (.int .i64 b) ∧ w.cell? ⟨g, ov0.length * 2 + 1, none⟩ = some (.slice A nx.length c) ∧ w.frozen? ⟨g, ov0.length * 2 + 1, none⟩ = false ∧
    nx.length ≤ c ∧ c ≤ 2 ∧ Sl w w.heap.size .i64 A nx ∧ ∀ b o, A = some ⟨b, o, none⟩ → 0 < nx.length → ¬ Mut hw bm vo vl b := by
  have hvl := h.vlen
  simp only [List.length_append, List.length_singleton] at hvl
  obtain ⟨ov0, p, rfl⟩ : ∃ ov0 p, ov = ov0 ++ [p] := by
    refine ⟨ov.dropLast, ov.getLast (fun e => by rw [e] at hvl; simp at hvl), ?_⟩
    rw [List.dropLast_concat_getLast]
  have hl : ov0.length = os.length := by simp at hvl; exact hvl
  obtain ⟨h1, A, c, h2, h3, h4, h5, h6⟩ := h.vis ov0.length p (b, nx) (by simp) (by rw [hl]; simp)
  obtain ⟨p1, p2⟩ := p
  simp only at h1 h2
  subst h1
  subst h2
  obtain ⟨g, cap, rfl, q1, q2, q3, q4, q5, q6, q7⟩ := h.opn.top
  exact ⟨ov0, A, c, g, cap, rfl, rfl, hl, q1, q2, q3, q4, q5, q6, q7, h3, h4, h5, h6⟩
end
end Go.Proofs.YteoopilmdlhkhaaDoor
namespace Go.Proofs.YteoopilmdlhkhaaDoor
open Go.RowKit
attribute [local go_sem ↓] Go.wp_at_zero Go.wp_at_succ

/-- append(v, y) at a step of a region that draws its order, v the call's own. -/
theorem step_append_int {P : Program} (w : World) {ops : Array Oper} {o : Oper} {a : Act} {K : Act → World → Prop} {Q : Exit → Act → World → Prop} {E : Prop} (hgd : o.guard = none) (s x : Operand) (t : TypeId)
    (ho : o.op = .call { callee := .builtin .append, args := #[s, x], argTypes := #[t, t] })
    (base : Nat) (i : TypeInfo) (z : Value) (ht : P.underlying t = some (.slice 3)) (hi : P.info? 3 = some i) (hz : i.zero = some z)
    (hsize : i.size = 1) (hby : i.bytes = 8) (hzs : z.cells.size = 1)
    (v : Value) (zs : List Int) (hs : a.eval s = v) (hown : Ow w base 3 .i64 v zs) (y : Int) (H : Nat) (hH : Box w H #[.int .i64 y] 3)
    (hx : a.eval x = .slice (some ⟨H, 0, none⟩) 1 1)
    (hroom : zs.length < 1000000) (hbase : base ≤ w.heap.size)
    (h : ∀ g cap w', Ow w' base 3 .i64 (.slice (some ⟨g, 0, none⟩) (zs.length + 1) cap) (zs ++ [y]) → w.grownBy w' v.ownBlock → (v.ownBlock = some g ∨ g = w.heap.size) → g < w'.heap.size → K (a.put o.dst (.slice (some ⟨g, 0, none⟩) (zs.length + 1) cap)) w') :
    if Region.wanted o (yielded ops a.tmps) = true then Oper.wp P o a w K Q else E :=
  step_append_lies w hgd s x t ho base 3 i z 1 8 ht hi hz hsize hby hzs (by omega) v zs.length (zs.map (Value.int .i64)) hs hown ⟨H, 0, none⟩ 1 1 [.int .i64 y] hx rfl
    (World.news_of_block hH) (by intro u hu; simp at hu; subst hu; rfl) (by omega) (by simp only [maxLen]; omega) (by omega) hbase w.heap.size rfl
    fun g cap w' h2 h3 h4 h5 => h g cap w' (by unfold Ow; rw [List.map_append, List.length_append]; exact h2) h3 h4 h5
set_option maxHeartbeats 1000000 in
set_option maxRecDepth 100000 in
theorem step_pop (base hw bm n : Nat) (fk fb fs vo vl : Value) (fp fr b : Int) (m : List Bool) (os : List (Int × List Int)) (l : List Int) (ov : List (Int × Value)) (w : World) (hbase : base ≤ w.heap.size)
    (hW : WalkP w base hw bm n fk fb fp fr fs m (os ++ [(b, [])]) l vo vl ov) (hol : os.length < 1000) (hln : l.length < 1000) :
    Calls Tryd.prog 41 #[.pointer (some ⟨hw, 0, none⟩)] w fun e w' => e = .returned (.tuple #[]) ∧ (∃ vo' vl' ov', WalkP w' base hw bm n fk fb fp fr fs m os (l ++ [b]) vo' vl' ov') ∧ Below base w w' := by
  obtain ⟨i0, hi0, hz0, hz1, hz2⟩ := info_parts info_i64
  obtain ⟨ov0, A, c, g, cap, rfl, rfl, hl0, hcap, hcm, hbg, hgl, t0, t1, t1f, -, hc2, hs, hM⟩ := hW.top
  obtain ⟨Al, cl, rfl, hcl, hclm, -⟩ := hW.lft.sl
  have hbh := hW.hb.1
  have hwl := hW.box.lt
  have hgne : g ≠ hw := fun e => hW.ne.2.1 (by rw [e]; rfl)
  have HW := hide hW
  have HI := hide hi0
  obtain ⟨no, hno⟩ : ∃ no, ov0.length = no := ⟨_, rfl⟩
  have HNO := hide hno
  rw [hno] at hcap hl0 t0 t1 t1f HW
  have hno1 : no < 1000 := by omega
  have HLN := hide (show l.length < 1000000 by omega)
  have b6 := (HW.out.box.cell 6 (v := .slice (some ⟨g, 0, none⟩) (no + 1) cap) rfl).1
  have b7 := (HW.out.box.cell 7 (v := .slice Al l.length cl) rfl).1
  have hcl2 : cap ≤ 9223372036854775807 := by simp only [maxLen] at hcm; omega
  have e1 : IntKind.i64.wrap ((no : Int) + 1 - 1) = (no : Int) := by rw [Int.add_sub_cancel]; exact IntWalk.i64_in _ ⟨by omega, by omega⟩
  have hi1 : (0 : Int) ≤ (no : Int) := by omega
  have hi2 : (no : Int) < (no : Int) + 1 := by omega
  clear hi0 hW hno hs hM t1f hln hol hl0 hcm hcl hclm
  simp only [List.length_nil] at t1
  go_enter Tryd.func41, Tryd.ntmps41
  go_wp2_with fail
  go_quiet (fail)
  go_wp2_with fail
  obtain ⟨w1, hw1⟩ : ∃ w1, w1 = w.drewN nq := ⟨_, rfl⟩
  have HB1 := hide (show Below base w w1 by rw [hw1]; exact below_drewN (Below.refl _ _) nq)
  have HW1 := hide (show WalkP w1 base hw bm n fk fb fp fr fs m (os ++ [(b, [])]) l (.slice (some ⟨g, 0, none⟩) (no + 1) cap) (.slice Al l.length cl) (ov0 ++ [(b, .slice A 0 c)]) by rw [hw1]; exact HW.out.below (below_drewN (Below.refl _ _) nq))
  have s1 : w1.heap.size = w.heap.size := by rw [hw1]; rfl
  have t0' : w1.cell? ⟨g, no * 2, none⟩ = some (.int .i64 b) := by rw [hw1]; exact t0
  rw [← hw1]
  clear hw1 t0 t1 b6 b7 HW
  have b6 := (HW1.out.box.cell 6 (v := .slice (some ⟨g, 0, none⟩) (no + 1) cap) rfl).1
  have b7 := (HW1.out.box.cell 7 (v := .slice Al l.length cl) rfl).1
  have hwl1 : hw < w1.heap.size := by omega
  have hgl1 : g < w1.heap.size := by omega
  have hbs1 : base ≤ w1.heap.size := by omega
  clear s1 hwl hgl hbase
  go_region_law
    (first
      | (refine step_append_int ((w1.drewN 1).alloc (.cells #[.int .i64 b] 3)) (by rfl) _ _ _ (by rfl) base i0 _ Tryd.underlying26 HI.out hz0 hz1 hz2 rfl (.slice Al l.length cl) l (by rfl) ((HW1.out.lft.drewN 1).alloc _) b w1.heap.size (Box.new (w1.drewN 1) _ _) (by rfl) HLN.out (by simp only [World.size_alloc]; exact Nat.le_succ_of_le hbs1) ?_; intro g5 cap5 w5 ho5 hg5 hv5 hl5; have hne := HW1.out.ne.2.2.2.1; have y7 := (hg5.cell_far ⟨hw, 7, none⟩ (by simp only [World.size_alloc]; exact Nat.lt_succ_of_lt hwl1) (Ne.symm hne)).trans ((World.cell?_alloc_lt (w1.drewN 1) _ ⟨hw, 7, none⟩ hwl1).trans b7); have y7f := (hg5.frozen_far ⟨hw, 7, none⟩ (by simp only [World.size_alloc]; exact Nat.lt_succ_of_lt hwl1) (Ne.symm hne)).trans ((World.frozen?_of_block (a := ⟨hw, 7, none⟩) (w := w1.drewN 1) (Below.heap_alloc (w1.drewN 1) _ hw hwl1)).trans (HW1.out.box.cell 7 (v := .slice Al l.length cl) rfl).2)))
  all_goals
    have HW2 := hide ((HW1.out.below (below_drewN (Below.refl _ _) 1)).left (w4 := (w1.drewN 1).alloc (.cells #[.int .i64 b] 3)) ((Below.refl _ _).alloc (Nat.le_refl _) _) hg5 ho5 (by
      rcases hv5 with h | h
      · exact .inl (by rw [h]; rfl)
      · exact .inr ⟨g5, rfl, by rw [h, World.size_alloc]; exact Nat.le_succ _⟩))
    have HB2 := hide (((((HB1.out.trans (below_drewN (Below.refl base w1) 1)).alloc hbs1 (.cells #[.int .i64 b] 3)).grown hg5 (by simp only [World.size_alloc]; exact Nat.le_succ_of_le hbs1) (fun k hk => (HW1.out.lft.row' k hk).1)).setCell (p := ⟨hw, 7, none⟩) hbh (.slice (some ⟨g5, 0, none⟩) (l.length + 1) cap5)))
    obtain ⟨w6, hw6⟩ : ∃ w6, w6 = w5.setCell ⟨hw, 7, none⟩ (.slice (some ⟨g5, 0, none⟩) (l.length + 1) cap5) := ⟨_, rfl⟩
    rw [← hw6] at HW2 HB2 ⊢
    clear hw6 hg5 ho5 hv5 hl5 y7 y7f b6 b7 hne t0'
    have b6 := (HW2.out.box.cell 6 (v := .slice (some ⟨g, 0, none⟩) (no + 1) cap) rfl).1
    have b6f := (HW2.out.box.cell 6 (v := .slice (some ⟨g, 0, none⟩) (no + 1) cap) rfl).2
    have hcp : no ≤ cap := by omega
    have hcpi : (no : Int) ≤ (cap : Int) := by omega
    go_wp2_with fail
    go_region
    all_goals
      have HW3 := hide ((HW2.out.below (below_drewN (Below.refl _ _) 1)).drop)
      rw [HNO.out] at HW3
      have HB3 := hide ((below_drewN HB2.out 1).setCell (p := ⟨hw, 6, none⟩) hbh (.slice (some ⟨g, 0, none⟩) no cap))
      go_wp2
      refine bodyPost_ret (results_none rfl _ _ _) rfl ?_
      exact ⟨rfl, ⟨_, _, _, HW3.out⟩, HB3.out⟩
end Go.Proofs.YteoopilmdlhkhaaDoor
namespace Go.Proofs.YteoopilmdlhkhaaDoor
open Go.RowKit
attribute [local go_sem ↓] Go.wp_at_zero Go.wp_at_succ

set_option maxHeartbeats 2000000 in
set_option maxRecDepth 100000 in
theorem step_old (base hw bm n : Nat) (fk fb fs vo vl : Value) (fp fr b : Int) (c : Nat) (cs : List Int) (m : List Bool) (os : List (Int × List Int)) (l : List Int) (ov : List (Int × Value)) (w : World) (hbase : base ≤ w.heap.size)
    (hW : WalkP w base hw bm n fk fb fp fr fs m (os ++ [(b, (c : Int) :: cs)]) l vo vl ov) (hol : os.length < 1000) (hc : c < n) (hm : m.getD c false = true) :
    Calls Tryd.prog 41 #[.pointer (some ⟨hw, 0, none⟩)] w fun e w' => e = .returned (.tuple #[]) ∧ (∃ vo' vl' ov', WalkP w' base hw bm n fk fb fp fr fs m (os ++ [(b, cs)]) l vo' vl' ov') ∧ Below base w w' := by
  obtain ⟨ov0, A, c3, g, cap, rfl, rfl, hl0, hcap, hcm, hbg, hgl, t0, t1, t1f, hnc, hc2, hs, hM⟩ := hW.top
  have hbh := hW.hb.1
  have hwl := hW.box.lt
  have hbl := hW.met.lt
  obtain ⟨b3, o3, rfl, hb3, hc3⟩ := hs (by simp)
  have k0 := hc3 0 (by simp)
  simp only [Nat.add_zero, List.getD_cons_zero] at k0
  have hgb3 : b3 ≠ g := fun e => hM b3 o3 rfl (by simp) (.inr (.inr (.inl (by rw [e]; rfl))))
  obtain ⟨no, hno⟩ : ∃ no, ov0.length = no := ⟨_, rfl⟩
  have HNO := hide hno
  have HLAT := hide (fun (W : World) (y : Value) (hb : Below w.heap.size w W) (hy : VisOk W (Mut hw bm (.slice (some ⟨g, 0, none⟩) (ov0.length + 1) cap) vl) (b, y) (b, cs)) => (hW.below hb).later (y := y) (cs := cs) hy)
  have HVO := hide (fun (W : World) (hb : Below w.heap.size w W) (o' c' : Nat) (h1 : cs.length ≤ c') (h2 : c' ≤ 2) (h3 : 0 < cs.length → o' = o3 + 1) => (show VisOk W (Mut hw bm (.slice (some ⟨g, 0, none⟩) (ov0.length + 1) cap) vl) (b, .slice (some ⟨b3, o', none⟩) cs.length c') (b, cs) from ⟨rfl, _, _, rfl, h1, h2, ((hs.below hb).more hb.size).drop (i := 1) (fun hl b o he => by
      injection he with he
      injection he with e1 e2
      rw [h3 (by simp at hl; omega), e1, e2]), fun b' o'' he hp => by
      injection he with he
      injection he with e1 e2
      subst e1
      exact hM _ o3 rfl (by simp)⟩))
  rw [hno] at hcap hl0 t0 t1 t1f HLAT HVO
  have hno1 : no < 1000 := by omega
  have hmc : (m.map Value.bool).toArray[c]? = some (.bool (m.getD c false)) := by
    have : c < m.length := by rw [hW.len]; exact hc
    simp [List.getD, this]
  have mc := (hW.met.cell c hmc).1
  have b5 := (hW.box.cell 5 (v := .slice (some ⟨bm, 0, none⟩) n n) rfl).1
  have b6 := (hW.box.cell 6 (v := .slice (some ⟨g, 0, none⟩) (ov0.length + 1) cap) rfl).1
  rw [hno] at b6
  have hgne : g ≠ hw := fun e => hW.ne.2.1 (by rw [e]; rfl)
  have hgbm : g ≠ bm := fun e => hW.ne.2.2.1 (by rw [e]; rfl)
  have hcl2 : cap ≤ 9223372036854775807 := by simp only [maxLen] at hcm; omega
  have e1 : IntKind.i64.wrap ((no : Int) + 1 - 1) = (no : Int) := by rw [Int.add_sub_cancel]; exact IntWalk.i64_in _ ⟨by omega, by omega⟩
  have hi1 : (0 : Int) ≤ (no : Int) := by omega
  have hi2 : (no : Int) < (no : Int) + 1 := by omega
  have hci : (0 : Int) ≤ (c : Int) := by omega
  have hcn : (c : Int) < (n : Int) := by omega
  have hgw : hw ≠ g := fun e => hgne e.symm
  have hgm : bm ≠ g := fun e => hgbm e.symm
  rw [show m.getD c false = true from hm] at mc
  obtain ⟨ncs, hncs⟩ : ∃ ncs, cs.length = ncs := ⟨_, rfl⟩
  simp only [List.length_cons, hncs] at hnc t1
  rw [hncs] at HVO
  have h3 : (ncs = 0 ∧ c3 = 1) ∨ (ncs = 0 ∧ c3 = 2) ∨ (ncs = 1 ∧ c3 = 2) := by omega
  have HW := hide hW
  clear hW hno hs hM hc3 hmc hnc hc2 hncs hcm hl0 hm
  have hwsz : base ≤ w.heap.size := hbase
  rcases h3 with ⟨rfl, rfl⟩ | ⟨rfl, rfl⟩ | ⟨rfl, rfl⟩
  all_goals
    go_enter Tryd.func41, Tryd.ntmps41
    go_wp2_with fail
    go_quiet (fail)
    go_wp2_with fail
    go_end0
    first
      | exact ⟨rfl, ⟨_, _, _, (HLAT.out (w.drewN nq) _ (below_drewN (Below.refl _ _) nq) (HVO.out (w.drewN nq) (below_drewN (Below.refl _ _) nq) o3 0 (by omega) (by omega) (by omega)))⟩, (below_drewN (Below.refl base w) nq).setCell (p := ⟨g, no * 2 + 1, none⟩) hbg _⟩
      | exact ⟨rfl, ⟨_, _, _, (HLAT.out (w.drewN nq) _ (below_drewN (Below.refl _ _) nq) (HVO.out (w.drewN nq) (below_drewN (Below.refl _ _) nq) (o3 + 1) 1 (by omega) (by omega) (by omega)))⟩, (below_drewN (Below.refl base w) nq).setCell (p := ⟨g, no * 2 + 1, none⟩) hbg _⟩
set_option maxHeartbeats 2000000 in
set_option maxRecDepth 100000 in
theorem step_new (f : FunV) (base hw bm : Nat) (fk fb fs vo vl : Value) (b : Int) (c : Nat) (cs : List Int) (m : List Bool) (os : List (Int × List Int)) (l : List Int) (ov : List (Int × Value)) (w : World) (B : Nat) (hB : B ≤ base) (hbase : base ≤ w.heap.size)
    (hi : FunI w (· < B) fk fb fs f) (hok : FlowOk f)
    (hW : WalkP w base hw bm f.blocks.length fk fb f.params f.result fs m (os ++ [(b, (c : Int) :: cs)]) l vo vl ov) (hol : os.length < 900) (hc : c < f.blocks.length) (hm : m.getD c false = false) :
    Calls Tryd.prog 41 #[.pointer (some ⟨hw, 0, none⟩)] w fun e w' => e = .returned (.tuple #[]) ∧ (∃ vo' vl' ov', WalkP w' base hw bm f.blocks.length fk fb f.params f.result fs (m.set c true) (os ++ [(b, cs)] ++ [((c : Int), nxt f c)]) l vo' vl' ov') ∧ Below base w w' := by
  have HEN := hide (fun (W : World) (vo : Value) (ov : List (Int × Value)) (hb : Below base w W) (hW : WalkP W base hw bm f.blocks.length fk fb f.params f.result fs m (os ++ [(b, cs)]) l vo vl ov) => enter_any f base hw bm fk fb fs vo vl m (os ++ [(b, cs)]) l ov c W B hB (by have := hb.size; omega) (hi.keep (Same'.of_below (hb.mono hB)) (fun _ h => h)) hok hc hW (by simp; omega))
  clear hi hok
  obtain ⟨nx, hnx⟩ : ∃ nx, nxt f c = nx := ⟨_, rfl⟩
  rw [hnx] at HEN ⊢
  clear hnx
  generalize f.blocks.length = n, f.params = fp, f.result = fr at *
  obtain ⟨ov0, A, c3, g, cap, rfl, rfl, hl0, hcap, hcm, hbg, hgl, t0, t1, t1f, hnc, hc2, hs, hM⟩ := hW.top
  have hbh := hW.hb.1
  have hwl := hW.box.lt
  have hbl := hW.met.lt
  obtain ⟨b3, o3, rfl, hb3, hc3⟩ := hs (by simp)
  have k0 := hc3 0 (by simp)
  simp only [Nat.add_zero, List.getD_cons_zero] at k0
  have hgb3 : b3 ≠ g := fun e => hM b3 o3 rfl (by simp) (.inr (.inr (.inl (by rw [e]; rfl))))
  obtain ⟨no, hno⟩ : ∃ no, ov0.length = no := ⟨_, rfl⟩
  have HNO := hide hno
  have HLAT := hide (fun (W : World) (y : Value) (hb : Below w.heap.size w W) (hy : VisOk W (Mut hw bm (.slice (some ⟨g, 0, none⟩) (ov0.length + 1) cap) vl) (b, y) (b, cs)) => (hW.below hb).later (y := y) (cs := cs) hy)
  have HVO := hide (fun (W : World) (hb : Below w.heap.size w W) (o' c' : Nat) (h1 : cs.length ≤ c') (h2 : c' ≤ 2) (h3 : 0 < cs.length → o' = o3 + 1) => (show VisOk W (Mut hw bm (.slice (some ⟨g, 0, none⟩) (ov0.length + 1) cap) vl) (b, .slice (some ⟨b3, o', none⟩) cs.length c') (b, cs) from ⟨rfl, _, _, rfl, h1, h2, ((hs.below hb).more hb.size).drop (i := 1) (fun hl b o he => by
      injection he with he
      injection he with e1 e2
      rw [h3 (by simp at hl; omega), e1, e2]), fun b' o'' he hp => by
      injection he with he
      injection he with e1 e2
      subst e1
      exact hM _ o3 rfl (by simp)⟩))
  rw [hno] at hcap hl0 t0 t1 t1f HLAT HVO
  have hno1 : no < 1000 := by omega
  have hmc : (m.map Value.bool).toArray[c]? = some (.bool (m.getD c false)) := by
    have : c < m.length := by rw [hW.len]; exact hc
    simp [List.getD, this]
  have mc := (hW.met.cell c hmc).1
  have b5 := (hW.box.cell 5 (v := .slice (some ⟨bm, 0, none⟩) n n) rfl).1
  have b6 := (hW.box.cell 6 (v := .slice (some ⟨g, 0, none⟩) (ov0.length + 1) cap) rfl).1
  rw [hno] at b6
  have hgne : g ≠ hw := fun e => hW.ne.2.1 (by rw [e]; rfl)
  have hgbm : g ≠ bm := fun e => hW.ne.2.2.1 (by rw [e]; rfl)
  have hcl2 : cap ≤ 9223372036854775807 := by simp only [maxLen] at hcm; omega
  have e1 : IntKind.i64.wrap ((no : Int) + 1 - 1) = (no : Int) := by rw [Int.add_sub_cancel]; exact IntWalk.i64_in _ ⟨by omega, by omega⟩
  have hi1 : (0 : Int) ≤ (no : Int) := by omega
  have hi2 : (no : Int) < (no : Int) + 1 := by omega
  have hci : (0 : Int) ≤ (c : Int) := by omega
  have hcn : (c : Int) < (n : Int) := by omega
  have hgw : hw ≠ g := fun e => hgne e.symm
  have hgm : bm ≠ g := fun e => hgbm e.symm
  rw [show m.getD c false = false from hm] at mc
  obtain ⟨ncs, hncs⟩ : ∃ ncs, cs.length = ncs := ⟨_, rfl⟩
  simp only [List.length_cons, hncs] at hnc t1
  rw [hncs] at HVO
  have h3 : (ncs = 0 ∧ c3 = 1) ∨ (ncs = 0 ∧ c3 = 2) ∨ (ncs = 1 ∧ c3 = 2) := by omega
  have HW := hide hW
  clear hW hno hs hM hc3 hmc hnc hc2 hncs hcm hl0 hm
  rcases h3 with ⟨rfl, rfl⟩ | ⟨rfl, rfl⟩ | ⟨rfl, rfl⟩
  all_goals
    go_enter Tryd.func41, Tryd.ntmps41
    go_wp2_with fail
    go_quiet (fail)
    go_wp2_with (first
      | (go_at_call 40; refine (HEN.out _ _ _ ((below_drewN (Below.refl base w) nq).setCell (p := ⟨g, no * 2 + 1, none⟩) hbg (.slice (some ⟨b3, o3, none⟩) 0 0)) (HLAT.out (w.drewN nq) _ (below_drewN (Below.refl _ _) nq) (HVO.out (w.drewN nq) (below_drewN (Below.refl _ _) nq) o3 0 (by omega) (by omega) (by omega)))).mono ?_; rintro e w3 ⟨rfl, ⟨vo', ov', hE⟩, hbE⟩; have HE := hide hE; have HBE := hide (((below_drewN (Below.refl base w) nq).setCell (p := ⟨g, no * 2 + 1, none⟩) hbg (.slice (some ⟨b3, o3, none⟩) 0 0)).trans hbE); clear hE hbE)
      | (go_at_call 40; refine (HEN.out _ _ _ ((below_drewN (Below.refl base w) nq).setCell (p := ⟨g, no * 2 + 1, none⟩) hbg (.slice (some ⟨b3, o3 + 1, none⟩) 0 1)) (HLAT.out (w.drewN nq) _ (below_drewN (Below.refl _ _) nq) (HVO.out (w.drewN nq) (below_drewN (Below.refl _ _) nq) (o3 + 1) 1 (by omega) (by omega) (by omega)))).mono ?_; rintro e w3 ⟨rfl, ⟨vo', ov', hE⟩, hbE⟩; have HE := hide hE; have HBE := hide (((below_drewN (Below.refl base w) nq).setCell (p := ⟨g, no * 2 + 1, none⟩) hbg (.slice (some ⟨b3, o3 + 1, none⟩) 0 1)).trans hbE); clear hE hbE)
      | (go_at_call 40; refine (HEN.out _ _ _ ((below_drewN (Below.refl base w) nq).setCell (p := ⟨g, no * 2 + 1, none⟩) hbg (.slice (some ⟨b3, o3 + 1, none⟩) 1 1)) (HLAT.out (w.drewN nq) _ (below_drewN (Below.refl _ _) nq) (HVO.out (w.drewN nq) (below_drewN (Below.refl _ _) nq) (o3 + 1) 1 (by omega) (by omega) (by omega)))).mono ?_; rintro e w3 ⟨rfl, ⟨vo', ov', hE⟩, hbE⟩; have HE := hide hE; have HBE := hide (((below_drewN (Below.refl base w) nq).setCell (p := ⟨g, no * 2 + 1, none⟩) hbg (.slice (some ⟨b3, o3 + 1, none⟩) 1 1)).trans hbE); clear hE hbE))
    go_end0
    exact ⟨rfl, ⟨_, _, _, HE.out⟩, HBE.out⟩
end Go.Proofs.YteoopilmdlhkhaaDoor
namespace Go.Proofs.YteoopilmdlhkhaaDoor
open Go.RowKit

theorem info_bool : (Tryd.prog.info? 4).map (fun i => (i.zero, i.size, i.bytes)) = some (some (.bool false), 1, 1) := by kernel_rfl
def WLoop (w1 : World) (base hw bm : Nat) (f : FunV) (fk fb fs : Value) (mF : List Bool) (lF : List Int) (k : Nat) (wr : World) : Prop :=
  ∃ m os l vo vl ov, k = walkM m os ∧ WalkP wr base hw bm f.blocks.length fk fb f.params f.result fs m os l vo vl ov ∧ FinS f os.reverse m l mF lF ∧ os.length + l.length + m.count false = f.blocks.length ∧ (∀ q ∈ os, ∀ v ∈ q.2, 0 ≤ v ∧ v < (f.blocks.length : Int)) ∧ Below base w1 wr
def Stepped (w1 : World) (base hw bm : Nat) (f : FunV) (fk fb fs : Value) (mF : List Bool) (lF : List Int) (k : Nat) (e : Ending) (w' : World) : Prop := e = .returned (.tuple #[]) ∧ ∃ k', k' < k ∧ WLoop w1 base hw bm f fk fb fs mF lF k' w'
theorem step_all (w1 : World) (f : FunV) (base hw bm : Nat) (fk fb fs vo vl : Value) (b : Int) (nx : List Int) (m : List Bool) (os : List (Int × List Int)) (l : List Int) (ov : List (Int × Value)) (mF : List Bool) (lF : List Int) (w : World) (B : Nat) (hB : B ≤ base) (hbw1 : base ≤ w1.heap.size)
    (hi : FunI w1 (· < B) fk fb fs f) (hok : FlowOk f) (hW : WalkP w base hw bm f.blocks.length fk fb f.params f.result fs m (os ++ [(b, nx)]) l vo vl ov) (hF : FinS f (os ++ [(b, nx)]).reverse m l mF lF)
    (hcnt : (os ++ [(b, nx)]).length + l.length + m.count false = f.blocks.length) (hin : ∀ q ∈ os ++ [(b, nx)], ∀ v ∈ q.2, 0 ≤ v ∧ v < (f.blocks.length : Int)) (hb : Below base w1 w) :
    Calls Tryd.prog 41 #[.pointer (some ⟨hw, 0, none⟩)] w (Stepped w1 base hw bm f fk fb fs mF lF (walkM m (os ++ [(b, nx)]))) := by
  have hls := hok.1
  have hbase : base ≤ w.heap.size := by have := hb.size; omega
  rw [List.reverse_append, List.reverse_singleton, List.singleton_append] at hF
  simp only [List.length_append, List.length_singleton] at hcnt
  have hinO : ∀ q ∈ os, ∀ v ∈ q.2, 0 ≤ v ∧ v < (f.blocks.length : Int) := fun q hq => hin q (List.mem_append_left _ hq)
  have hinT := hin (b, nx) (List.mem_append_right _ (List.mem_singleton.2 rfl))
  cases nx with
  | nil =>
    refine (step_pop base hw bm _ fk fb fs vo vl _ _ b m os l ov w hbase hW (by omega) (by omega)).mono fun e w' ⟨he, ⟨vo', vl', ov', hW'⟩, hb'⟩ => ?_
    exact ⟨he, _, walkM_pop m os b, m, os, l ++ [b], vo', vl', ov', rfl, hW', hF.pop, by simp only [List.length_append, List.length_singleton]; omega, hinO, hb.trans hb'⟩
  | cons c cs =>
    have hcr := hinT c (List.mem_cons_self)
    obtain ⟨cn, rfl⟩ : ∃ cn : Nat, c = cn := ⟨c.toNat, by omega⟩
    have hcn : cn < f.blocks.length := by omega
    have hmet : metB m (cn : Int) = m.getD cn false := by unfold metB; rw [Int.toNat_natCast]
    have hinC : ∀ q ∈ os ++ [(b, cs)], ∀ v ∈ q.2, 0 ≤ v ∧ v < (f.blocks.length : Int) := fun q hq => by
      rcases List.mem_append.1 hq with h | h
      · exact hinO q h
      · rw [List.mem_singleton] at h
        subst h
        exact fun v hv => hinT v (List.mem_cons_of_mem _ hv)
    by_cases hm : m.getD cn false = true
    · refine (step_old base hw bm _ fk fb fs vo vl _ _ b cn cs m os l ov w hbase hW (by omega) hcn hm).mono fun e w' ⟨he, ⟨vo', vl', ov', hW'⟩, hb'⟩ => ?_
      exact ⟨he, _, walkM_old m os b cn cs, m, os ++ [(b, cs)], l, vo', vl', ov', rfl, hW', by rw [List.reverse_append, List.reverse_singleton, List.singleton_append]; exact hF.old (by rw [hmet]; exact hm), by simp only [List.length_append, List.length_singleton]; omega, hinC, hb.trans hb'⟩
    · have hmf := Bool.eq_false_iff.2 hm
      have hmm : meet m (cn : Int) = m.set cn true := by unfold meet; rw [Int.toNat_natCast]
      have hcm := count_meet (m := m) (c := (cn : Int)) (by rw [Int.toNat_natCast, hW.len]; exact hcn) (by rw [hmet]; exact hmf)
      refine (step_new f base hw bm fk fb fs vo vl b cn cs m os l ov w B hB hbase (hi.keep (Same'.of_below (hb.mono hB)) (fun _ h => h)) hok hW (by omega) hcn hmf).mono fun e w' ⟨he, ⟨vo', vl', ov', hW'⟩, hb'⟩ => ?_
      have hwm := walkM_new (f := f) (m := m) os b (cn : Int) cs (by rw [Int.toNat_natCast, hW.len]; exact hcn) (by rw [hmet]; exact hmf)
      rw [hmm, Int.toNat_natCast] at hwm
      rw [hmm] at hcm
      have hFn := hF.new (by rw [hmet]; exact hmf)
      rw [hmm, Int.toNat_natCast] at hFn
      exact ⟨he, _, hwm, m.set cn true, os ++ [(b, cs)] ++ [((cn : Int), nxt f cn)], l, vo', vl', ov', rfl, hW', by rw [List.reverse_append, List.reverse_append, List.reverse_singleton, List.reverse_singleton, List.singleton_append, List.singleton_append]; exact hFn, by simp only [List.length_append, List.length_singleton]; omega, fun q hq => by
        rcases List.mem_append.1 hq with h | h
        · exact hinC q h
        · rw [List.mem_singleton] at h
          subst h
          exact fun v hv => hok.2.2 cn v hv, hb.trans hb'⟩
theorem madeCells_bool (n : Nat) : madeCells (Value.bool false).cells (n * 1) = ((List.replicate n false).map Value.bool).toArray := by
  unfold madeCells
  apply Array.ext
  · simp
  · intro i h1 h2
    simp [Value.cells, Nat.mod_one]
def WStart (w1 : World) (base n : Nat) (fk fb : Value) (fp fr : Int) (fs : Value) (p : Value) (w' : World) : Prop := ∃ hw bm, p = .pointer (some ⟨hw, 0, none⟩) ∧ WalkP w' base hw bm n fk fb fp fr fs (List.replicate n false) [] [] (.slice none 0 0) (.slice none 0 0) [] ∧ Below base w1 w'
theorem wstart_of {w1 w' : World} {base n hw bm : Nat} {fk fb fs : Value} {fp fr : Int} {mc : Array Value} (hmc : mc = ((List.replicate n false).map Value.bool).toArray) (h1 : Box w' hw #[fk, fb, .int .i64 fp, .int .i64 fr, fs, .slice (some ⟨bm, 0, none⟩) n n, .slice none 0 0, .slice none 0 0] 83) (h2 : Box w' bm mc 4) (h3 : base ≤ hw ∧ base ≤ bm) (hb : Below base w1 w') : WStart w1 base n fk fb fp fr fs (.pointer (some ⟨hw, 0, none⟩)) w' :=
  ⟨hw, bm, rfl, ⟨h1, by rw [← hmc]; exact h2, by simp, OwV.nil _ _, Ow.nil _ _ _ _, rfl, fun i p q hp => by simp at hp, h3⟩, hb⟩
def StartsAt (f : FunV) : Prop := ∃ mF lF, Dfs f [0] (List.replicate f.blocks.length false) [] mF lF
theorem starts_at {f : FunV} (hok : FlowOk f) (h1 : 1 ≤ f.blocks.length) : StartsAt f := by
  obtain ⟨m', l', h, -⟩ := dfs_total hok.2.2 _ (List.replicate f.blocks.length false) [0] [] (by simp) (by intro c hc; simp at hc; subst hc; omega) (Nat.le_refl _)
  exact ⟨m', l', h⟩
theorem wloop_start {w1 wr : World} {base hw bm : Nat} {f : FunV} {fk fb fs vo vl : Value} {ov : List (Int × Value)} {mF : List Bool} {lF : List Int} (h1 : 1 ≤ f.blocks.length) (hok : FlowOk f) (hD : Dfs f [0] (List.replicate f.blocks.length false) [] mF lF)
    (hW : WalkP wr base hw bm f.blocks.length fk fb f.params f.result fs ((List.replicate f.blocks.length false).set 0 true) ([] ++ [(((0 : Nat) : Int), nxt f 0)]) [] vo vl ov) (hb : Below base w1 wr) :
    WLoop w1 base hw bm f fk fb fs mF lF (walkM ((List.replicate f.blocks.length false).set 0 true) ([] ++ [(((0 : Nat) : Int), nxt f 0)])) wr := by
  have hm : metB (List.replicate f.blocks.length false) 0 = false := by
    unfold metB
    simp [List.getD, List.getElem?_replicate]
    split <;> rfl
  have hc := count_meet (m := List.replicate f.blocks.length false) (c := 0) (by simp; omega) hm
  have hF := FinS.start hD hm
  refine ⟨_, _, _, _, _, _, rfl, hW, hF, ?_, ?_, hb⟩
  · have e : (meet (List.replicate f.blocks.length false) 0) = (List.replicate f.blocks.length false).set 0 true := rfl
    rw [e, List.count_replicate_self] at hc
    simp only [List.nil_append, List.length_singleton, List.length_nil]
    omega
  · intro q hq v hv
    simp only [List.nil_append, List.mem_singleton] at hq
    subst hq
    exact hok.2.2 0 v hv
theorem start_a (w1 : World) {n : Nat} {fk fb fs : Value} {fp fr : Int} {mc : Array Value} (hmc : mc = ((List.replicate n false).map Value.bool).toArray) : WStart w1 w1.heap.size n fk fb fp fr fs (.pointer (some ⟨w1.heap.size + 1, 0, none⟩)) (((w1.alloc (.cells mc 4)).alloc (.cells #[fk, fb, .int .i64 fp, .int .i64 fr, fs, .slice (some ⟨w1.heap.size, 0, none⟩) n n, .slice none 0 0, .slice none 0 0] 83)).drew) := by
  have h1 := Box.new (w1.alloc (.cells mc 4)) #[fk, fb, .int .i64 fp, .int .i64 fr, fs, .slice (some ⟨w1.heap.size, 0, none⟩) n n, .slice none 0 0, .slice none 0 0] 83
  rw [World.size_alloc] at h1
  have h2 := (Box.new w1 mc 4).alloc (.cells #[fk, fb, .int .i64 fp, .int .i64 fr, fs, .slice (some ⟨w1.heap.size, 0, none⟩) n n, .slice none 0 0, .slice none 0 0] 83)
  have hb := below_drewN (((Below.refl w1.heap.size w1).alloc (Nat.le_refl _) (.cells mc 4)).alloc (by simp only [World.size_alloc]; omega) (.cells #[fk, fb, .int .i64 fp, .int .i64 fr, fs, .slice (some ⟨w1.heap.size, 0, none⟩) n n, .slice none 0 0, .slice none 0 0] 83)) 1
  exact wstart_of hmc h1 h2 ⟨by omega, Nat.le_refl _⟩ hb
theorem start_b (w1 : World) {n : Nat} {fk fb fs : Value} {fp fr : Int} {mc : Array Value} (hmc : mc = ((List.replicate n false).map Value.bool).toArray) : WStart w1 w1.heap.size n fk fb fp fr fs (.pointer (some ⟨w1.heap.size, 0, none⟩)) (((w1.alloc (.cells #[fk, fb, .int .i64 fp, .int .i64 fr, fs, .slice (some ⟨w1.heap.size + 1, 0, none⟩) n n, .slice none 0 0, .slice none 0 0] 83)).alloc (.cells mc 4)).drew) := by
  have h1 := (Box.new w1 #[fk, fb, .int .i64 fp, .int .i64 fr, fs, .slice (some ⟨w1.heap.size + 1, 0, none⟩) n n, .slice none 0 0, .slice none 0 0] 83).alloc (.cells mc 4)
  have h2 := Box.new (w1.alloc (.cells #[fk, fb, .int .i64 fp, .int .i64 fr, fs, .slice (some ⟨w1.heap.size + 1, 0, none⟩) n n, .slice none 0 0, .slice none 0 0] 83)) mc 4
  rw [World.size_alloc] at h2
  have hb := below_drewN (((Below.refl w1.heap.size w1).alloc (Nat.le_refl _) (.cells #[fk, fb, .int .i64 fp, .int .i64 fr, fs, .slice (some ⟨w1.heap.size + 1, 0, none⟩) n n, .slice none 0 0, .slice none 0 0] 83)).alloc (by simp only [World.size_alloc]; omega) (.cells mc 4)) 1
  exact wstart_of hmc h1 h2 ⟨Nat.le_refl _, by omega⟩ hb
set_option maxHeartbeats 1000000 in
set_option maxRecDepth 100000 in
theorem walked_any (vk vb vs : Value) (f : FunV) (w : World) (B : Nat) (hB : B ≤ w.heap.size) (hi : FunI w (· < B) vk vb vs f) (hok : FlowOk f) (h1 : 1 ≤ f.blocks.length) :
    Calls Tryd.prog 24 #[.agg #[vk, vb, .int .i64 f.params, .int .i64 f.result, vs]] w fun e w' => ∃ v mF lF, e = .returned v ∧ Dfs f [0] (List.replicate f.blocks.length false) [] mF lF ∧ Ow w' w.heap.size 3 .i64 v lF ∧ Below w.heap.size w w' := by
  obtain ⟨Ak, ck, rfl, hck, hmk⟩ := hi.1.open'
  obtain ⟨Ab, cb, rfl, hcb, hmb⟩ := hi.2.1.open'
  obtain ⟨As, cs, rfl, hcs, hms⟩ := hi.2.2.1.open'
  have hls40 := hok.1
  have HI := hide hi
  have HOK := hide hok
  have hmake : ∀ W : World, (Instr.makeSlice 80 (.int .i64 (f.blocks.length : Int)) (.int .i64 (f.blocks.length : Int))).run Tryd.prog W = .ok (.slice (some ⟨W.heap.size, 0, none⟩) f.blocks.length f.blocks.length) (W.alloc (.cells (madeCells (Value.bool false).cells (f.blocks.length * 1)) 4)) := fun W => mk_run 80 4 Tryd.underlying80 info_bool (by omega) f.blocks.length (by omega) W
  obtain ⟨mc, hmc⟩ : ∃ mc, madeCells (Value.bool false).cells (f.blocks.length * 1) = mc := ⟨_, rfl⟩
  rw [hmc] at hmake
  have HMC := hide (hmc.symm.trans (madeCells_bool _))
  obtain ⟨ls, hls⟩ : ∃ ls, f.blocks.length = ls := ⟨_, rfl⟩
  have HLS := hide hls
  rw [hls] at hmake h1 hls40 hcs ⊢
  obtain ⟨lk, hlk⟩ : ∃ lk, f.kinds.length = lk := ⟨_, rfl⟩
  obtain ⟨lb, hlb⟩ : ∃ lb, f.base.length = lb := ⟨_, rfl⟩
  obtain ⟨fp, hfp⟩ : ∃ fp, f.params = fp := ⟨_, rfl⟩
  obtain ⟨fr, hfr⟩ : ∃ fr, f.result = fr := ⟨_, rfl⟩
  rw [hlk] at hck
  rw [hlb] at hcb
  rw [hlk, hlb, hfp, hfr]
  have HLK := hide hlk; have HLB := hide hlb; have HFP := hide hfp; have HFR := hide hfr
  clear hi hok hmc hls hlk hlb hfp hfr
  go_enter Tryd.func24, Tryd.ntmps24
  go_upto_region 1 with (fail)
  obtain ⟨w1, hw1⟩ : ∃ w1, w1 = w.alloc (.cells #[.slice Ak lk ck, .slice Ab lb cb, .int .i64 fp, .int .i64 fr, .slice As ls cs] 34) := ⟨_, rfl⟩
  have HX1 := hide (show Box w1 w.heap.size #[.slice Ak lk ck, .slice Ab lb cb, .int .i64 fp, .int .i64 fr, .slice As ls cs] 34 by rw [hw1]; exact Box.new w _ _)
  have HB1 := hide (show Below w.heap.size w w1 by rw [hw1]; exact alloc1 w _)
  rw [← hw1]
  clear hw1
  have l1 := HX1.out.lt
  have c0 := (HX1.out.cell 0 (v := .slice Ak lk ck) rfl).1
  have c1 := (HX1.out.cell 1 (v := .slice Ab lb cb) rfl).1
  have c2 := (HX1.out.cell 2 (v := .int .i64 fp) rfl).1
  have c3 := (HX1.out.cell 3 (v := .int .i64 fr) rfl).1
  have c4 := (HX1.out.cell 4 (v := .slice As ls cs) rfl).1
  have hbs : w1.heap.size ≤ w1.heap.size := Nat.le_refl _
  go_cut [3] from 4 (fun p wx => WStart w1 w1.heap.size ls (.slice Ak lk ck) (.slice Ab lb cb) fp fr (.slice As ls cs) p wx)
  case first =>
    go_region
    all_goals
      go_wp2_with fail
      go_meet
      case rel =>
        first
          | exact start_a w1 (by rw [← HLS.out]; exact HMC.out)
          | exact start_b w1 (by rw [← HLS.out]; exact HMC.out)
  case rest =>
    obtain ⟨hw, bm, rfl, hW, hb⟩ := hcut
    have hz := hb.size
    have hst : StartsAt f := starts_at HOK.out (by rw [HLS.out]; exact h1)
    obtain ⟨mF, lF, hD⟩ := hst
    rw [← HLK.out, ← HLB.out, ← HFP.out, ← HFR.out, ← HLS.out] at hW
    have HEN := hide (enter_any f w1.heap.size hw bm _ _ _ _ _ _ _ _ _ 0 wc B (by omega) hz (HI.out.keep (Same'.of_below ((HB1.out.mono hB).trans (hb.mono (by omega)))) (fun _ h => h)) HOK.out (by rw [HLS.out]; exact h1) hW (by simp))
    have HD := hide hD
    have HBC := hide hb
    clear hW hD hb c0 c1 c2 c3 c4
    go_wp2_with (go_at_call 40; refine HEN.out.mono ?_; rintro e w2 ⟨rfl, ⟨vo', ov', hW2⟩, hb2⟩; have HW2 := hide hW2; have HB2 := hide (HBC.out.trans hb2); clear hW2 hb2)
    have HL0 := hide (wloop_start (by rw [HLS.out]; exact h1) HOK.out HD.out HW2.out HB2.out)
    clear HW2 HB2
    go_loopg [] (walkM ((List.replicate f.blocks.length false).set 0 true) ([] ++ [(((0 : Nat) : Int), nxt f 0)])) (fun k wr => WLoop w1 w1.heap.size hw bm f (.slice Ak f.kinds.length ck) (.slice Ab f.base.length cb) (.slice As f.blocks.length cs) mF lF k wr)
    case atStart => exact HL0.out
    case round =>
      obtain ⟨m, os, l, vo, vl, ov, hk, hW, hF, hcnt, hin, hb⟩ := hrel
      obtain ⟨Al, cl, rfl, -, -, -⟩ := hW.lft.sl
      obtain ⟨Ao, co, rfl, -, -⟩ := hW.opn.sl
      have hwl := hW.box.lt
      have b6 := (hW.box.cell 6 (v := .slice Ao ov.length co) rfl).1
      have b7 := (hW.box.cell 7 (v := .slice Al l.length cl) rfl).1
      have hvl := hW.vlen
      rcases List.eq_nil_or_concat os with rfl | ⟨os', ⟨b, nx⟩, rfl⟩
      · obtain ⟨rfl, rfl⟩ := hF.empty
        have hz0 : ov.length = 0 := by simpa using hvl
        rw [hz0] at b6
        have HO := hide (hW.lft.lower HB1.out.size)
        have HBE := hide (HB1.out.trans (hb.mono HB1.out.size))
        clear hz0 hvl hin hcnt hW hF hk hb HEN HL0
        go_wp2
        go_ret
        exact ⟨_, m, l, rfl, by rw [← HLS.out]; exact HD.out, HO.out, HBE.out⟩
      · rw [List.concat_eq_append] at hW hF hcnt hin hk hvl
        have hno : 0 < ov.length := by rw [hvl]; simp
        have HST := hide (step_all w1 f w1.heap.size hw bm _ _ _ _ _ b nx m os' l ov mF lF wr B (by omega) (Nat.le_refl _) (HI.out.keep (Same'.of_below (HB1.out.mono hB)) (fun _ h => h)) HOK.out hW hF hcnt hin hb)
        rw [← hk] at HST
        clear hvl hin hcnt hW hF hk hb HEN HL0
        generalize ov.length = no at *
        go_wp2_with (go_at_call 41; refine HST.out.mono ?_; rintro e w3 ⟨rfl, k', hk', hL⟩; have HK := hide hk'; have HL := hide hL; clear hk' hL)
        go_roundg k'
        case measure => exact HK.out
        case rel => exact HL.out
end Go.Proofs.YteoopilmdlhkhaaDoor
namespace Go.Proofs.YteoopilmdlhkhaaDoor
open Go.RowKit

section
variable {w w' : World} {base : Nat} {e : TypeId} {k : IntKind} {zs : List Int}
theorem Ow.blk {A : Option Addr} {n c : Nat} (h : Ow w base e k (.slice A n c) zs) (hp : 0 < zs.length) :
    ∃ g, A = some ⟨g, 0, none⟩ ∧ base ≤ g ∧ g < w.heap.size ∧ (∀ j x, zs[j]? = some x → w.cell? ⟨g, j, none⟩ = some (.int k x)) ∧ (∀ j, w.frozen? ⟨g, j, none⟩ = false) := by
  obtain ⟨h1, h2⟩ := h
  rcases h2 with ⟨h2, h0⟩ | ⟨g, cap, cur, hv, hg, hh, hnc, hcm, hsz, htake⟩
  · omega
  · injection hv with hA hn hc
    subst hA
    subst hn
    subst hc
    have hO : w.ownsRow base e 1 (.slice (some ⟨g, 0, none⟩) zs.length c) zs.length (zs.map (Value.int k)) := ⟨h1, .inr ⟨g, c, cur, rfl, hg, hh, hnc, hcm, hsz, htake⟩⟩
    refine ⟨g, rfl, hg, (Array.getElem?_eq_some_iff.1 hh).1, fun j x hx => ?_, fun j => World.ownsRow.frozenAt hO j⟩
    have hj : j < zs.length := (List.getElem?_eq_some_iff.1 hx).1
    rw [World.ownsRow.cellAt hO j (by omega), List.getElem?_map, hx]; rfl
theorem Ow.putAt {g n c : Nat} (h : Ow w base e k (.slice (some ⟨g, 0, none⟩) n c) zs) (hn : zs.length = n) (j : Nat) (x : Int) :
    Ow (w.setCell ⟨g, j, none⟩ (.int k x)) base e k (.slice (some ⟨g, 0, none⟩) n c) (zs.set j x) := by
  subst hn
  have := (World.ownsRow.stored h j (.int k x)).1
  unfold Ow
  rw [List.map_set, List.length_set]
  exact this
end
/-- k elements from both ends have changed places. -/
def RevAt (zs : List Int) (k : Nat) (ys : List Int) : Prop := ys.length = zs.length ∧ ∀ t, t < zs.length → ys[t]? = if t < k ∨ zs.length ≤ t + k then zs[zs.length - 1 - t]? else zs[t]?
theorem RevAt.zero (zs : List Int) : RevAt zs 0 zs := ⟨rfl, fun t ht => by rw [if_neg (by omega)]⟩
theorem RevAt.step {zs ys : List Int} {k : Nat} {a b : Int} (h : RevAt zs k ys) (hk : 2 * k + 1 < zs.length) (ha : ys[k]? = some a) (hb : ys[zs.length - 1 - k]? = some b) : RevAt zs (k + 1) ((ys.set k b).set (zs.length - 1 - k) a) := by
  obtain ⟨h1, h2⟩ := h
  have a2 := h2 k (by omega)
  have b2 := h2 (zs.length - 1 - k) (by omega)
  rw [if_neg (by omega)] at a2 b2
  refine ⟨by simp [h1], fun t ht => ?_⟩
  by_cases e2 : t = zs.length - 1 - k
  · subst e2
    rw [List.getElem?_set_self (by simp [h1]; omega), if_pos (by omega)]
    have : zs.length - 1 - (zs.length - 1 - k) = k := by omega
    rw [this, ← a2, ha]
  · rw [List.getElem?_set_ne (by omega)]
    by_cases e1 : t = k
    · subst e1
      rw [List.getElem?_set_self (by omega), if_pos (by omega), ← b2, hb]
    · rw [List.getElem?_set_ne (by omega), h2 t ht]
      by_cases e3 : t < k ∨ zs.length ≤ t + k
      · rw [if_pos e3, if_pos (by omega)]
      · rw [if_neg e3, if_neg (by omega)]
theorem RevAt.done {zs ys : List Int} {k : Nat} (h : RevAt zs k ys) (hk : zs.length ≤ 2 * k + 1) : ys = zs.reverse := by
  obtain ⟨h1, h2⟩ := h
  apply List.ext_getElem?
  intro t
  by_cases ht : t < zs.length
  · rw [h2 t ht, List.getElem?_reverse ht]
    by_cases e : t < k ∨ zs.length ≤ t + k
    · rw [if_pos e]
    · rw [if_neg e]
      congr 1
      omega
  · rw [List.getElem?_eq_none (by omega), List.getElem?_eq_none (by simp; omega)]
theorem RevAt.lt {zs ys : List Int} {k : Nat} (h : RevAt zs k ys) : ys.length = zs.length := h.1
def RevL (w1 : World) (base g n c : Nat) (zs : List Int) (k : Nat) (wr : World) : Prop := ∃ ys, RevAt zs k ys ∧ Ow wr base 3 .i64 (.slice (some ⟨g, 0, none⟩) n c) ys ∧ Below base w1 wr
set_option maxHeartbeats 1000000 in
set_option maxRecDepth 100000 in
theorem reverse_any (v : Value) (zs : List Int) (base : Nat) (w : World) (hv : Ow w base 3 .i64 v zs) (hn : zs.length ≤ 1000) :
    Calls Tryd.prog 25 #[v] w fun e w' => e = .returned (.tuple #[]) ∧ Ow w' base 3 .i64 v zs.reverse ∧ Below base w w' := by
  obtain ⟨A, c, rfl, hc, hm, -⟩ := hv.sl
  by_cases h0 : zs.length = 0
  · have hz : zs = [] := List.eq_nil_of_length_eq_zero h0
    subst hz
    have HV := hide hv
    clear hv h0
    simp only [List.length_nil] at *
    go_enter Tryd.func25, Tryd.ntmps25
    go_wp2
    go_loop [2, 3] (fun i j => i = .int .i64 0 ∧ j = .int .i64 (-1)) (fun i j => 0)
    case atStart => exact ⟨rfl, rfl⟩
    case round =>
      obtain ⟨rfl, rfl⟩ := hrel
      go_wp2
      go_end0
      exact ⟨rfl, HV.out, Below.refl _ _⟩
  obtain ⟨g, rfl, hbg, hgl, -, -⟩ := hv.blk (by omega)
  obtain ⟨n, hn'⟩ : ∃ n, zs.length = n := ⟨_, rfl⟩
  have HN := hide hn'
  rw [hn'] at hv hc hn h0 ⊢
  have HV := hide hv
  clear hv hn'
  have e1 : IntKind.i64.wrap ((n : Int) - 1) = (n : Int) - 1 := IntWalk.i64_in _ ⟨by omega, by omega⟩
  go_enter Tryd.func25, Tryd.ntmps25
  go_wp2
  clear e1
  go_loopw [2, 3] (fun i j wr => ∃ k : Nat, 2 * k ≤ n + 1 ∧ i = .int .i64 k ∧ j = .int .i64 ((n : Int) - 1 - (k : Int)) ∧ Hid (RevL w base g n c zs k wr)) (fun i _ _ => n - (intOf i).toNat)
  case atStart => exact ⟨0, by omega, rfl, by simp, hide ⟨zs, RevAt.zero zs, HV.out, Below.refl _ _⟩⟩
  case round =>
    obtain ⟨k, hk, rfl, rfl, hL⟩ := hrel
    obtain ⟨ys, hr, ho, hb⟩ := hL.out
    by_cases hlt : 2 * k + 1 < n
    · obtain ⟨m, hm'⟩ : ∃ m : Nat, (n : Int) - 1 - (k : Int) = m := ⟨n - 1 - k, by omega⟩
      have hmn : m = n - 1 - k := by omega
      obtain ⟨a, ha⟩ : ∃ a, ys[k]? = some a := ⟨_, List.getElem?_eq_getElem (by have := hr.lt; have := HN.out; omega)⟩
      obtain ⟨b, hbb⟩ : ∃ b, ys[m]? = some b := ⟨_, List.getElem?_eq_getElem (by have := hr.lt; have := HN.out; omega)⟩
      obtain ⟨g', hg', -, hgl', hcell, hfr⟩ := ho.blk (by have := hr.lt; have := HN.out; omega)
      injection hg' with hg'
      injection hg' with hg'
      subst hg'
      have x1 := hcell k a ha
      have x2 := hcell m b hbb
      have f1 := hfr k
      have f2 := hfr m
      have HST := hide (show RevL w base g n c zs (k + 1) (((wr.setCell ⟨g, k, none⟩ (.int .i64 b)).setCell ⟨g, m, none⟩ (.int .i64 a)).drew) from ⟨_, by
          have := hr.step (a := a) (b := b) (by have := HN.out; omega) ha (by have := HN.out; rw [this, ← hmn]; exact hbb)
          rwa [HN.out, ← hmn] at this, ((ho.putAt (by rw [hr.lt, HN.out]) k b).putAt (by rw [List.length_set, hr.lt, HN.out]) m a).drewN 1, below_drewN ((hb.setCell (p := ⟨g, k, none⟩) hbg _).setCell (p := ⟨g, m, none⟩) hbg _) 1⟩)
      rw [hm']
      have hkm : k < m := by omega
      have hmlt : m < n := by omega
      have hkn : k < n := by omega
      have i1 : (0 : Int) ≤ (k : Int) := by omega
      have i2 : (k : Int) < (n : Int) := by omega
      have i3 : (0 : Int) ≤ (m : Int) := by omega
      have i4 : (m : Int) < (n : Int) := by omega
      have i5 : (k : Int) < (m : Int) := by omega
      have HM := hide hm'
      have hm1 : 1 ≤ m := by omega
      have hkm' : k ≠ m := by omega
      clear hr ho hb hL hcell hfr ha hbb hm' hmn
      go_wp2_with fail
      go_region
      all_goals
        go_wp2
        go_roundw
        case rel => exact ⟨k + 1, by omega, by go_num, by have := HM.out; exact congrArg (Value.int .i64) (by omega), HST⟩
        case measure => simp [intOf]; omega
    · have HE := hide (show ys = zs.reverse from hr.done (by rw [HN.out]; omega))
      have HO := hide (show Ow wr base 3 .i64 (.slice (some ⟨g, 0, none⟩) n c) zs.reverse by rw [← HE.out]; exact ho)
      have hnl : ¬ (k : Int) < (n : Int) - 1 - (k : Int) := by omega
      have HB := hide hb
      clear hr ho hb hL
      go_wp2
      go_end0
      exact ⟨rfl, HO.out, HB.out⟩
/-- The order of a walk: what it leaves, from behind. -/
def OrderOf (f : FunV) (l : List Int) : Prop := ∃ mF lF, Dfs f [0] (List.replicate f.blocks.length false) [] mF lF ∧ l = lF.reverse
theorem OrderOf.one {f : FunV} {l l' : List Int} (h : OrderOf f l) (h' : OrderOf f l') : l = l' := by
  obtain ⟨m, x, h1, rfl⟩ := h
  obtain ⟨m', x', h2, rfl⟩ := h'
  rw [(h1.one h2).2]
theorem Dfs.fewer {f : FunV} {cs : List Int} {m : List Bool} {l : List Int} {m' : List Bool} {l' : List Int} (h : Dfs f cs m l m' l') (hok : ∀ k v, v ∈ nxt f k → 0 ≤ v ∧ v < f.blocks.length) : m.length = f.blocks.length → (∀ c ∈ cs, 0 ≤ c ∧ c < f.blocks.length) → l'.length + m'.count false = l.length + m.count false ∧ m'.length = m.length := by
  induction h with
  | nil m l => intro _ _; exact ⟨rfl, rfl⟩
  | old hm _ ih => intro hl hc; exact ih hl (fun c h => hc c (List.mem_cons_of_mem _ h))
  | new hm h1 h2 ih1 ih2 =>
    intro hl hc
    have hcr := hc _ List.mem_cons_self
    obtain ⟨a1, a2⟩ := ih1 (by rw [meet_len, hl]) (fun v hv => hok _ v hv)
    obtain ⟨b1, b2⟩ := ih2 (by rw [a2, meet_len, hl]) (fun c h => hc c (List.mem_cons_of_mem _ h))
    have hcm := count_meet (by rw [hl]; omega) hm
    rw [List.length_append, List.length_singleton] at b1
    exact ⟨by omega, by rw [b2, a2, meet_len]⟩
theorem dfs_len {f : FunV} (hok : FlowOk f) (h1 : 1 ≤ f.blocks.length) {mF : List Bool} {lF : List Int} (h : Dfs f [0] (List.replicate f.blocks.length false) [] mF lF) : lF.length ≤ f.blocks.length := by
  have := (h.fewer hok.2.2 (by simp) (by intro c hc; simp at hc; subst hc; omega)).1
  rw [List.count_replicate_self, List.length_nil] at this
  omega
set_option maxHeartbeats 1000000 in
set_option maxRecDepth 100000 in
theorem forder_any (vk vb vs : Value) (f : FunV) (w : World) (B : Nat) (hB : B ≤ w.heap.size) (hi : FunI w (· < B) vk vb vs f) (hok : FlowOk f) (h1 : 1 ≤ f.blocks.length) :
    Calls Tryd.prog 16 #[.agg #[vk, vb, .int .i64 f.params, .int .i64 f.result, vs]] w fun e w' => ∃ v l, e = .returned v ∧ OrderOf f l ∧ Ow w' w.heap.size 3 .i64 v l ∧ Below w.heap.size w w' := by
  have HWK := hide (fun (W : World) (hW : Below w.heap.size w W) => walked_any vk vb vs f W B (by have := hW.size; omega) (hi.keep (up hW hB) (fun _ h => h)) hok h1)
  have HLEN := hide (fun mF lF h => @dfs_len f hok h1 mF lF h)
  have hls40 := hok.1
  obtain ⟨Ak, ck, rfl, hck, hmk⟩ := hi.1.open'
  obtain ⟨Ab, cb, rfl, hcb, hmb⟩ := hi.2.1.open'
  obtain ⟨As, cs, rfl, hcs, hms⟩ := hi.2.2.1.open'
  have HLS := hide (show f.blocks.length ≤ 40 from hls40)
  obtain ⟨ls, hls⟩ : ∃ ls, f.blocks.length = ls := ⟨_, rfl⟩
  obtain ⟨lk, hlk⟩ : ∃ lk, f.kinds.length = lk := ⟨_, rfl⟩
  obtain ⟨lb, hlb⟩ : ∃ lb, f.base.length = lb := ⟨_, rfl⟩
  obtain ⟨fp, hfp⟩ : ∃ fp, f.params = fp := ⟨_, rfl⟩
  obtain ⟨fr, hfr⟩ : ∃ fr, f.result = fr := ⟨_, rfl⟩
  have HT := hide (fun W => (show Calls Tryd.prog 23 #[.agg #[.slice Ak lk ck, .slice Ab lb cb, .int .i64 fp, .int .i64 fr, .slice As ls cs], .int .i64 0] W fun e w' => e = .returned (.bool true) ∧ Below W.heap.size W w' by have h := there_any 0 Ak Ab As lk ck lb cb ls cs fp fr W; rw [show inB 0 ((ls : Int) - 1) 0 = true by rw [inB_iff]; omega] at h; exact h))
  have HWK' := hide (fun (W : World) (hW : Below w.heap.size w W) => (show Calls Tryd.prog 24 #[.agg #[.slice Ak lk ck, .slice Ab lb cb, .int .i64 fp, .int .i64 fr, .slice As ls cs]] W fun e w' => ∃ v mF lF, e = .returned v ∧ Dfs f [0] (List.replicate f.blocks.length false) [] mF lF ∧ Ow w' W.heap.size 3 .i64 v lF ∧ Below W.heap.size W w' by
    have h := HWK.out W hW
    rw [hlk, hlb, hfp, hfr, hls] at h
    rw [hls]
    exact h))
  rw [hlk, hlb, hls, hfp, hfr]
  clear hi hok hls40 hck hcb hcs hls hlk hlb hfp hfr h1 HWK
  go_enter Tryd.func16, Tryd.ntmps16
  go_upto_region 1 with (fail)
  obtain ⟨w1, hw1⟩ : ∃ w1, w1 = w.alloc (.cells #[.slice Ak lk ck, .slice Ab lb cb, .int .i64 fp, .int .i64 fr, .slice As ls cs] 34) := ⟨_, rfl⟩
  have HX1 := hide (show Box w1 w.heap.size #[.slice Ak lk ck, .slice Ab lb cb, .int .i64 fp, .int .i64 fr, .slice As ls cs] 34 by rw [hw1]; exact Box.new w _ _)
  have HB1 := hide (show Below w.heap.size w w1 by rw [hw1]; exact alloc1 w _)
  rw [← hw1]
  clear hw1
  have l1 := HX1.out.lt
  have c0 := (HX1.out.cell 0 (v := .slice Ak lk ck) rfl).1
  have c1 := (HX1.out.cell 1 (v := .slice Ab lb cb) rfl).1
  have c2 := (HX1.out.cell 2 (v := .int .i64 fp) rfl).1
  have c3 := (HX1.out.cell 3 (v := .int .i64 fr) rfl).1
  have c4 := (HX1.out.cell 4 (v := .slice As ls cs) rfl).1
  go_upto_region 3 with (go_at_call 23; refine (HT.out w1).mono ?_; rintro e w2 ⟨rfl, hb2⟩; have HB2 := hide (HB1.out.trans (hb2.mono HB1.out.size)); have HX2 := hide (HX1.out.below hb2); clear hb2)
  clear c0 c1 c2 c3 c4
  have l2 := HX2.out.lt
  have c0 := (HX2.out.cell 0 (v := .slice Ak lk ck) rfl).1
  have c1 := (HX2.out.cell 1 (v := .slice Ab lb cb) rfl).1
  have c2 := (HX2.out.cell 2 (v := .int .i64 fp) rfl).1
  have c3 := (HX2.out.cell 3 (v := .int .i64 fr) rfl).1
  have c4 := (HX2.out.cell 4 (v := .slice As ls cs) rfl).1
  go_wp2_with (first
    | (go_at_call 25; refine (HREV.out).mono ?_; rintro e w4 ⟨rfl, ho4, hb4⟩)
    | (go_at_call 24; refine (HWK'.out w2 HB2.out).mono ?_; rintro e w3 ⟨v3, mF, lF, rfl, hD, ho3, hb3⟩; have HREV := hide (reverse_any v3 lF w.heap.size w3 (ho3.lower HB2.out.size) (by have := HLEN.out mF lF hD; have := HLS.out; omega)); have HD := hide hD; have HB3 := hide (HB2.out.trans (hb3.mono HB2.out.size)); clear hD ho3 hb3))
  go_ret
  exact ⟨v3, _, rfl, ⟨mF, lF, HD.out, rfl⟩, ho4, HB3.out.trans hb4⟩
end Go.Proofs.YteoopilmdlhkhaaDoor
