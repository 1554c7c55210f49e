/- Layer 13: own lists of blocks in memory, each with instructions of its own, whose arguments are their own, too: what a store, an append, a new block leave of them. No condition. -/
import Derived.Test.YtnoknodijombpaaDoorPhDB
set_option linter.unusedSimpArgs false
set_option linter.unusedVariables false
namespace Go.Proofs.YtnoknodijombpaaDoor
open Go.RowKit

theorem flat_setE {β : Type} {c : β → List Value} {sz : Nat} (hc : ∀ y, (c y).length = sz) : ∀ (l : List β) (j i : Nat) (y y' : β) (u : Value), l[j]? = some y → i < sz → c y' = (c y).set i u → (l.set j y').flatMap c = (l.flatMap c).set (j * sz + i) u
  | [], j, i, y, y', u, h, _, _ => by simp at h
  | x :: l, 0, i, y, y', u, h, hi, e => by
    simp at h
    subst h
    rw [List.set_cons_zero, List.flatMap_cons, List.flatMap_cons, e, Nat.zero_mul, Nat.zero_add, List.set_append, if_pos (by rw [hc x]; exact hi)]
  | x :: l, j + 1, i, y, y', u, h, hi, e => by
    rw [List.set_cons_succ, List.flatMap_cons, List.flatMap_cons, List.set_append, hc x, if_neg (by rw [Nat.succ_mul]; omega), show (j + 1) * sz + i - sz = j * sz + i by rw [Nat.succ_mul]; omega]
    rw [flat_setE hc l j i y y' u (by simpa using h) hi e]
section
variable {β : Type} {c : β → List Value} {T : TypeId} {sz : Nat} {w w' : World} {base : Nat} {v : Value} {l : List β}
theorem OwC.blk (h : OwC c T sz w base v l) (hl : 0 < l.length) : ∃ g cap, v = .slice (some ⟨g, 0, none⟩) l.length cap ∧ base ≤ g ∧ g < w.heap.size ∧ l.length ≤ cap ∧ cap ≤ maxLen ∧ TB w T g := by
  have h0 := h
  rcases h.2 with ⟨rfl, e⟩ | ⟨g, cap, cur, rfl, hg, hh, hnc, hcm, -⟩
  · omega
  · exact ⟨g, cap, rfl, hg, (Array.getElem?_eq_some_iff.1 hh).1, hnc, hcm, cur, _, hh⟩
theorem OwC.at' {g cap n : Nat} (h : OwC c T sz w base (.slice (some ⟨g, 0, none⟩) n cap) l) (hn : l.length = n) (hc : ∀ y, (c y).length = sz) {j i : Nat} {y : β} (hj : l[j]? = some y) (hi : i < sz) : w.cell? ⟨g, j * sz + i, none⟩ = (c y)[i]? ∧ w.frozen? ⟨g, j * sz + i, none⟩ = false := by
  subst hn
  have hjl := (List.getElem?_eq_some_iff.1 hj).1
  have hlt : j * sz + i < l.length * sz := by
    have : (j + 1) * sz ≤ l.length * sz := Nat.mul_le_mul_right _ (by omega)
    rw [Nat.succ_mul] at this
    omega
  exact ⟨by rw [World.ownsRow.cellAt h _ hlt, flat_at l j i y (fun y _ => hc y) hj hi], World.ownsRow.frozenAt h _⟩
theorem OwC.putE {g cap n : Nat} (h : OwC c T sz w base (.slice (some ⟨g, 0, none⟩) n cap) l) (hn : l.length = n) (hc : ∀ y, (c y).length = sz) {j i : Nat} {y y' : β} {u : Value} (hj : l[j]? = some y) (hi : i < sz) (hy : c y' = (c y).set i u) : OwC c T sz (w.setCell ⟨g, j * sz + i, none⟩ u) base (.slice (some ⟨g, 0, none⟩) n cap) (l.set j y') := by
  subst hn
  have t := (World.ownsRow.stored h (j * sz + i) u).1
  unfold OwC
  rw [List.length_set, flat_setE hc l j i y y' u hj hi hy]
  exact t
end
/-- Instructions of one's own, with arguments in blocks of ints. -/
def CodeM (w : World) (base : Nat) (p : List InsV × Value) : Prop := ∃ q : List (InsV × Value), q.map (·.1) = p.1 ∧ OwC insC 38 7 w base p.2 q ∧ ∀ r ∈ q, InsI w (TB w 3) r.2 r.1
section
variable {w w' : World} {base : Nat} {M : Nat → Prop} {p : List InsV × Value}
theorem argsI_keep {x : InsV} {va : Value} (h : InsI w (TB w 3) va x) (hk : ∀ b, b < w.heap.size → ¬ M b → w'.heap[b]? = w.heap[b]?) (hI : ∀ b, TB w 3 b → ¬ M b) : InsI w' (TB w' 3) va x :=
  h.keep (fun b o hb => World.cell?_of_block (a := ⟨b, o, none⟩) (hk b hb.lt (hI b hb))) (fun b hb => hb.keep (hk b hb.lt (hI b hb)))
theorem CodeM.keep (h : CodeM w base p) (hk : ∀ b, b < w.heap.size → ¬ M b → w'.heap[b]? = w.heap[b]?) (hM : ∀ g, p.2.ownBlock = some g → ¬ M g) (hI : ∀ b, TB w 3 b → ¬ M b) : CodeM w' base p := by
  obtain ⟨q, h1, h2, h3⟩ := h
  exact ⟨q, h1, h2.kept fun g hg => hk g (h2.lt g hg).2 (hM g hg), fun r hr => argsI_keep (h3 r hr) hk hI⟩
theorem CodeM.lower {b : Nat} (h : CodeM w base p) (hb : b ≤ base) : CodeM w b p := by
  obtain ⟨q, h1, h2, h3⟩ := h
  exact ⟨q, h1, h2.lower hb, h3⟩
theorem CodeM.inss (h : CodeM w base p) : InssV w (· < w.heap.size) p.2 p.1 := by
  obtain ⟨q, h1, h2, h3⟩ := h
  rw [← h1]
  exact codes_vec h2 (fun r hr => (h3 r hr).keep (fun _ _ _ => rfl) (fun b hb => hb.lt)) (fun b hb => (h2.lt b hb).2)
theorem CodeM.own (h : CodeM w base p) : ∀ g, p.2.ownBlock = some g → base ≤ g ∧ TB w 38 g := by
  obtain ⟨q, h1, h2, h3⟩ := h
  exact fun g hg => ⟨(h2.lt g hg).1, h2.row g hg⟩
end
/-- An own list of blocks, each with instructions of its own. -/
structure BlkM (w : World) (base : Nat) (v : Value) (l : List (List InsV × Value)) : Prop where
  own : OwC blkC 41 1 w base v l
  code : ∀ p ∈ l, CodeM w base p
  apart : ∀ (i j : Nat) (p p' : List InsV × Value), l[i]? = some p → l[j]? = some p' → i ≠ j → ∀ g, p.2.ownBlock = some g → p'.2.ownBlock ≠ some g
section
variable {w w' : World} {base : Nat} {v : Value} {l : List (List InsV × Value)}
theorem BlkM.keep {M : Nat → Prop} (h : BlkM w base v l) (hk : ∀ b, b < w.heap.size → ¬ M b → w'.heap[b]? = w.heap[b]?) (hB : ∀ b, TB w 41 b → ¬ M b) (hC : ∀ b, TB w 38 b → ¬ M b) (hI : ∀ b, TB w 3 b → ¬ M b) : BlkM w' base v l :=
  ⟨h.own.kept fun g hg => hk g (h.own.lt g hg).2 (hB g (h.own.row g hg)), fun p hp => (h.code p hp).keep hk (fun g hg => hC g ((h.code p hp).own g hg).2) hI, h.apart⟩
theorem BlkM.below (h : BlkM w base v l) (hb : Below w.heap.size w w') : BlkM w' base v l := h.keep (M := fun _ => False) (fun b hb' _ => hb.block b hb') (fun _ _ h => h) (fun _ _ h => h) (fun _ _ h => h)
/-- A store into a block of another type. -/
theorem BlkM.other (h : BlkM w base v l) {g o : Nat} {T : TypeId} (hT : TB w T g) (h1 : T ≠ 41) (h2 : T ≠ 38) (h3 : T ≠ 3) (u : Value) : BlkM (w.setCell ⟨g, o, none⟩ u) base v l :=
  h.keep (M := fun b => b = g) (fun b _ hb => heap_setCell_other w ⟨g, o, none⟩ b u hb) (fun b hb e => h1 (by subst e; exact hT.one hb)) (fun b hb e => h2 (by subst e; exact hT.one hb)) (fun b hb e => h3 (by subst e; exact hT.one hb))
theorem BlkM.lower {b : Nat} (h : BlkM w base v l) (hb : b ≤ base) : BlkM w b v l := ⟨h.own.lower hb, fun p hp => (h.code p hp).lower hb, h.apart⟩
theorem BlkM.blks (h : BlkM w base v l) : BlksV w (· < w.heap.size) v (l.map (·.1)) := blks_vec h.own (fun p hp => (h.code p hp).inss) (fun b hb => (h.own.lt b hb).2)
/-- The field of an instruction of a block is stored into. -/
theorem BlkM.put (h : BlkM w base v l) {a k i : Nat} {ls : List InsV} {x x' : InsV} {g n cap : Nat} {z : Int} (ha : l[a]? = some (ls, .slice (some ⟨g, 0, none⟩) n cap)) (hn : ls.length = n) (hk : ls[k]? = some x) (hx : ∀ va, insC (x', va) = (insC (x, va)).set i (.int .i64 z)) (hi : i < 6) (hz : i64R z) (hx' : InsR x' ∧ x'.args = x.args) :
    BlkM (w.setCell ⟨g, k * 7 + i, none⟩ (.int .i64 z)) base v (l.set a (ls.set k x', .slice (some ⟨g, 0, none⟩) n cap)) := by
  have hal := (List.getElem?_eq_some_iff.1 ha).1
  obtain ⟨q, h1, h2, h3⟩ := h.code _ (List.mem_of_getElem? ha)
  have hql : q.length = n := by
    have := congrArg List.length h1
    rw [List.length_map] at this
    simp only at this
    omega
  obtain ⟨⟨y, va⟩, hy⟩ : ∃ y, q[k]? = some y := ⟨_, List.getElem?_eq_getElem (by have := (List.getElem?_eq_some_iff.1 hk).1; omega)⟩
  have hyx : y = x := by
    have h4 : (q.map (·.1))[k]? = some y := by rw [List.getElem?_map, hy]; rfl
    rw [h1] at h4
    simp only at h4
    rw [hk] at h4
    injection h4 with h4
    exact h4.symm
  subst hyx
  have hgT : TB w 38 g := h2.row g rfl
  have hk' : ∀ b, b < w.heap.size → ¬ (b = g) → (w.setCell ⟨g, k * 7 + i, none⟩ (.int .i64 z)).heap[b]? = w.heap[b]? := fun b _ hb => heap_setCell_other w ⟨g, k * 7 + i, none⟩ b _ hb
  have hI : ∀ b, TB w 3 b → ¬ b = g := fun b hb e => by
    subst e
    exact absurd (hb.one hgT) (by decide)
  have hB : ∀ b, TB w 41 b → ¬ b = g := fun b hb e => by
    subst e
    exact absurd (hb.one hgT) (by decide)
  refine ⟨?_, fun p hp => ?_, fun i' j p p' hi' hj hij => ?_⟩
  · have t : OwC blkC 41 1 (w.setCell ⟨g, k * 7 + i, none⟩ (.int .i64 z)) base v l := h.own.kept fun b hb => hk' b (h.own.lt b hb).2 (hB b (h.own.row b hb))
    unfold OwC at t ⊢
    have e : (l.set a (ls.set k x', .slice (some ⟨g, 0, none⟩) n cap)).flatMap blkC = l.flatMap blkC := by
      rw [flat_setE (c := blkC) (sz := 1) (fun _ => rfl) l a 0 _ (ls.set k x', .slice (some ⟨g, 0, none⟩) n cap) (.slice (some ⟨g, 0, none⟩) n cap) ha (by omega) rfl]
      refine List.ext_getElem? fun j => ?_
      rw [List.getElem?_set]
      split
      · rename_i e
        subst e
        rw [flat_at (c := blkC) (sz := 1) l a 0 _ (fun _ _ => rfl) ha (by omega)]
        have hfl := flat_len (c := blkC) (sz := 1) (fun _ => rfl) l
        rw [if_pos (by omega)]
        rfl
      · rfl
    rw [List.length_set, e]
    exact t
  · obtain ⟨j, hj⟩ := List.getElem?_of_mem hp
    rw [List.getElem?_set] at hj
    split at hj
    · rename_i e
      subst e
      injection hj with hj
      subst hj
      refine ⟨q.set k (x', va), by rw [List.map_set, h1], h2.putE hql (fun _ => rfl) hy (by omega) (hx va), fun r hr => ?_⟩
      rcases List.mem_or_eq_of_mem_set hr with hr | rfl
      · exact argsI_keep (h3 r hr) hk' hI
      · obtain ⟨⟨k1, k2⟩, k3⟩ := And.intro (h3 _ (List.mem_of_getElem? hy)) hx'
        have t := argsI_keep (h3 _ (List.mem_of_getElem? hy)) hk' hI
        exact ⟨by rw [k3.2]; exact t.1, k3.1⟩
    · rename_i e
      exact (h.code p (List.mem_of_getElem? hj)).keep hk' (fun b hb e2 => by
        subst e2
        exact h.apart a j _ p ha hj e b rfl hb) hI
  · have key : ∀ (j : Nat) (p : List InsV × Value), (l.set a (ls.set k x', .slice (some ⟨g, 0, none⟩) n cap))[j]? = some p → ∃ p0, l[j]? = some p0 ∧ p0.2 = p.2 := by
      intro j p hj
      rw [List.getElem?_set] at hj
      split at hj
      · rename_i e
        subst e
        injection hj with hj
        subst hj
        exact ⟨_, ha, rfl⟩
      · exact ⟨p, hj, rfl⟩
    obtain ⟨p0, hp0, e0⟩ := key i' p hi'
    obtain ⟨p1, hp1, e1⟩ := key j p' hj
    rw [← e0, ← e1]
    exact h.apart i' j p0 p1 hp0 hp1 hij
/-- A block more. -/
theorem BlkM.app {w4 w5 : World} {v5 u : Value} {ls : List InsV} (h : BlkM w base v l) (hb4 : Below w.heap.size w w4) (hgr : w4.grownBy w5 v.ownBlock) (ho : OwC blkC 41 1 w5 base v5 (l ++ [(ls, u)])) (hc : CodeM w5 base (ls, u)) (hu : ∀ g, u.ownBlock = some g → w.heap.size ≤ g) : BlkM w5 base v5 (l ++ [(ls, u)]) := by
  have hk : ∀ b, b < w.heap.size → ¬ (v.ownBlock = some b) → w5.heap[b]? = w.heap[b]? := fun b hb hn => (hgr.block b (by have := hb4.size; omega) (fun e => hn e.symm)).trans (hb4.block b hb)
  have hold : ∀ p ∈ l, CodeM w5 base p := fun p hp => (h.code p hp).keep hk (fun g hg e => by
    have k1 := ((h.code p hp).own g hg).2
    exact absurd (k1.one (h.own.row g e)) (by decide)) (fun b hb e => absurd (hb.one (h.own.row b e)) (by decide))
  have hlt : ∀ p ∈ l, ∀ g, p.2.ownBlock = some g → g < w.heap.size := fun p hp g hg => ((h.code p hp).own g hg).2.lt
  refine ⟨ho, fun p hp => ?_, fun i j p p' hi hj hij g hg => ?_⟩
  · rcases List.mem_append.1 hp with hp | hp
    · exact hold p hp
    · simp at hp
      subst hp
      exact hc
  · have key : ∀ (j : Nat) (p : List InsV × Value), (l ++ [(ls, u)])[j]? = some p → l[j]? = some p ∨ (j = l.length ∧ p = (ls, u)) := by
      intro j p hj
      by_cases hjl : j < l.length
      · rw [List.getElem?_append_left hjl] at hj
        exact .inl hj
      · rw [List.getElem?_append_right (by omega)] at hj
        have h0 : j - l.length = 0 := by
          have := (List.getElem?_eq_some_iff.1 hj).1
          simp at this
          omega
        rw [h0] at hj
        simp at hj
        exact .inr ⟨by omega, hj.symm⟩
    rcases key i p hi with hi | ⟨hi, rfl⟩
    · rcases key j p' hj with hj | ⟨hj, rfl⟩
      · exact h.apart i j p p' hi hj hij g hg
      · intro e
        have k1 := hlt p (List.mem_of_getElem? hi) g hg
        have k2 := hu g e
        omega
    · rcases key j p' hj with hj | ⟨hj, rfl⟩
      · intro e
        have k1 := hlt p' (List.mem_of_getElem? hj) g e
        have k2 := hu g hg
        omega
      · omega
end
end Go.Proofs.YtnoknodijombpaaDoor
