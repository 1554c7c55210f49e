/- Plain mathematics: what a walk reaches. Condition: what comes next is there. -/
import Derived.Test.YteoopilmdlhkhaaDoorPaNK
set_option linter.unusedSimpArgs false
set_option linter.unusedVariables false
namespace Go.Proofs.YteoopilmdlhkhaaDoor

theorem met_meet {m : List Bool} {c x : Int} (hc : 0 ≤ c) (hcl : c < m.length) (hx : 0 ≤ x) : metB (meet m c) x = true ↔ metB m x = true ∨ x = c := by
  unfold metB meet
  by_cases h : x = c
  · subst h
    rw [List.getD_eq_getElem?_getD, List.getElem?_set_self (by omega)]
    simp
  · have hne : c.toNat ≠ x.toNat := by omega
    rw [List.getD_eq_getElem?_getD, List.getElem?_set_ne hne, ← List.getD_eq_getElem?_getD]
    simp [h]
def SpecD (f : FunV) (cs : List Int) (m : List Bool) (l : List Int) (m' : List Bool) (l' : List Int) : Prop :=
  ∃ new : List Int, l' = l ++ new ∧ m'.length = m.length ∧ (∀ x, 0 ≤ x → (metB m' x = true ↔ metB m x = true ∨ x ∈ new)) ∧ new.Nodup ∧ (∀ x ∈ new, 0 ≤ x ∧ x < m.length ∧ metB m x = false) ∧ (∀ c ∈ cs, metB m' c = true) ∧
    (∀ x ∈ new, ∀ v ∈ nxt f x.toNat, metB m' v = true) ∧ (∀ x ∈ new, x ∈ cs ∨ ∃ y ∈ new, x ∈ nxt f y.toNat)
theorem Dfs.spec {f : FunV} {cs : List Int} {m : List Bool} {l : List Int} {m' : List Bool} {l' : List Int} (h : Dfs f cs m l m' l') (hok : ∀ k v, v ∈ nxt f k → 0 ≤ v ∧ v < f.blocks.length) : m.length = f.blocks.length → (∀ c ∈ cs, 0 ≤ c ∧ c < f.blocks.length) → SpecD f cs m l m' l' := by
  induction h with
  | nil m l => intro _ _; exact ⟨[], by simp, rfl, fun x _ => by simp, List.nodup_nil, by simp, by simp, by simp, by simp⟩
  | @old c cs m l m' l' hm _ ih =>
    intro hl hc
    obtain ⟨new, h1, h2, h3, h4, h5, h6, h7, h8⟩ := ih hl (fun c h => hc c (List.mem_cons_of_mem _ h))
    refine ⟨new, h1, h2, h3, h4, h5, fun x hx => ?_, h7, fun x hx => ?_⟩
    · rcases List.mem_cons.1 hx with rfl | hx
      · exact (h3 x (hc x List.mem_cons_self).1).2 (.inl hm)
      · exact h6 x hx
    · rcases h8 x hx with h | h
      · exact .inl (List.mem_cons_of_mem _ h)
      · exact .inr h
  | @new c cs m l m1 l1 m' l' hm _ _ ih1 ih2 =>
    intro hl hc
    have hcr := hc c List.mem_cons_self
    obtain ⟨n1, a1, a2, a3, a4, a5, a6, a7, a8⟩ := ih1 (by rw [meet_len, hl]) (fun v hv => hok _ v hv)
    obtain ⟨n2, b1, b2, b3, b4, b5, b6, b7, b8⟩ := ih2 (by rw [a2, meet_len, hl]) (fun c h => hc c (List.mem_cons_of_mem _ h))
    rw [meet_len] at a2
    have mm : ∀ x, 0 ≤ x → (metB (meet m c) x = true ↔ metB m x = true ∨ x = c) := fun x hx => met_meet hcr.1 (by omega) hx
    have up : ∀ x, 0 ≤ x → metB m1 x = true → metB m' x = true := fun x hx h => (b3 x hx).2 (.inl h)
    have hc1 : metB m1 c = true := (a3 c hcr.1).2 (.inl ((mm c hcr.1).2 (.inr rfl)))
    have f1 : ∀ x ∈ n1, 0 ≤ x ∧ x < m.length ∧ metB m x = false ∧ x ≠ c := fun x hx => by
      obtain ⟨p1, p2, p3⟩ := a5 x hx
      rw [meet_len] at p2
      refine ⟨p1, p2, ?_, ?_⟩
      · exact Bool.eq_false_iff.2 fun h => by rw [(mm x p1).2 (.inl h)] at p3; cases p3
      · intro h; rw [(mm x p1).2 (.inr h)] at p3; cases p3
    have f2 : ∀ x ∈ n2, 0 ≤ x ∧ x < m.length ∧ metB m x = false ∧ x ≠ c ∧ x ∉ n1 := fun x hx => by
      obtain ⟨p1, p2, p3⟩ := b5 x hx
      rw [a2] at p2
      have hn : ¬ (metB (meet m c) x = true ∨ x ∈ n1) := fun h => by rw [(a3 x p1).2 h] at p3; cases p3
      refine ⟨p1, p2, ?_, ?_, fun h => hn (.inr h)⟩
      · exact Bool.eq_false_iff.2 fun h => hn (.inl ((mm x p1).2 (.inl h)))
      · intro h; exact hn (.inl ((mm x p1).2 (.inr h)))
    refine ⟨n1 ++ (c :: n2), by rw [b1, a1]; simp, by rw [b2, a2], fun x hx => ?_, ?_, fun x hx => ?_, fun x hx => ?_, fun x hx v hv => ?_, fun x hx => ?_⟩
    · rw [b3 x hx, a3 x hx, mm x hx]
      simp only [List.mem_append, List.mem_cons]
      constructor
      · rintro (((h | h) | h) | h)
        · exact .inl h
        · exact .inr (.inr (.inl h))
        · exact .inr (.inl h)
        · exact .inr (.inr (.inr h))
      · rintro (h | h | h | h)
        · exact .inl (.inl (.inl h))
        · exact .inl (.inr h)
        · exact .inl (.inl (.inr h))
        · exact .inr h
    · rw [List.nodup_append]
      refine ⟨a4, List.nodup_cons.2 ⟨fun h => (f2 c h).2.2.2.1 rfl, b4⟩, fun x hx y hy e => ?_⟩
      subst e
      rcases List.mem_cons.1 hy with h | h
      · exact (f1 x hx).2.2.2 h
      · exact (f2 x h).2.2.2.2 hx
    · simp only [List.mem_append, List.mem_cons] at hx
      rcases hx with h | rfl | h
      · exact ⟨(f1 x h).1, (f1 x h).2.1, (f1 x h).2.2.1⟩
      · exact ⟨hcr.1, by omega, hm⟩
      · exact ⟨(f2 x h).1, (f2 x h).2.1, (f2 x h).2.2.1⟩
    · rcases List.mem_cons.1 hx with rfl | h
      · exact up x hcr.1 hc1
      · exact b6 x h
    · have hv0 := (hok _ v hv).1
      simp only [List.mem_append, List.mem_cons] at hx
      rcases hx with h | rfl | h
      · exact up v hv0 (a7 x h v hv)
      · exact up v hv0 (a6 v hv)
      · exact b7 x h v hv
    · simp only [List.mem_append, List.mem_cons] at hx
      rcases hx with h | rfl | h
      · rcases a8 x h with h | ⟨y, hy, h⟩
        · exact .inr ⟨c, by simp, h⟩
        · exact .inr ⟨y, by simp [hy], h⟩
      · exact .inl List.mem_cons_self
      · rcases b8 x h with h | ⟨y, hy, h⟩
        · exact .inl (List.mem_cons_of_mem _ h)
        · exact .inr ⟨y, by simp [hy], h⟩
/-- What is reached. -/
structure ReachOk (f : FunV) (l : List Int) : Prop where
  rng : ∀ y ∈ l, 0 ≤ y ∧ y < f.blocks.length
  nod : l.Nodup
  fwd : ∀ y ∈ l, ∀ v ∈ nxt f y.toNat, v ∈ l
  prd : ∀ y ∈ l, y = 0 ∨ ∃ a ∈ l, y ∈ nxt f a.toNat
  zer : (0 : Int) ∈ l
theorem metB_rep (n : Nat) (x : Int) : metB (List.replicate n false) x = false := by
  unfold metB
  simp [List.getD, List.getElem?_replicate]
  split <;> rfl
theorem order_reach {f : FunV} {l : List Int} (hok : FlowOk f) (h1 : 1 ≤ f.blocks.length) (h : OrderOf f l) : ReachOk f l := by
  obtain ⟨m', x, h, rfl⟩ := h
  obtain ⟨new, a1, a2, a3, a4, a5, a6, a7, a8⟩ := h.spec hok.2.2 (by simp) (by intro c hc; simp at hc; subst hc; omega)
  rw [List.nil_append] at a1
  subst a1
  simp only [List.length_replicate] at a5
  have hm : ∀ y, 0 ≤ y → (metB m' y = true ↔ y ∈ x) := fun y hy => by rw [a3 y hy, metB_rep]; simp
  refine ⟨fun y hy => ?_, (List.reverse_perm x).nodup_iff.2 a4, fun y hy v hv => ?_, fun y hy => ?_, ?_⟩
  · have := a5 y (List.mem_reverse.1 hy); exact ⟨this.1, this.2.1⟩
  · have := a7 y (List.mem_reverse.1 hy) v hv
    exact List.mem_reverse.2 ((hm v (hok.2.2 _ v hv).1).1 this)
  · rcases a8 y (List.mem_reverse.1 hy) with h | ⟨a, ha, h⟩
    · left; simpa using h
    · exact .inr ⟨a, List.mem_reverse.2 ha, h⟩
  · exact List.mem_reverse.2 ((hm 0 (by omega)).1 (a6 0 (by simp)))
/-- The marks of what is on a list. -/
def markOf (n : Nat) (xs : List Int) : List Bool := (List.range n).map (fun b : Nat => decide ((b : Int) ∈ xs))
theorem markOf_len (n : Nat) (xs : List Int) : (markOf n xs).length = n := by simp [markOf]
theorem markOf_get {n b : Nat} (xs : List Int) (hb : b < n) : (markOf n xs)[b]? = some (decide ((b : Int) ∈ xs)) := by simp [markOf, hb]
theorem markOf_add {n : Nat} {xs : List Int} {y : Int} (h0 : 0 ≤ y) (hy : y < n) : markOf n (xs ++ [y]) = (markOf n xs).set y.toNat true := by
  apply List.ext_getElem?
  intro i
  by_cases hi : i < n
  · rw [markOf_get _ hi]
    by_cases e : y.toNat = i
    · subst e
      rw [List.getElem?_set_self (by rw [markOf_len]; exact hi)]
      have : ((y.toNat : Nat) : Int) = y := by omega
      simp [this]
    · rw [List.getElem?_set_ne e, markOf_get _ hi]
      have : ¬ ((i : Nat) : Int) = y := by omega
      simp [this]
  · rw [List.getElem?_eq_none (by rw [markOf_len]; omega), List.getElem?_eq_none (by rw [List.length_set, markOf_len]; omega)]
end Go.Proofs.YteoopilmdlhkhaaDoor
namespace Go.Proofs.YteoopilmdlhkhaaDoor
open Go.RowKit

/-- All blocks but g are as they were. -/
structure But (g : Nat) (w w' : World) : Prop where
  os : w'.os = w.os
  tape : w'.tape = w.tape
  output : w'.output = w.output
  size : w.heap.size ≤ w'.heap.size
  block : ∀ k, k < w.heap.size → k ≠ g → w'.heap[k]? = w.heap[k]?
theorem But.refl (g : Nat) (w : World) : But g w w := ⟨rfl, rfl, rfl, Nat.le_refl _, fun _ _ _ => rfl⟩
theorem But.set {g : Nat} {w w1 : World} (h : But g w w1) {j : Nat} {v : Value} : But g w (w1.setCell ⟨g, j, none⟩ v) :=
  ⟨h.os, h.tape, h.output, by rw [World.size_setCell]; exact h.size, fun k hk hg => (heap_setCell_other w1 ⟨g, j, none⟩ k v hg).trans (h.block k hk hg)⟩
theorem But.below {g B : Nat} {w0 w w1 : World} (h : But g w w1) (hb : Below B w0 w) (hg : B ≤ g) (hB : B ≤ w.heap.size) : Below B w0 w1 := hb.trans ⟨h.os, h.tape, h.output, h.size, fun k hk => h.block k (by omega) (by omega)⟩
theorem But.box {g k : Nat} {w w1 : World} {cs : Array Value} {T : TypeId} (h : But g w w1) (b : Box w k cs T) (hk : k ≠ g) : Box w1 k cs T := (h.block k b.lt hk).trans b
theorem But.sl {g B : Nat} {w w1 : World} {A : Option Addr} {zs : List Int} (h : But g w w1) (hs : Sl w B .i64 A zs) (hB : B ≤ w.heap.size) (hA : ∀ b o, A = some ⟨b, o, none⟩ → b ≠ g) : Sl w1 B .i64 A zs := fun hp => by
  obtain ⟨b, o, e, hb, hc⟩ := hs hp
  exact ⟨b, o, e, hb, fun j hj => (World.cell?_of_block (a := ⟨b, o + j, none⟩) (h.block b (by omega) (hA b o e))).trans (hc j hj)⟩
def MarkW (w : World) (bm n : Nat) (xs : List Int) : Prop := Box w bm ((markOf n xs).map Value.bool).toArray 4
theorem MarkW.cell {w : World} {bm n b : Nat} {xs : List Int} (h : MarkW w bm n xs) (hb : b < n) : w.cell? ⟨bm, b, none⟩ = some (.bool (decide ((b : Int) ∈ xs))) ∧ w.frozen? ⟨bm, b, none⟩ = false :=
  Box.cell h b (by simp [markOf_get xs hb])
theorem MarkW.add {w : World} {bm n : Nat} {xs : List Int} {y : Nat} (h : MarkW w bm n xs) (hy : y < n) : MarkW (w.setCell ⟨bm, y, none⟩ (.bool true)) bm n (xs ++ [(y : Int)]) := by
  have := Box.set h y (.bool true)
  unfold MarkW
  rw [markOf_add (by omega) (by omega)]
  simpa [List.map_set] using this
end Go.Proofs.YteoopilmdlhkhaaDoor
namespace Go.Proofs.YteoopilmdlhkhaaDoor
open Go.RowKit

def MB (w : World) (bm : Nat) (m : List Bool) : Prop := Box w bm (m.map Value.bool).toArray 4
theorem MB.cell {w : World} {bm : Nat} {m : List Bool} {b : Nat} (h : MB w bm m) (hb : b < m.length) : w.cell? ⟨bm, b, none⟩ = some (.bool (metB m (b : Int))) ∧ w.frozen? ⟨bm, b, none⟩ = false :=
  Box.cell h b (by simp [metB, List.getD_eq_getElem?_getD, List.getElem?_eq_getElem hb])
theorem MB.set {w : World} {bm : Nat} {m : List Bool} (h : MB w bm m) (y : Nat) : MB (w.setCell ⟨bm, y, none⟩ (.bool true)) bm (m.set y true) := by
  have := Box.set h y (.bool true)
  unfold MB
  simpa [List.map_set] using this
end Go.Proofs.YteoopilmdlhkhaaDoor
namespace Go.Proofs.YteoopilmdlhkhaaDoor

/-- A way leads from a to b. -/
def Pth (f : FunV) (a b : Int) : Prop := ∀ P : Int → Prop, P a → (∀ x : Nat, P x → ∀ v ∈ nxt f x, P v) → P b
theorem Pth.refl (f : FunV) (a : Int) : Pth f a a := fun _ h _ => h
theorem Pth.trans {f : FunV} {a b c : Int} (h : Pth f a b) (h' : Pth f b c) : Pth f a c := fun P ha hs => h' P (h P ha hs) hs
theorem Pth.step {f : FunV} {a b : Int} (h0 : 0 ≤ a) (h : b ∈ nxt f a.toNat) : Pth f a b := fun P ha hs => by
  obtain ⟨n, rfl⟩ : ∃ n : Nat, a = n := ⟨a.toNat, by omega⟩
  exact hs n ha b h
def Bef (l : List Int) (v x : Int) : Prop := ∃ s t, l = s ++ x :: t ∧ v ∈ s
theorem Bef.left {l r : List Int} {v x : Int} (h : Bef l v x) : Bef (l ++ r) v x := by
  obtain ⟨s, t, rfl, hv⟩ := h
  exact ⟨s, t ++ r, by simp, hv⟩
theorem Bef.right {l r : List Int} {v x : Int} (h : Bef l v x) : Bef (r ++ l) v x := by
  obtain ⟨s, t, rfl, hv⟩ := h
  exact ⟨r ++ s, t, by simp, by simp [hv]⟩
def placeN (l : List Int) (y : Int) : Int := if y ∈ l then ((l.idxOf y + 1 : Nat) : Int) else 0
theorem placeN_snoc {l : List Int} {y b : Int} (hy : y ∉ l) : placeN (l ++ [y]) b = if b = y then ((l.length + 1 : Nat) : Int) else placeN l b := by
  by_cases h : b = y
  · subst h
    unfold placeN
    rw [if_pos (by simp), if_pos rfl, List.idxOf_append, if_neg hy]
    simp
  · rw [if_neg h]
    unfold placeN
    by_cases hb : b ∈ l
    · rw [if_pos (by simp [hb]), if_pos hb, List.idxOf_append, if_pos hb]
    · rw [if_neg (by simp [hb, h]), if_neg hb]
def placeOf (n : Nat) (xs : List Int) : List Int := (List.range n).map (fun b : Nat => placeN xs (b : Int))
theorem placeOf_add {n : Nat} {xs : List Int} {y : Nat} (hy : y < n) (hn : (y : Int) ∉ xs) : placeOf n (xs ++ [(y : Int)]) = (placeOf n xs).set y ((xs.length + 1 : Nat) : Int) := by
  apply List.ext_getElem
  · simp [placeOf]
  · intro i h1 h2
    have hi : i < n := by simpa [placeOf] using h1
    rw [List.getElem_set]
    simp only [placeOf, List.getElem_map, List.getElem_range]
    rw [placeN_snoc hn]
    by_cases e : y = i
    · subst e; simp
    · rw [if_neg (by omega), if_neg e]
def PlaceW (w : World) (bp n : Nat) (xs : List Int) : Prop := Box w bp ((placeOf n xs).map (Value.int .i64)).toArray 3
theorem PlaceW.cell {w : World} {bp n b : Nat} {xs : List Int} (h : PlaceW w bp n xs) (hb : b < n) : w.cell? ⟨bp, b, none⟩ = some (.int .i64 (placeN xs (b : Int))) ∧ w.frozen? ⟨bp, b, none⟩ = false :=
  Box.cell h b (by simp [placeOf, hb])
theorem PlaceW.add {w : World} {bp n : Nat} {xs : List Int} {y : Nat} (h : PlaceW w bp n xs) (hy : y < n) (hn : (y : Int) ∉ xs) : PlaceW (w.setCell ⟨bp, y, none⟩ (.int .i64 ((xs.length + 1 : Nat) : Int))) bp n (xs ++ [(y : Int)]) := by
  have := Box.set h y (.int .i64 ((xs.length + 1 : Nat) : Int))
  unfold PlaceW
  rw [placeOf_add hy hn]
  simpa [List.map_set] using this
end Go.Proofs.YteoopilmdlhkhaaDoor
