/- Plain mathematics: what a walk reaches. Condition: what comes next is there. -/
import Derived.Test.YtckpaikppgjfnaaGreatDoorNS
import Derived.Test.YtckpaikppgjfnaaGreatDoorNK
set_option linter.unusedSimpArgs false
set_option linter.unusedVariables false
namespace Go.Proofs.YtckpaikppgjfnaaGreatDoor

theorem met_meet {m : List Bool} {c x : Int} (hc : 0 ≤ c) (hcl : c < m.length) (hx : 0 ≤ x) : metB (meet m c) x = true ↔ metB m x = true ∨ x = c := by
  unfold metB meet
  by_cases h : x = c
  · subst h
    rw [List.getD_eq_getElem?_getD, List.getElem?_set_self (by omega)]
    simp
  · have hne : c.toNat ≠ x.toNat := by omega
    rw [List.getD_eq_getElem?_getD, List.getElem?_set_ne hne, ← List.getD_eq_getElem?_getD]
    simp [h]
def SpecD (f : FunV) (cs : List Int) (m : List Bool) (l : List Int) (m' : List Bool) (l' : List Int) : Prop :=
  ∃ new : List Int, l' = l ++ new ∧ m'.length = m.length ∧ (∀ x, 0 ≤ x → (metB m' x = true ↔ metB m x = true ∨ x ∈ new)) ∧ new.Nodup ∧ (∀ x ∈ new, 0 ≤ x ∧ x < m.length ∧ metB m x = false) ∧ (∀ c ∈ cs, metB m' c = true) ∧
    (∀ x ∈ new, ∀ v ∈ nxt f x.toNat, metB m' v = true) ∧ (∀ x ∈ new, x ∈ cs ∨ ∃ y ∈ new, x ∈ nxt f y.toNat)
theorem Dfs.spec {f : FunV} {cs : List Int} {m : List Bool} {l : List Int} {m' : List Bool} {l' : List Int} (h : Dfs f cs m l m' l') (hok : ∀ k v, v ∈ nxt f k → 0 ≤ v ∧ v < f.blocks.length) : m.length = f.blocks.length → (∀ c ∈ cs, 0 ≤ c ∧ c < f.blocks.length) → SpecD f cs m l m' l' := by
  induction h with
  | nil m l => intro _ _; exact ⟨[], by simp, rfl, fun x _ => by simp, List.nodup_nil, by simp, by simp, by simp, by simp⟩
  | @old c cs m l m' l' hm _ ih =>
    intro hl hc
    obtain ⟨new, h1, h2, h3, h4, h5, h6, h7, h8⟩ := ih hl (fun c h => hc c (List.mem_cons_of_mem _ h))
    refine ⟨new, h1, h2, h3, h4, h5, fun x hx => ?_, h7, fun x hx => ?_⟩
    · rcases List.mem_cons.1 hx with rfl | hx
      · exact (h3 x (hc x List.mem_cons_self).1).2 (.inl hm)
      · exact h6 x hx
    · rcases h8 x hx with h | h
      · exact .inl (List.mem_cons_of_mem _ h)
      · exact .inr h
  | @new c cs m l m1 l1 m' l' hm _ _ ih1 ih2 =>
    intro hl hc
    have hcr := hc c List.mem_cons_self
    obtain ⟨n1, a1, a2, a3, a4, a5, a6, a7, a8⟩ := ih1 (by rw [meet_len, hl]) (fun v hv => hok _ v hv)
    obtain ⟨n2, b1, b2, b3, b4, b5, b6, b7, b8⟩ := ih2 (by rw [a2, meet_len, hl]) (fun c h => hc c (List.mem_cons_of_mem _ h))
    rw [meet_len] at a2
    have mm : ∀ x, 0 ≤ x → (metB (meet m c) x = true ↔ metB m x = true ∨ x = c) := fun x hx => met_meet hcr.1 (by omega) hx
    have up : ∀ x, 0 ≤ x → metB m1 x = true → metB m' x = true := fun x hx h => (b3 x hx).2 (.inl h)
    have hc1 : metB m1 c = true := (a3 c hcr.1).2 (.inl ((mm c hcr.1).2 (.inr rfl)))
    have f1 : ∀ x ∈ n1, 0 ≤ x ∧ x < m.length ∧ metB m x = false ∧ x ≠ c := fun x hx => by
      obtain ⟨p1, p2, p3⟩ := a5 x hx
      rw [meet_len] at p2
      refine ⟨p1, p2, ?_, ?_⟩
      · exact Bool.eq_false_iff.2 fun h => by rw [(mm x p1).2 (.inl h)] at p3; cases p3
      · intro h; rw [(mm x p1).2 (.inr h)] at p3; cases p3
    have f2 : ∀ x ∈ n2, 0 ≤ x ∧ x < m.length ∧ metB m x = false ∧ x ≠ c ∧ x ∉ n1 := fun x hx => by
      obtain ⟨p1, p2, p3⟩ := b5 x hx
      rw [a2] at p2
      have hn : ¬ (metB (meet m c) x = true ∨ x ∈ n1) := fun h => by rw [(a3 x p1).2 h] at p3; cases p3
      refine ⟨p1, p2, ?_, ?_, fun h => hn (.inr h)⟩
      · exact Bool.eq_false_iff.2 fun h => hn (.inl ((mm x p1).2 (.inl h)))
      · intro h; exact hn (.inl ((mm x p1).2 (.inr h)))
    refine ⟨n1 ++ (c :: n2), by rw [b1, a1]; simp, by rw [b2, a2], fun x hx => ?_, ?_, fun x hx => ?_, fun x hx => ?_, fun x hx v hv => ?_, fun x hx => ?_⟩
    · rw [b3 x hx, a3 x hx, mm x hx]
      simp only [List.mem_append, List.mem_cons]
      constructor
      · rintro (((h | h) | h) | h)
        · exact .inl h
        · exact .inr (.inr (.inl h))
        · exact .inr (.inl h)
        · exact .inr (.inr (.inr h))
      · rintro (h | h | h | h)
        · exact .inl (.inl (.inl h))
        · exact .inl (.inr h)
        · exact .inl (.inl (.inr h))
        · exact .inr h
    · rw [List.nodup_append]
      refine ⟨a4, List.nodup_cons.2 ⟨fun h => (f2 c h).2.2.2.1 rfl, b4⟩, fun x hx y hy e => ?_⟩
      subst e
      rcases List.mem_cons.1 hy with h | h
      · exact (f1 x hx).2.2.2 h
      · exact (f2 x h).2.2.2.2 hx
    · simp only [List.mem_append, List.mem_cons] at hx
      rcases hx with h | rfl | h
      · exact ⟨(f1 x h).1, (f1 x h).2.1, (f1 x h).2.2.1⟩
      · exact ⟨hcr.1, by omega, hm⟩
      · exact ⟨(f2 x h).1, (f2 x h).2.1, (f2 x h).2.2.1⟩
    · rcases List.mem_cons.1 hx with rfl | h
      · exact up x hcr.1 hc1
      · exact b6 x h
    · have hv0 := (hok _ v hv).1
      simp only [List.mem_append, List.mem_cons] at hx
      rcases hx with h | rfl | h
      · exact up v hv0 (a7 x h v hv)
      · exact up v hv0 (a6 v hv)
      · exact b7 x h v hv
    · simp only [List.mem_append, List.mem_cons] at hx
      rcases hx with h | rfl | h
      · rcases a8 x h with h | ⟨y, hy, h⟩
        · exact .inr ⟨c, by simp, h⟩
        · exact .inr ⟨y, by simp [hy], h⟩
      · exact .inl List.mem_cons_self
      · rcases b8 x h with h | ⟨y, hy, h⟩
        · exact .inl (List.mem_cons_of_mem _ h)
        · exact .inr ⟨y, by simp [hy], h⟩
/-- What is reached. -/
structure ReachOk (f : FunV) (l : List Int) : Prop where
  rng : ∀ y ∈ l, 0 ≤ y ∧ y < f.blocks.length
  nod : l.Nodup
  fwd : ∀ y ∈ l, ∀ v ∈ nxt f y.toNat, v ∈ l
  prd : ∀ y ∈ l, y = 0 ∨ ∃ a ∈ l, y ∈ nxt f a.toNat
  zer : (0 : Int) ∈ l
theorem metB_rep (n : Nat) (x : Int) : metB (List.replicate n false) x = false := by
  unfold metB
  simp [List.getD, List.getElem?_replicate]
  split <;> rfl
theorem order_reach {f : FunV} {l : List Int} (hok : FlowOk f) (h1 : 1 ≤ f.blocks.length) (h : OrderOf f l) : ReachOk f l := by
  obtain ⟨m', x, h, rfl⟩ := h
  obtain ⟨new, a1, a2, a3, a4, a5, a6, a7, a8⟩ := h.spec hok.2.2 (by simp) (by intro c hc; simp at hc; subst hc; omega)
  rw [List.nil_append] at a1
  subst a1
  simp only [List.length_replicate] at a5
  have hm : ∀ y, 0 ≤ y → (metB m' y = true ↔ y ∈ x) := fun y hy => by rw [a3 y hy, metB_rep]; simp
  refine ⟨fun y hy => ?_, (List.reverse_perm x).nodup_iff.2 a4, fun y hy v hv => ?_, fun y hy => ?_, ?_⟩
  · have := a5 y (List.mem_reverse.1 hy); exact ⟨this.1, this.2.1⟩
  · have := a7 y (List.mem_reverse.1 hy) v hv
    exact List.mem_reverse.2 ((hm v (hok.2.2 _ v hv).1).1 this)
  · rcases a8 y (List.mem_reverse.1 hy) with h | ⟨a, ha, h⟩
    · left; simpa using h
    · exact .inr ⟨a, List.mem_reverse.2 ha, h⟩
  · exact List.mem_reverse.2 ((hm 0 (by omega)).1 (a6 0 (by simp)))
theorem mem_sortL {l : List Int} {x : Int} : x ∈ sortL l ↔ x ∈ l := List.mem_mergeSort
theorem sort_reach {f : FunV} {l : List Int} (h : ReachOk f l) : ReachOk f (sortL l) where
  rng := fun y hy => h.rng y (mem_sortL.1 hy)
  nod := (List.mergeSort_perm l _).nodup_iff.2 h.nod
  fwd := fun y hy v hv => mem_sortL.2 (h.fwd y (mem_sortL.1 hy) v hv)
  prd := fun y hy => by
    rcases h.prd y (mem_sortL.1 hy) with h | ⟨a, ha, h⟩
    · exact .inl h
    · exact .inr ⟨a, mem_sortL.2 ha, h⟩
  zer := mem_sortL.2 h.zer
/-- The marks of what is on a list. -/
def markOf (n : Nat) (xs : List Int) : List Bool := (List.range n).map (fun b : Nat => decide ((b : Int) ∈ xs))
theorem markOf_len (n : Nat) (xs : List Int) : (markOf n xs).length = n := by simp [markOf]
theorem markOf_nil (n : Nat) : markOf n [] = List.replicate n false := by
  unfold markOf
  apply List.ext_getElem
  · simp
  · intro i h1 h2; simp
theorem markOf_get {n b : Nat} (xs : List Int) (hb : b < n) : (markOf n xs)[b]? = some (decide ((b : Int) ∈ xs)) := by simp [markOf, hb]
theorem markOf_add {n : Nat} {xs : List Int} {y : Int} (h0 : 0 ≤ y) (hy : y < n) : markOf n (xs ++ [y]) = (markOf n xs).set y.toNat true := by
  apply List.ext_getElem?
  intro i
  by_cases hi : i < n
  · rw [markOf_get _ hi]
    by_cases e : y.toNat = i
    · subst e
      rw [List.getElem?_set_self (by rw [markOf_len]; exact hi)]
      have : ((y.toNat : Nat) : Int) = y := by omega
      simp [this]
    · rw [List.getElem?_set_ne e, markOf_get _ hi]
      have : ¬ ((i : Nat) : Int) = y := by omega
      simp [this]
  · rw [List.getElem?_eq_none (by rw [markOf_len]; omega), List.getElem?_eq_none (by rw [List.length_set, markOf_len]; omega)]
theorem take_snocI {l : List Int} {k : Nat} {y : Int} (h : l[k]? = some y) : l.take (k + 1) = l.take k ++ [y] := by rw [List.take_add_one, h]; rfl
theorem nodup_take {l : List Int} {k : Nat} {y : Int} (hn : l.Nodup) (h : l[k]? = some y) : y ∉ l.take k := by
  intro hm
  have hk := (List.getElem?_eq_some_iff.1 h).1
  have : (l.take (k + 1)).Nodup := hn.sublist (List.take_sublist _ _)
  rw [take_snocI h, List.nodup_append] at this
  exact this.2.2 y hm y (by simp) rfl
end Go.Proofs.YtckpaikppgjfnaaGreatDoor
namespace Go.Proofs.YtckpaikppgjfnaaGreatDoor
open Go.RowKit

/-- All blocks but g are as they were. -/
structure But (g : Nat) (w w' : World) : Prop where
  os : w'.os = w.os
  tape : w'.tape = w.tape
  output : w'.output = w.output
  size : w.heap.size ≤ w'.heap.size
  block : ∀ k, k < w.heap.size → k ≠ g → w'.heap[k]? = w.heap[k]?
theorem But.refl (g : Nat) (w : World) : But g w w := ⟨rfl, rfl, rfl, Nat.le_refl _, fun _ _ _ => rfl⟩
theorem But.set {g : Nat} {w w1 : World} (h : But g w w1) {j : Nat} {v : Value} : But g w (w1.setCell ⟨g, j, none⟩ v) :=
  ⟨h.os, h.tape, h.output, by rw [World.size_setCell]; exact h.size, fun k hk hg => (heap_setCell_other w1 ⟨g, j, none⟩ k v hg).trans (h.block k hk hg)⟩
theorem But.below {g B : Nat} {w0 w w1 : World} (h : But g w w1) (hb : Below B w0 w) (hg : B ≤ g) (hB : B ≤ w.heap.size) : Below B w0 w1 := hb.trans ⟨h.os, h.tape, h.output, h.size, fun k hk => h.block k (by omega) (by omega)⟩
theorem But.box {g k : Nat} {w w1 : World} {cs : Array Value} {T : TypeId} (h : But g w w1) (b : Box w k cs T) (hk : k ≠ g) : Box w1 k cs T := (h.block k b.lt hk).trans b
theorem But.sl {g B : Nat} {w w1 : World} {A : Option Addr} {zs : List Int} (h : But g w w1) (hs : Sl w B .i64 A zs) (hB : B ≤ w.heap.size) (hA : ∀ b o, A = some ⟨b, o, none⟩ → b ≠ g) : Sl w1 B .i64 A zs := fun hp => by
  obtain ⟨b, o, e, hb, hc⟩ := hs hp
  exact ⟨b, o, e, hb, fun j hj => (World.cell?_of_block (a := ⟨b, o + j, none⟩) (h.block b (by omega) (hA b o e))).trans (hc j hj)⟩
def MarkW (w : World) (bm n : Nat) (xs : List Int) : Prop := Box w bm ((markOf n xs).map Value.bool).toArray 4
theorem MarkW.cell {w : World} {bm n b : Nat} {xs : List Int} (h : MarkW w bm n xs) (hb : b < n) : w.cell? ⟨bm, b, none⟩ = some (.bool (decide ((b : Int) ∈ xs))) ∧ w.frozen? ⟨bm, b, none⟩ = false :=
  Box.cell h b (by simp [markOf_get xs hb])
theorem MarkW.add {w : World} {bm n : Nat} {xs : List Int} {y : Nat} (h : MarkW w bm n xs) (hy : y < n) : MarkW (w.setCell ⟨bm, y, none⟩ (.bool true)) bm n (xs ++ [(y : Int)]) := by
  have := Box.set h y (.bool true)
  unfold MarkW
  rw [markOf_add (by omega) (by omega)]
  simpa [List.map_set] using this
theorem pred_none {pn sl : List Int} {j : Nat} {y : Int} {z : Prop} (h : false = true ↔ (z ∨ ∃ a ∈ pn.take j, a ∈ sl)) (hy : pn[j]? = some y) (hn : y ∉ sl) : (false = true ↔ (z ∨ ∃ a ∈ pn.take (j + 1), a ∈ sl)) := by
  have hno : ¬ (z ∨ ∃ a ∈ pn.take j, a ∈ sl) := fun hx => by have := h.2 hx; cases this
  simp only [Bool.false_eq_true, false_iff]
  rintro (hz | ⟨a, ha, hs⟩)
  · exact hno (.inl hz)
  · rw [take_snocI hy, List.mem_append] at ha
    rcases ha with ha | ha
    · exact hno (.inr ⟨a, ha, hs⟩)
    · simp at ha; subst ha; exact hn hs
theorem pred_hit {pn sl : List Int} {j : Nat} {y : Int} {z : Prop} (hy : pn[j]? = some y) (hn : y ∈ sl) : (true = true ↔ (z ∨ ∃ a ∈ pn.take (j + 1), a ∈ sl)) := by
  simp only [true_iff]
  exact .inr ⟨y, by rw [take_snocI hy]; simp, hn⟩
theorem pred_yes {pn sl : List Int} {j : Nat} {z : Prop} (h : true = true ↔ (z ∨ ∃ a ∈ pn.take j, a ∈ sl)) : (true = true ↔ (z ∨ ∃ a ∈ pn.take (j + 1), a ∈ sl)) := by
  simp only [true_iff]
  rcases h.1 rfl with h | ⟨a, ha, hs⟩
  · exact .inl h
  · refine .inr ⟨a, ?_, hs⟩
    rw [List.take_add_one]
    exact List.mem_append_left _ ha
theorem prevN_nat {f : FunV} {z v : Int} (h : v ∈ prevN f z) : ∃ a : Nat, v = a ∧ a < f.blocks.length := by
  unfold prevN at h
  simp only [List.mem_map, List.mem_filter, beq_iff_eq] at h
  obtain ⟨⟨x, y⟩, ⟨h1, rfl⟩, rfl⟩ := h
  unfold edgesN edgesTo at h1
  simp only [List.mem_flatMap, List.mem_map, List.mem_range, Prod.mk.injEq] at h1
  obtain ⟨i, hi, u, hu, h1, rfl⟩ := h1
  exact ⟨i, h1.symm, hi⟩
theorem ReachOk.prev {f : FunV} {l : List Int} (h : ReachOk f l) {z : Int} (hz : z ∈ l) : z = 0 ∨ ∃ a ∈ prevN f z, a ∈ l := by
  rcases h.prd z hz with h0 | ⟨a, ha, hv⟩
  · exact .inl h0
  · obtain ⟨h1, h2⟩ := h.rng a ha
    obtain ⟨n, rfl⟩ : ∃ n : Nat, a = n := ⟨a.toNat, by omega⟩
    exact .inr ⟨n, (mem_prevN (by omega)).2 hv, ha⟩
theorem prevN_len80 {f : FunV} (hok : FlowOk f) (z : Int) : (prevN f z).length ≤ 80 := by
  have hel := edgesN_len hok
  have : (prevN f z).length ≤ (edgesN f).length := by unfold prevN; rw [List.length_map]; exact List.length_filter_le _ _
  omega
def InL (w7 : World) (bm n : Nat) (sl : List Int) (k : Nat) (wr : World) : Prop := MarkW wr bm n (sl.take k) ∧ But bm w7 wr
end Go.Proofs.YtckpaikppgjfnaaGreatDoor
namespace Go.Proofs.YtckpaikppgjfnaaGreatDoor
open Go.RowKit

def MB (w : World) (bm : Nat) (m : List Bool) : Prop := Box w bm (m.map Value.bool).toArray 4
theorem MB.cell {w : World} {bm : Nat} {m : List Bool} {b : Nat} (h : MB w bm m) (hb : b < m.length) : w.cell? ⟨bm, b, none⟩ = some (.bool (metB m (b : Int))) ∧ w.frozen? ⟨bm, b, none⟩ = false :=
  Box.cell h b (by simp [metB, List.getD_eq_getElem?_getD, List.getElem?_eq_getElem hb])
theorem MB.set {w : World} {bm : Nat} {m : List Bool} (h : MB w bm m) (y : Nat) : MB (w.setCell ⟨bm, y, none⟩ (.bool true)) bm (m.set y true) := by
  have := Box.set h y (.bool true)
  unfold MB
  simpa [List.map_set] using this
def Clo (f : FunV) (m : List Bool) : Prop := ∀ x : Nat, metB m x = true → ∀ v ∈ nxt f x, metB m v = true
structure WG (f : FunV) (a : Nat) (m : List Bool) : Prop where
  len : m.length = f.blocks.length
  snd : ∀ P : Int → Prop, P a → (∀ x : Nat, P x → ∀ v ∈ nxt f x, P v) → ∀ x : Nat, metB m x = true → P x
  met : metB m a = true
def WI (f : FunV) (a t : Nat) (m : List Bool) : Prop := WG f a m ∧ (Clo f m ∨ m.count false + t + 1 ≤ f.blocks.length)
def WJ (f : FunV) (a : Nat) (m0 : List Bool) (i : Nat) (m : List Bool) : Prop :=
  WG f a m ∧ (m.count false < m0.count false ∨ (m = m0 ∧ ∀ x : Nat, x < i → metB m0 x = true → ∀ v ∈ nxt f x, metB m0 v = true)) ∧ (Clo f m0 → m = m0)
def WK (f : FunV) (a : Nat) (m0 : List Bool) (i k : Nat) (m : List Bool) : Prop :=
  WJ f a m0 i m ∧ (m = m0 → metB m0 i = true → ∀ v ∈ (nxt f i).take k, metB m0 v = true)
theorem metB_lt {m : List Bool} {x : Nat} (h : metB m x = true) : x < m.length := by
  apply Classical.byContradiction; intro hc
  unfold metB at h
  rw [Int.toNat_natCast, List.getD_eq_getElem?_getD, List.getElem?_eq_none (by omega)] at h
  cases h
theorem meet_old {m : List Bool} {y : Nat} (h : metB m y = true) : m.set y true = m := by
  have hl := metB_lt h
  unfold metB at h
  rw [Int.toNat_natCast, List.getD_eq_getElem?_getD, List.getElem?_eq_getElem hl] at h
  simp only [Option.getD_some] at h
  apply List.ext_getElem (by simp)
  intro i h1 h2
  rw [List.getElem_set]
  split
  · rename_i e; subst e; exact h.symm
  · rfl
theorem wi_start {f : FunV} {a : Nat} (ha : a < f.blocks.length) : WI f a 0 ((List.replicate f.blocks.length false).set a true) := by
  have hf : metB (List.replicate f.blocks.length false) (a : Int) = false := metB_rep _ _
  have hc := count_meet (m := List.replicate f.blocks.length false) (c := (a : Int)) (by simpa using ha) hf
  have hm : ∀ x : Int, 0 ≤ x → (metB (meet (List.replicate f.blocks.length false) (a : Int)) x = true ↔ metB (List.replicate f.blocks.length false) x = true ∨ x = a) := fun x hx => met_meet (by omega) (by simpa using ha) hx
  have e : meet (List.replicate f.blocks.length false) (a : Int) = (List.replicate f.blocks.length false).set a true := rfl
  rw [e] at hc hm
  refine ⟨⟨by simp, fun P hP _ x hx => ?_, (hm a (by omega)).2 (.inr rfl)⟩, .inr ?_⟩
  · rcases (hm x (by omega)).1 hx with h | h
    · rw [metB_rep] at h; cases h
    · rw [h]; exact hP
  · rw [List.count_replicate_self] at hc; omega
theorem wj_start {f : FunV} {a : Nat} {m : List Bool} (h : WG f a m) : WJ f a m 0 m := ⟨h, .inr ⟨rfl, fun x hx => by omega⟩, fun _ => rfl⟩
theorem wk_start {f : FunV} {a i : Nat} {m0 m : List Bool} (h : WJ f a m0 i m) : WK f a m0 i 0 m := ⟨h, fun _ _ v hv => by simp at hv⟩
theorem wk_step {f : FunV} {a i k y : Nat} {m0 m : List Bool} (h : WK f a m0 i k m) (hi : metB m i = true) (hy : (nxt f i)[k]? = some (y : Int)) (hyl : y < f.blocks.length) : WK f a m0 i (k + 1) (m.set y true) := by
  obtain ⟨⟨hg, hd, hc⟩, hk⟩ := h
  have hyn : (y : Int) ∈ nxt f i := List.mem_of_getElem? hy
  by_cases hm : metB m y = true
  · rw [meet_old hm]
    refine ⟨⟨hg, hd, hc⟩, fun e hi0 v hv => ?_⟩
    rw [take_snocI hy, List.mem_append] at hv
    rcases hv with hv | hv
    · exact hk e hi0 v hv
    · simp at hv; subst hv; subst e; exact hm
  · have hmf := Bool.eq_false_iff.2 hm
    have hl : (y : Int).toNat < m.length := by rw [hg.len]; simpa using hyl
    have hcm := count_meet hl hmf
    have hmm : ∀ x : Int, 0 ≤ x → (metB (meet m (y : Int)) x = true ↔ metB m x = true ∨ x = y) := fun x hx => met_meet (by omega) (by have := hg.len; omega) hx
    have e : meet m (y : Int) = m.set y true := rfl
    rw [e] at hcm hmm
    have hle : m.count false ≤ m0.count false := by
      rcases hd with h | ⟨rfl, -⟩
      · omega
      · omega
    refine ⟨⟨⟨by rw [List.length_set, hg.len], fun P hP hs x hx => ?_, (hmm a (by omega)).2 (.inl hg.met)⟩, .inl (by omega), fun hcl => ?_⟩, fun e2 => ?_⟩
    · rcases (hmm x (by omega)).1 hx with h | h
      · exact hg.snd P hP hs x h
      · rw [h]; exact hs i (hg.snd P hP hs i hi) _ hyn
    · have e0 := hc hcl
      subst e0
      exact absurd (hcl i hi _ hyn) hm
    · rw [e2] at hcm; omega
theorem wk_end {f : FunV} {a i k : Nat} {m0 m : List Bool} (h : WK f a m0 i k m) (hk : (nxt f i).length ≤ k ∨ metB m i = false) : WJ f a m0 (i + 1) m := by
  obtain ⟨⟨hg, hd, hc⟩, hkk⟩ := h
  refine ⟨hg, ?_, hc⟩
  rcases hd with hd | ⟨rfl, hd⟩
  · exact .inl hd
  · refine .inr ⟨rfl, fun x hx hm v hv => ?_⟩
    by_cases hxi : x < i
    · exact hd x hxi hm v hv
    · obtain rfl : x = i := by omega
      rcases hk with hk | hk
      · exact hkk rfl hm v (by rw [List.take_of_length_le hk]; exact hv)
      · rw [hk] at hm; cases hm
theorem wj_end {f : FunV} {a t i : Nat} {m0 m : List Bool} (h0 : WI f a t m0) (h : WJ f a m0 i m) (hi : f.blocks.length ≤ i) : WI f a (t + 1) m := by
  obtain ⟨hg, hd, hc⟩ := h
  refine ⟨hg, ?_⟩
  rcases h0.2 with h | h
  · rw [hc h]; exact .inl h
  · rcases hd with hd | ⟨rfl, hd⟩
    · exact .inr (by omega)
    · refine .inl fun x hx v hv => hd x ?_ hx v hv
      have := metB_lt hx
      have := hg.len
      omega
theorem wi_end {f : FunV} {a t : Nat} {m : List Bool} (h : WI f a t m) (ht : f.blocks.length ≤ t) : WG f a m ∧ Clo f m := by
  refine ⟨h.1, ?_⟩
  rcases h.2 with h | h
  · exact h
  · omega
def WTr (w6 : World) (bm : Nat) (f : FunV) (a t : Nat) (wr : World) : Prop := ∃ m, MB wr bm m ∧ Below bm w6 wr ∧ WI f a t m
def WIr (w6 : World) (bm : Nat) (f : FunV) (a : Nat) (m0 : List Bool) (i : Nat) (wr : World) : Prop := ∃ m, MB wr bm m ∧ Below bm w6 wr ∧ WJ f a m0 i m
def WKr (w8 : World) (bm : Nat) (f : FunV) (a : Nat) (m0 : List Bool) (i k : Nat) (wr : World) : Prop := ∃ m, MB wr bm m ∧ But bm w8 wr ∧ WK f a m0 i k m
set_option maxHeartbeats 4000000 in
set_option maxRecDepth 100000 in
theorem rwithin5_any (vk vb vs : Value) (f : FunV) (a : Nat) (w : World) (B : Nat) (hB : B ≤ w.heap.size) (hi : FunI w (· < B) vk vb vs f) (hok : FlowOk f) (ha : a < f.blocks.length) :
    Calls Tryz.prog 19 #[.agg #[vk, vb, .int .i64 f.params, .int .i64 f.result, vs], .int .i64 (a : Int), .int .i64 (-1)] w fun e w' => ∃ bm m, e = .returned (.slice (some ⟨bm, 0, none⟩) f.blocks.length f.blocks.length) ∧ w.heap.size ≤ bm ∧ MB w' bm m ∧ (WG f a m ∧ Clo f m) ∧ Below w.heap.size w w' := by
  obtain ⟨Ak, ck, rfl, hck, hmk⟩ := hi.1.open'
  obtain ⟨Ab, cb, rfl, hcb, hmb⟩ := hi.2.1.open'
  obtain ⟨As, cs, rfl, hcs, hms⟩ := hi.2.2.1.open'
  have HNX := hide (fun (W : World) (hW : Below w.heap.size w W) (k : Nat) (hk : k < f.blocks.length) => (show Calls Tryz.prog 41 #[.agg #[.slice Ak f.kinds.length ck, .slice Ab f.base.length cb, .int .i64 f.params, .int .i64 f.result, .slice As f.blocks.length cs], .int .i64 (k : Int)] W fun e w' => ∃ A c, e = .returned (.slice A (nxt f k).length c) ∧ Sl w' w'.heap.size .i64 A (nxt f k) ∧ (nxt f k).length ≤ c ∧ c ≤ 2 ∧ (∀ b o, A = some ⟨b, o, none⟩ → W.heap.size ≤ b) ∧ Below W.heap.size W w' by
    have h := rnextN_any _ _ _ f (k : Int) W B (by have := hW.size; omega) (hi.keep (up hW hB) (fun _ h => h)) hok
    rw [nxtI_nat hk] at h
    exact h))
  have hls40 := hok.1
  have hmake : ∀ W : World, (Instr.makeSlice 49 (.int .i64 (f.blocks.length : Int)) (.int .i64 (f.blocks.length : Int))).run Tryz.prog W = .ok (.slice (some ⟨W.heap.size, 0, none⟩) f.blocks.length f.blocks.length) (W.alloc (.cells (madeCells (Value.bool false).cells (f.blocks.length * 1)) 4)) := fun W => mk_run 49 4 Tryz.underlying49 info_bool (by omega) f.blocks.length (by omega) W
  obtain ⟨mc, hmc⟩ : ∃ mc, madeCells (Value.bool false).cells (f.blocks.length * 1) = mc := ⟨_, rfl⟩
  rw [hmc] at hmake
  have HMC := hide (show mc = ((List.replicate f.blocks.length false).map Value.bool).toArray by rw [← hmc]; exact madeCells_bool _)
  have HST := hide (wi_start ha)
  have HRNG := hide hok.2.2
  obtain ⟨ls, hls⟩ : ∃ ls, f.blocks.length = ls := ⟨_, rfl⟩
  have HLS := hide hls
  rw [hls] at HNX hls40 hmake HMC HST ha hcs ⊢
  generalize f.kinds.length = lk, f.base.length = lb, f.params = fp, f.result = fr at *
  clear hi hok hls hmc
  go_enter Tryz.func19, Tryz.ntmps19
  go_upto_region 1 with (fail)
  obtain ⟨w5, hw5⟩ : ∃ w5, w5 = w.alloc (.cells #[.slice Ak lk ck, .slice Ab lb cb, .int .i64 fp, .int .i64 fr, .slice As ls cs] 36) := ⟨_, rfl⟩
  obtain ⟨h5, hh5⟩ : ∃ h5, w.heap.size = h5 := ⟨_, rfl⟩
  have HX5 := hide (show Box w5 h5 #[.slice Ak lk ck, .slice Ab lb cb, .int .i64 fp, .int .i64 fr, .slice As ls cs] 36 by rw [hw5, ← hh5]; exact Box.new w _ _)
  have HB5 := hide (show Below w.heap.size w w5 by rw [hw5]; exact alloc1 w _)
  have h5w : h5 ≤ w.heap.size := by omega
  rw [← hw5, hh5]
  clear hw5 hh5
  have l5 := HX5.out.lt
  have c4 := (HX5.out.cell 4 (v := .slice As ls cs) rfl).1
  go_upto_region 2 with (fail)
  obtain ⟨w6, hw6⟩ : ∃ w6, w6 = w5.alloc (.cells mc 4) := ⟨_, rfl⟩
  obtain ⟨bm, hbm⟩ : ∃ bm, w5.heap.size = bm := ⟨_, rfl⟩
  have HM6 := hide (show MB w6 bm (List.replicate ls false) by unfold MB; rw [hw6, ← hbm, ← HMC.out]; exact Box.new w5 _ _)
  have HX6 := hide (show Box w6 h5 #[.slice Ak lk ck, .slice Ab lb cb, .int .i64 fp, .int .i64 fr, .slice As ls cs] 36 by rw [hw6]; exact HX5.out.alloc _)
  have HB6 := hide (show Below w.heap.size w w6 by rw [hw6]; exact HB5.out.alloc HB5.out.size _)
  have hs6 : w6.heap.size = bm + 1 := by rw [hw6, World.size_alloc, hbm]
  have HS6 := hide hs6
  have lb6 : bm < w6.heap.size := by omega
  have hwbm : w.heap.size ≤ bm := by rw [← hbm]; exact HB5.out.size
  have h5bm : h5 < bm := by omega
  rw [← hw6, hbm]
  clear hw6 hbm c4 l5 hmake HMC hs6
  have l6 : h5 < w6.heap.size := by omega
  have c4 := (HX6.out.cell 4 (v := .slice As ls cs) rfl).1
  have q1 : ((a : Int) == -1) = false := by first | (simp; done) | (simp; omega)
  have q2 : ¬ ls ≤ a := by omega
  have q3 : (0 : Int) ≤ (a : Int) := by omega
  have q4 : (a : Int) < (ls : Int) := by omega
  have q5 : ¬ (ls : Int) ≤ (a : Int) := by omega
  obtain ⟨mf6, mm6⟩ := (HM6.out.cell (b := a) (by simpa using ha))
  have HT6 := hide (show WTr w6 bm f a 0 (w6.setCell ⟨bm, a, none⟩ (.bool true)) from ⟨_, HM6.out.set a, (But.set (But.refl bm w6)).below (Below.refl _ _) (Nat.le_refl _) (by omega), HST.out⟩)
  go_wp2
  go_loopw [8] (fun i wr => ∃ t : Nat, t ≤ ls ∧ i = .int .i64 t ∧ Hid (WTr w6 bm f a t wr)) (fun i _ => ls - (intOf i).toNat)
  case atStart => exact ⟨0, Nat.zero_le _, rfl, HT6⟩
  case round =>
    obtain ⟨t, ht, rfl, hin⟩ := hrel
    obtain ⟨m0, hm0, hb0, hI⟩ := hin.out
    obtain ⟨wo, rfl⟩ : ∃ wo, wo = wr := ⟨_, rfl⟩
    have HXO := hide (HX6.out.belowB hb0 h5bm)
    have c4 := (HXO.out.cell 4 (v := .slice As ls cs) rfl).1
    have lxo := HXO.out.lt
    by_cases hlt : t < ls
    case neg =>
      have HE := hide (wi_end hI (by have := HLS.out; omega))
      have HBE := hide (HB6.out.trans (hb0.mono hwbm))
      have HME := hide hm0
      clear hin hI hb0 hm0
      go_wp2
      go_ret
      exact ⟨_, _, rfl, hwbm, HME.out, HE.out, HBE.out⟩
    have HI0 := hide hI
    have HJ0 := hide (show WIr w6 bm f a m0 0 wo from ⟨m0, hm0, hb0, wj_start hI.1⟩)
    clear hin hI hb0 hm0
    go_wp2
    go_loopw [9] (fun i wr => ∃ i' : Nat, i' ≤ ls ∧ i = .int .i64 i' ∧ Hid (WIr w6 bm f a m0 i' wr)) (fun i _ => ls - (intOf i).toNat)
    case atStart => exact ⟨0, Nat.zero_le _, rfl, HJ0⟩
    case round =>
      obtain ⟨i, hi, rfl, hin⟩ := hrel
      obtain ⟨m, hm, hb, hJ⟩ := hin.out
      obtain ⟨wi, rfl⟩ : ∃ wi, wi = wr := ⟨_, rfl⟩
      have hsz := hb.size
      have HXI := hide (HX6.out.belowB hb h5bm)
      have c0 := (HXI.out.cell 0 (v := .slice Ak lk ck) rfl).1
      have c1 := (HXI.out.cell 1 (v := .slice Ab lb cb) rfl).1
      have c2 := (HXI.out.cell 2 (v := .int .i64 fp) rfl).1
      have c3 := (HXI.out.cell 3 (v := .int .i64 fr) rfl).1
      have c4 := (HXI.out.cell 4 (v := .slice As ls cs) rfl).1
      have lxi := HXI.out.lt
      by_cases hli : i < ls
      case neg =>
        have HT := hide (show WTr w6 bm f a (t + 1) wi from ⟨m, hm, hb, wj_end HI0.out hJ (by have := HLS.out; omega)⟩)
        clear hin hJ hb hm
        go_wp2
        go_roundw
        case rel => exact ⟨t + 1, by omega, by go_num, HT⟩
        case measure => simp [intOf]; omega
      have HMI := hide hm
      have HBI := hide hb
      have HJI := hide hJ
      clear hin hJ hb hm
      go_wp2_with (go_at_call 41; refine (HNX.out wi (HB6.out.trans (HBI.out.mono hwbm)) i hli).mono ?_; rintro e w8 ⟨A8, k8, rfl, hs8, hl8, hm8, ha8, hb8⟩; have hz8 := hb8.size; have HS8 := hide hs8; have HB8 := hide (HBI.out.trans (hb8.mono (show bm ≤ wi.heap.size by omega))); have HM8 := hide (show MB w8 bm m from Box.below HMI.out hb8); have HA8 := hide (show ∀ b o, A8 = some ⟨b, o, none⟩ → b ≠ bm from fun b o e => by have := ha8 b o e; omega); clear hs8 ha8 hb8)
      have HK0 := hide (show WKr w8 bm f a m0 i 0 w8 from ⟨m, HM8.out, But.refl _ _, wk_start HJI.out⟩)
      have HR := hide (HRNG.out i)
      rw [HLS.out] at HR
      have hnl := nxt_len f i
      have HWS := hide (fun (k y : Nat) (m0 m : List Bool) => @wk_step f a i k y m0 m)
      have HWE := hide (fun (k : Nat) (m0 m : List Bool) => @wk_end f a i k m0 m)
      obtain ⟨nx, hnx⟩ : ∃ nx, nxt f i = nx := ⟨_, rfl⟩
      rw [hnx] at HR hnl HWS HWE HS8 hl8 ⊢
      obtain ⟨n8, hn8⟩ : ∃ n, nx.length = n := ⟨_, rfl⟩
      have HN8 := hide hn8
      rw [hn8] at hnl hl8 ⊢
      clear hnx hn8 c0 c1 c2 c3 c4
      go_loopw [11] (fun i' wr => ∃ k : Nat, k ≤ n8 ∧ i' = .int .i64 k ∧ Hid (WKr w8 bm f a m0 i k wr)) (fun i' _ => n8 - (intOf i').toNat)
      case atStart => exact ⟨0, Nat.zero_le _, rfl, HK0⟩
      case round =>
        obtain ⟨k, hk, rfl, hin⟩ := hrel
        obtain ⟨mk, hmk, hbk, hK⟩ := hin.out
        have hbs := hbk.size
        have hml : mk.length = ls := by have := hK.1.1.len; have := HLS.out; omega
        have HML := hide hml
        have mci := (hmk.cell (b := i) (by omega)).1
        have lbm : bm < wr.heap.size := by omega
        clear hml
        by_cases hmi : metB mk (i : Int) = true
        · rw [hmi] at mci
          by_cases hlk : k < n8
          · obtain ⟨y, hy⟩ : ∃ y, nx[k]? = some y := ⟨_, List.getElem?_eq_getElem (by have := HN8.out; omega)⟩
            obtain ⟨hy0, hyl⟩ := HR.out y (List.mem_of_getElem? hy)
            obtain ⟨yn, rfl⟩ : ∃ n : Nat, y = n := ⟨y.toNat, by omega⟩
            have hynl : yn < ls := by omega
            obtain ⟨b8, o8, rfl, hb8, hc8⟩ := (hbk.sl HS8.out (Nat.le_refl _) HA8.out) (by have := HN8.out; omega)
            have cj := hc8 k (by have := HN8.out; omega)
            rw [List.getD_eq_getElem?_getD, hy] at cj
            simp only [Option.getD_some] at cj
            have hb8s : b8 < wr.heap.size := by omega
            obtain ⟨my, fy⟩ := hmk.cell (b := yn) (by have := HML.out; omega)
            have HNXT := hide (show WKr w8 bm f a m0 i (k + 1) (wr.setCell ⟨bm, yn, none⟩ (.bool true)) from ⟨_, hmk.set yn, hbk.set, HWS.out _ _ _ _ hK hmi hy (by have := HLS.out; omega)⟩)
            have p1 : ((yn : Int) == -1) = false := by first | (simp; done) | (simp; omega)
            have p3 : (0 : Int) ≤ (yn : Int) := by omega
            have p4 : (yn : Int) < (ls : Int) := by omega
            clear hc8 hy hmk hbk hK hin hy0 hyl hmi
            go_wp2
            go_roundw
            case rel => exact ⟨k + 1, by omega, by go_num, HNXT⟩
            case measure => simp [intOf]; omega
          have HEN := hide (show WIr w6 bm f a m0 (i + 1) wr from ⟨mk, hmk, hbk.below HB8.out (Nat.le_refl _) (by omega), HWE.out _ _ _ hK (.inl (by have := HN8.out; omega))⟩)
          clear hmk hbk hK hin hmi
          go_wp2
          go_roundw
          case rel => exact ⟨i + 1, by omega, by go_num, HEN⟩
          case measure => simp [intOf]; omega
        · have hmf := Bool.eq_false_iff.2 hmi
          rw [hmf] at mci
          have HEN := hide (show WIr w6 bm f a m0 (i + 1) wr from ⟨mk, hmk, hbk.below HB8.out (Nat.le_refl _) (by omega), HWE.out _ _ _ hK (.inr hmf)⟩)
          clear hmk hbk hK hin hmi hmf
          by_cases hlk : k < n8
          all_goals
            go_wp2
            go_roundw
            case rel => exact ⟨i + 1, by omega, by go_num, HEN⟩
            case measure => simp [intOf]; omega
end Go.Proofs.YtckpaikppgjfnaaGreatDoor
namespace Go.Proofs.YtckpaikppgjfnaaGreatDoor

/-- A way leads from a to b. -/
def Pth (f : FunV) (a b : Int) : Prop := ∀ P : Int → Prop, P a → (∀ x : Nat, P x → ∀ v ∈ nxt f x, P v) → P b
theorem Pth.refl (f : FunV) (a : Int) : Pth f a a := fun _ h _ => h
theorem Pth.trans {f : FunV} {a b c : Int} (h : Pth f a b) (h' : Pth f b c) : Pth f a c := fun P ha hs => h' P (h P ha hs) hs
theorem Pth.step {f : FunV} {a b : Int} (h0 : 0 ≤ a) (h : b ∈ nxt f a.toNat) : Pth f a b := fun P ha hs => by
  obtain ⟨n, rfl⟩ : ∃ n : Nat, a = n := ⟨a.toNat, by omega⟩
  exact hs n ha b h
theorem Pth.within {f : FunV} {a : Nat} {b : Int} {m : List Bool} (h : Pth f a b) (hg : WG f a m) (hc : Clo f m) : metB m b = true := h (fun y => metB m y = true) hg.met (fun x hx v hv => hc x hx v hv)
def Bef (l : List Int) (v x : Int) : Prop := ∃ s t, l = s ++ x :: t ∧ v ∈ s
theorem Bef.left {l r : List Int} {v x : Int} (h : Bef l v x) : Bef (l ++ r) v x := by
  obtain ⟨s, t, rfl, hv⟩ := h
  exact ⟨s, t ++ r, by simp, hv⟩
theorem Bef.right {l r : List Int} {v x : Int} (h : Bef l v x) : Bef (r ++ l) v x := by
  obtain ⟨s, t, rfl, hv⟩ := h
  exact ⟨r ++ s, t, by simp, by simp [hv]⟩
theorem bef_of {p q : List Int} {v x : Int} (hv : v ∈ p) (hx : x ∈ q) : Bef (p ++ q) v x := by
  obtain ⟨s, t, rfl⟩ := List.append_of_mem hx
  exact ⟨p ++ s, t, by simp, by simp [hv]⟩
theorem Dfs.back {f : FunV} {cs : List Int} {m : List Bool} {l : List Int} {m' : List Bool} {l' : List Int} (h : Dfs f cs m l m' l') (hok : ∀ k v, v ∈ nxt f k → 0 ≤ v ∧ v < f.blocks.length) : m.length = f.blocks.length → (∀ c ∈ cs, 0 ≤ c ∧ c < f.blocks.length) → ∀ new : List Int, l' = l ++ new →
    (∀ x ∈ new, ∃ c ∈ cs, Pth f c x) ∧ (∀ x ∈ new, ∀ v ∈ nxt f x.toNat, metB m v = true ∨ Bef new v x ∨ Pth f v x) := by
  induction h with
  | nil m l =>
    intro _ _ new e
    have : new = [] := by simpa using e
    subst this
    simp
  | old hm _ ih =>
    intro hl hc new e
    obtain ⟨i1, i2⟩ := ih hl (fun c h => hc c (List.mem_cons_of_mem _ h)) new e
    exact ⟨fun x hx => by obtain ⟨c, h, p⟩ := i1 x hx; exact ⟨c, List.mem_cons_of_mem _ h, p⟩, i2⟩
  | @new c cs m l m1 l1 m' l' hm h1 h2 ih1 ih2 =>
    intro hl hc new e
    have hcr := hc c List.mem_cons_self
    obtain ⟨n1, a1, a2, a3, a4, a5, a6, -, -⟩ := h1.spec hok (by rw [meet_len, hl]) (fun v hv => hok _ v hv)
    rw [meet_len] at a2
    obtain ⟨n2, b1, -⟩ := h2.spec hok (by rw [a2, hl]) (fun c h => hc c (List.mem_cons_of_mem _ h))
    obtain ⟨p1, q1⟩ := ih1 (by rw [meet_len, hl]) (fun v hv => hok _ v hv) n1 a1
    obtain ⟨p2, q2⟩ := ih2 (by rw [a2, hl]) (fun c h => hc c (List.mem_cons_of_mem _ h)) n2 b1
    have en : new = n1 ++ ([c] ++ n2) := by
      rw [b1, a1, List.append_assoc, List.append_assoc] at e
      exact (List.append_cancel_left e).symm
    subst en
    have mm : ∀ x, 0 ≤ x → (metB (meet m c) x = true ↔ metB m x = true ∨ x = c) := fun x hx => met_meet hcr.1 (by omega) hx
    have cr : ∀ x ∈ n1, Pth f c x := fun x hx => by
      obtain ⟨d, hd, hp⟩ := p1 x hx
      exact (Pth.step hcr.1 hd).trans hp
    refine ⟨fun x hx => ?_, fun x hx v hv => ?_⟩
    · simp only [List.mem_append, List.mem_singleton] at hx
      rcases hx with h | rfl | h
      · exact ⟨c, List.mem_cons_self, cr x h⟩
      · exact ⟨x, List.mem_cons_self, .refl f x⟩
      · obtain ⟨d, hd, hp⟩ := p2 x h
        exact ⟨d, List.mem_cons_of_mem _ hd, hp⟩
    · have hv0 := (hok _ v hv).1
      simp only [List.mem_append, List.mem_singleton] at hx
      rcases hx with h | rfl | h
      · rcases q1 x h v hv with h' | h' | h'
        · rcases (mm v hv0).1 h' with h'' | rfl
          · exact .inl h''
          · exact .inr (.inr (cr x h))
        · exact .inr (.inl h'.left)
        · exact .inr (.inr h')
      · rcases (a3 v hv0).1 (a6 v hv) with h' | h'
        · rcases (mm v hv0).1 h' with h'' | rfl
          · exact .inl h''
          · exact .inr (.inr (.refl f v))
        · exact .inr (.inl (bef_of h' (by simp)))
      · rcases q2 x h v hv with h' | h' | h'
        · rcases (a3 v hv0).1 h' with h' | h'
          · rcases (mm v hv0).1 h' with h'' | rfl
            · exact .inl h''
            · exact .inr (.inl (bef_of (p := [v]) (by simp) h).right)
          · exact .inr (.inl (bef_of h' (by simp [h])))
        · exact .inr (.inl h'.right.right)
        · exact .inr (.inr h')
def placeN (l : List Int) (y : Int) : Int := if y ∈ l then ((l.idxOf y + 1 : Nat) : Int) else 0
theorem placeN_out {l : List Int} {y : Int} (h : y ∉ l) : placeN l y = 0 := by unfold placeN; rw [if_neg h]
theorem placeN_pos {l : List Int} {y : Int} (h : y ∈ l) : 0 < placeN l y := by unfold placeN; rw [if_pos h]; omega
theorem placeN_le {l : List Int} {y : Int} : 0 ≤ placeN l y ∧ placeN l y ≤ l.length := by
  unfold placeN
  split
  · rename_i h
    have := List.idxOf_lt_length_of_mem h
    omega
  · omega
theorem placeN_snoc {l : List Int} {y b : Int} (hy : y ∉ l) : placeN (l ++ [y]) b = if b = y then ((l.length + 1 : Nat) : Int) else placeN l b := by
  by_cases h : b = y
  · subst h
    unfold placeN
    rw [if_pos (by simp), if_pos rfl, List.idxOf_append, if_neg hy]
    simp
  · rw [if_neg h]
    unfold placeN
    by_cases hb : b ∈ l
    · rw [if_pos (by simp [hb]), if_pos hb, List.idxOf_append, if_pos hb]
    · rw [if_neg (by simp [hb, h]), if_neg hb]
theorem bef_place {l : List Int} {v x : Int} (hn : l.Nodup) (h : Bef l v x) : placeN l.reverse x < placeN l.reverse v := by
  obtain ⟨s, t, rfl, hv⟩ := h
  have e : (s ++ x :: t).reverse = (t.reverse ++ [x]) ++ s.reverse := by simp
  rw [List.nodup_append] at hn
  obtain ⟨hn1, hn2, hn3⟩ := hn
  have hxt : x ∉ t := (List.nodup_cons.1 hn2).1
  have hvx : v ≠ x := hn3 v hv x List.mem_cons_self
  have hvt : v ∉ t := fun h => hn3 v hv v (List.mem_cons_of_mem _ h) rfl
  rw [e]
  unfold placeN
  rw [if_pos (by simp), if_pos (by simp [hv]), List.idxOf_append, if_pos (by simp), List.idxOf_append, if_neg (by simp [hxt]), List.idxOf_append (a := v), if_neg (by simp [hvx, hvt])]
  simp
  omega
theorem order_back {f : FunV} {l : List Int} (hok : FlowOk f) (h1 : 1 ≤ f.blocks.length) (h : OrderOf f l) : ∀ x ∈ l, ∀ v ∈ nxt f x.toNat, placeN l v ≤ placeN l x → Pth f v x := by
  have hr := order_reach hok h1 h
  obtain ⟨m, lF, hD, rfl⟩ := h
  intro x hx v hv hle
  obtain ⟨-, hb⟩ := hD.back hok.2.2 (by simp) (by intro c hc; simp at hc; subst hc; omega) lF (by simp)
  rcases hb x (List.mem_reverse.1 hx) v hv with h | h | h
  · rw [metB_rep] at h; cases h
  · have := bef_place ((List.reverse_perm lF).nodup_iff.1 hr.nod) h
    omega
  · exact h
theorem order_head {f : FunV} {l : List Int} (h : OrderOf f l) : l[0]? = some 0 := by
  obtain ⟨m, lF, hD, rfl⟩ := h
  cases hD with
  | old hm _ => rw [metB_rep] at hm; cases hm
  | new _ _ h2 => cases h2; simp
def placeOf (n : Nat) (xs : List Int) : List Int := (List.range n).map (fun b : Nat => placeN xs (b : Int))
theorem placeOf_nil (n : Nat) : placeOf n [] = List.replicate n 0 := by
  unfold placeOf placeN
  apply List.ext_getElem
  · simp
  · intro i h1 h2; simp
theorem placeOf_add {n : Nat} {xs : List Int} {y : Nat} (hy : y < n) (hn : (y : Int) ∉ xs) : placeOf n (xs ++ [(y : Int)]) = (placeOf n xs).set y ((xs.length + 1 : Nat) : Int) := by
  apply List.ext_getElem
  · simp [placeOf]
  · intro i h1 h2
    have hi : i < n := by simpa [placeOf] using h1
    rw [List.getElem_set]
    simp only [placeOf, List.getElem_map, List.getElem_range]
    rw [placeN_snoc hn]
    by_cases e : y = i
    · subst e; simp
    · rw [if_neg (by omega), if_neg e]
def PlaceW (w : World) (bp n : Nat) (xs : List Int) : Prop := Box w bp ((placeOf n xs).map (Value.int .i64)).toArray 3
theorem PlaceW.cell {w : World} {bp n b : Nat} {xs : List Int} (h : PlaceW w bp n xs) (hb : b < n) : w.cell? ⟨bp, b, none⟩ = some (.int .i64 (placeN xs (b : Int))) ∧ w.frozen? ⟨bp, b, none⟩ = false :=
  Box.cell h b (by simp [placeOf, hb])
theorem PlaceW.add {w : World} {bp n : Nat} {xs : List Int} {y : Nat} (h : PlaceW w bp n xs) (hy : y < n) (hn : (y : Int) ∉ xs) : PlaceW (w.setCell ⟨bp, y, none⟩ (.int .i64 ((xs.length + 1 : Nat) : Int))) bp n (xs ++ [(y : Int)]) := by
  have := Box.set h y (.int .i64 ((xs.length + 1 : Nat) : Int))
  unfold PlaceW
  rw [placeOf_add hy hn]
  simpa [List.map_set] using this
theorem madeCells_int (n : Nat) : madeCells (Value.int .i64 0).cells (n * 1) = ((List.replicate n (0 : Int)).map (Value.int .i64)).toArray := by
  unfold madeCells
  apply Array.ext
  · simp
  · intro i h1 h2
    simp [Value.cells, Nat.mod_one]
end Go.Proofs.YtckpaikppgjfnaaGreatDoor
