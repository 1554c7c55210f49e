/- Heaps as plain data, and what they read as in memory; what each call answers; what is reached. No condition. -/
import Derived.Test.YteoopilmdlhkhaaDoorPaZN
import Derived.Test.YteoopilmdlhkhaaDoorPaRDo
set_option linter.unusedSimpArgs false
set_option linter.unusedVariables false
namespace Go.Proofs.YteoopilmdlhkhaaDoor
open Go.RowKit

structure ObjV where
  refs : List Int
  ints : List Int
instance : DecidableEq ObjV := fun x y =>
  decidable_of_iff (x.refs = y.refs ∧ x.ints = y.ints) (by
    cases x; cases y
    simp only [ObjV.mk.injEq])
def ObjI (w : World) (S : Nat → Prop) (vr vi : Value) (x : ObjV) : Prop := IntsV w S vr x.refs ∧ IntsV w S vi x.ints
def ObjC (w : World) (S : Nat → Prop) (b o : Nat) (x : ObjV) : Prop := ∃ vr vi, (w.cell? ⟨b, o, none⟩ = some vr ∧ w.cell? ⟨b, o + 1, none⟩ = some vi) ∧ ObjI w S vr vi x
/-- A heap in memory. -/
def ObjsV (w : World) (S : Nat → Prop) (v : Value) (h : List ObjV) : Prop := Vec 2 (ObjC w S) S v h
section
variable {w w' : World} {S S' : Nat → Prop}
theorem ObjI.keep {vr vi : Value} {x : ObjV} (h : ObjI w S vr vi x) (hk : Same' S w w') (hS : ∀ b, S b → S' b) : ObjI w' S' vr vi x := ⟨IntsV.keep h.1 hk hS, IntsV.keep h.2 hk hS⟩
theorem ObjsV.keep {v : Value} {xs : List ObjV} (h : ObjsV w S v xs) (hk : Same' S w w') (hS : ∀ b, S b → S' b) : ObjsV w' S' v xs :=
  Vec.mono h hS fun b o x hb _ ⟨vr, vi, ⟨h0, h1⟩, hi⟩ => ⟨vr, vi, ⟨(hk b _ hb).trans h0, (hk b _ hb).trans h1⟩, ObjI.keep hi hk hS⟩
theorem ObjsV.open' {v : Value} {xs : List ObjV} (h : ObjsV w S v xs) : ∃ A c, v = .slice A xs.length c ∧ xs.length ≤ c ∧ c ≤ 9223372036854775807 := by
  obtain ⟨A, c, e, h1, h2, -⟩ := h
  exact ⟨A, c, e, h1, h2⟩
theorem ObjsV.get {A : Option Addr} {n c k : Nat} {xs : List ObjV} {y : ObjV} (h : ObjsV w S (.slice A n c) xs) (hy : xs[k]? = some y) :
    ∃ b o Ar cr Ai ci, A = some ⟨b, o, none⟩ ∧ S b ∧ (w.cell? ⟨b, o + k * 2, none⟩ = some (.slice Ar y.refs.length cr) ∧ w.cell? ⟨b, o + k * 2 + 1, none⟩ = some (.slice Ai y.ints.length ci)) ∧ ObjI w S (.slice Ar y.refs.length cr) (.slice Ai y.ints.length ci) y := by
  obtain ⟨A', c', e, -, -, h3⟩ := h
  injection e with eA _ _
  subst eA
  obtain ⟨b, o, rfl, hb, hc⟩ := h3 (by have := (List.getElem?_eq_some_iff.1 hy).1; omega)
  obtain ⟨vr, vi, h5, hi⟩ := hc k y hy
  obtain ⟨Ar, cr, rfl, -, -⟩ := hi.1.open'
  obtain ⟨Ai, ci, rfl, -, -⟩ := hi.2.open'
  exact ⟨b, o, Ar, cr, Ai, ci, rfl, hb, h5, hi⟩
theorem ObjsV.below {v : Value} {xs : List ObjV} (h : ObjsV w (· < w.heap.size) v xs) (hb : Below w.heap.size w w') : ObjsV w' (· < w'.heap.size) v xs :=
  h.keep (up hb (Nat.le_refl _)) (fun b hb' => Nat.lt_of_lt_of_le hb' hb.size)
theorem IntsV.below {v : Value} {xs : List Int} (h : IntsV w (· < w.heap.size) v xs) (hb : Below w.heap.size w w') : IntsV w' (· < w'.heap.size) v xs :=
  h.keep (up hb (Nat.le_refl _)) (fun b hb' => Nat.lt_of_lt_of_le hb' hb.size)
end

/-- Whether a reference may be, an object, a heap. -/
def rfB (n : Nat) (z : Int) : Bool := decide (0 ≤ z) && decide (z ≤ n)
def objB (n : Nat) (o : ObjV) : Bool := decide (o.refs.length ≤ 8) && (decide (o.ints.length ≤ 8) && o.refs.all (rfB n))
def rightB (h : List ObjV) : Bool := h.all (objB h.length)
/-- What is reached. -/
inductive RcH (h : List ObjV) (roots : List Int) : Int → Prop
  | root {z : Int} : z ∈ roots → 1 ≤ z → z ≤ h.length → RcH h roots z
  | step {y z : Int} {o : ObjV} : RcH h roots y → h[(y - 1).toNat]? = some o → z ∈ o.refs → 1 ≤ z → z ≤ h.length → RcH h roots z
theorem RcH.rng {h : List ObjV} {roots : List Int} {z : Int} (r : RcH h roots z) : 1 ≤ z ∧ z ≤ h.length := by
  cases r with
  | root _ a b => exact ⟨a, b⟩
  | step _ _ _ a b => exact ⟨a, b⟩
def IsR (h : List ObjV) (roots l : List Int) : Prop := l.Pairwise (· < ·) ∧ ∀ z, z ∈ l ↔ (rightB h = true ∧ RcH h roots z)
theorem asc_eqH : ∀ {l1 l2 : List Int}, l1.Pairwise (· < ·) → l2.Pairwise (· < ·) → (∀ x, x ∈ l1 ↔ x ∈ l2) → l1 = l2
  | [], [], _, _, _ => rfl
  | [], y :: l2, _, _, h => absurd ((h y).2 List.mem_cons_self) (by simp)
  | x :: l1, [], _, _, h => absurd ((h x).1 List.mem_cons_self) (by simp)
  | x :: l1, y :: l2, h1, h2, h => by
    obtain ⟨p1, p2⟩ := List.pairwise_cons.1 h1
    obtain ⟨q1, q2⟩ := List.pairwise_cons.1 h2
    have hxy : x = y := by
      rcases List.mem_cons.1 ((h x).1 List.mem_cons_self) with e | e
      · exact e
      · rcases List.mem_cons.1 ((h y).2 List.mem_cons_self) with e' | e'
        · exact e'.symm
        · have := q1 x e
          have := p1 y e'
          omega
    subst hxy
    have : l1 = l2 := asc_eqH p2 q2 (fun z => by
      have hz := h z
      simp only [List.mem_cons] at hz
      constructor
      · intro hm
        rcases hz.1 (.inr hm) with e | e
        · have := p1 z hm; omega
        · exact e
      · intro hm
        rcases hz.2 (.inr hm) with e | e
        · have := q1 z hm; omega
        · exact e)
    rw [this]
theorem IsR.one {h : List ObjV} {roots l l' : List Int} (a : IsR h roots l) (b : IsR h roots l') : l = l' := asc_eqH a.1 b.1 fun x => by rw [a.2, b.2]
theorem IsR.no {h : List ObjV} {roots : List Int} (hr : rightB h = false) : IsR h roots [] := ⟨List.Pairwise.nil, fun z => by simp [hr]⟩

/-- One comes to more names: those of 'refs' that are there, and not yet among N. -/
def comeL (n : Nat) (N refs : List Int) : List Int := refs.foldl (fun (N : List Int) (z : Int) => if (1 ≤ z ∧ z ≤ n) ∧ z ∉ N then N ++ [z] else N) N
theorem comeL_spec (n : Nat) : ∀ (refs N : List Int), N.Nodup → (∀ z ∈ N, 1 ≤ z ∧ z ≤ n) → (comeL n N refs).Nodup ∧ (∀ z ∈ comeL n N refs, 1 ≤ z ∧ z ≤ n) ∧ (∃ new, comeL n N refs = N ++ new) ∧ (∀ z, z ∈ comeL n N refs ↔ z ∈ N ∨ (z ∈ refs ∧ 1 ≤ z ∧ z ≤ n))
  | [], N, h1, h2 => ⟨h1, h2, ⟨[], by simp [comeL]⟩, fun z => by simp [comeL]⟩
  | x :: refs, N, h1, h2 => by
    have e : comeL n N (x :: refs) = comeL n (if (1 ≤ x ∧ x ≤ n) ∧ x ∉ N then N ++ [x] else N) refs := rfl
    rw [e]
    by_cases hx : (1 ≤ x ∧ x ≤ n) ∧ x ∉ N
    · rw [if_pos hx]
      obtain ⟨a1, a2, ⟨new, a3⟩, a4⟩ := comeL_spec n refs (N ++ [x]) (List.nodup_append.2 ⟨h1, by simp, fun a ha b hb hab => by simp at hb; subst hb; subst hab; exact hx.2 ha⟩) (fun z hz => by
        rcases List.mem_append.1 hz with hz | hz
        · exact h2 z hz
        · simp at hz; subst hz; exact hx.1)
      refine ⟨a1, a2, ⟨x :: new, by rw [a3]; simp⟩, fun z => ?_⟩
      rw [a4]
      rw [List.mem_append, List.mem_singleton, List.mem_cons]
      constructor
      · rintro ((h | rfl) | ⟨h, h'⟩)
        · exact .inl h
        · exact .inr ⟨.inl rfl, hx.1⟩
        · exact .inr ⟨.inr h, h'⟩
      · rintro (h | ⟨rfl | h, h'⟩)
        · exact .inl (.inl h)
        · exact .inl (.inr rfl)
        · exact .inr ⟨h, h'⟩
    · rw [if_neg hx]
      obtain ⟨a1, a2, a3, a4⟩ := comeL_spec n refs N h1 h2
      refine ⟨a1, a2, a3, fun z => ?_⟩
      rw [a4]
      simp only [List.mem_cons]
      constructor
      · rintro (h | ⟨h, h'⟩)
        · exact .inl h
        · exact .inr ⟨.inr h, h'⟩
      · rintro (h | ⟨rfl | h, h'⟩)
        · exact .inl h
        · exact .inl (Classical.byContradiction fun hn => hx ⟨h', hn⟩)
        · exact .inr ⟨h, h'⟩
theorem nodup_le : ∀ {n : Nat} {N : List Int}, N.Nodup → (∀ z ∈ N, 1 ≤ z ∧ z ≤ n) → N.length ≤ n
  | 0, N, _, h2 => by
    cases N with
    | nil => simp
    | cons a N => have := h2 a List.mem_cons_self; omega
  | n + 1, N, h1, h2 => by
    by_cases hm : ((n : Int) + 1) ∈ N
    · have hl := List.length_erase_of_mem hm
      have := nodup_le (n := n) (N := N.erase ((n : Int) + 1)) (h1.erase _) (fun z hz => by
        have hz2 := h2 z (List.mem_of_mem_erase hz)
        have hne : z ≠ (n : Int) + 1 := ((List.Nodup.mem_erase_iff h1).1 hz).1
        omega)
      omega
    · have := nodup_le (n := n) (N := N) h1 (fun z hz => by
        have hz2 := h2 z hz
        have hne : z ≠ (n : Int) + 1 := fun e => hm (e ▸ hz)
        omega)
      omega
/-- Names under way: the first i of N were gone on from. -/
structure RB (h : List ObjV) (roots : List Int) (i : Nat) (N : List Int) : Prop where
  nod : N.Nodup
  rng : ∀ z ∈ N, 1 ≤ z ∧ z ≤ h.length
  snd : ∀ z ∈ N, RcH h roots z
  rts : ∀ z ∈ roots, 1 ≤ z → z ≤ h.length → z ∈ N
  fol : ∀ (j : Nat) (y : Int) (o : ObjV), j < i → N[j]? = some y → h[(y - 1).toNat]? = some o → ∀ z ∈ o.refs, 1 ≤ z → z ≤ h.length → z ∈ N
theorem RB.start (h : List ObjV) (roots : List Int) : RB h roots 0 (comeL h.length [] roots) := by
  obtain ⟨a1, a2, a3, a4⟩ := comeL_spec h.length roots [] (by simp) (by simp)
  exact ⟨a1, a2, fun z hz => by
    rcases (a4 z).1 hz with h | ⟨h1, h2, h3⟩
    · simp at h
    · exact .root h1 h2 h3, fun z hz h1 h2 => (a4 z).2 (.inr ⟨hz, h1, h2⟩), fun j y o hj => by omega⟩
theorem RB.step {h : List ObjV} {roots N : List Int} {i : Nat} {y : Int} {o : ObjV} (r : RB h roots i N) (hy : N[i]? = some y) (ho : h[(y - 1).toNat]? = some o) : RB h roots (i + 1) (comeL h.length N o.refs) := by
  obtain ⟨a1, a2, ⟨new, a3⟩, a4⟩ := comeL_spec h.length o.refs N r.nod r.rng
  have hyN := List.mem_of_getElem? hy
  refine ⟨a1, a2, fun z hz => ?_, fun z hz h1 h2 => (a4 z).2 (.inl (r.rts z hz h1 h2)), fun j x q hj hx hq z hz h1 h2 => ?_⟩
  · rcases (a4 z).1 hz with h | ⟨h1, h2, h3⟩
    · exact r.snd z h
    · exact .step (r.snd y hyN) ho h1 h2 h3
  · have hil : i < N.length := (List.getElem?_eq_some_iff.1 hy).1
    rw [a3, List.getElem?_append_left (by omega)] at hx
    rcases Nat.lt_succ_iff_lt_or_eq.1 hj with hj | rfl
    · exact (a4 z).2 (.inl (r.fol j x q hj hx hq z hz h1 h2))
    · rw [hy] at hx
      cases hx
      rw [ho] at hq
      cases hq
      exact (a4 z).2 (.inr ⟨hz, h1, h2⟩)
theorem RB.all {h : List ObjV} {roots N : List Int} {i : Nat} (r : RB h roots i N) (hi : N.length ≤ i) (z : Int) : z ∈ N ↔ RcH h roots z := by
  refine ⟨r.snd z, fun hz => ?_⟩
  induction hz with
  | root h1 h2 h3 => exact r.rts _ h1 h2 h3
  | @step y z o _ ho hz h1 h2 ih =>
    obtain ⟨j, hj⟩ := List.getElem?_of_mem ih
    exact r.fol j y o (by have := (List.getElem?_eq_some_iff.1 hj).1; omega) hj ho z hz h1 h2
end Go.Proofs.YteoopilmdlhkhaaDoor
