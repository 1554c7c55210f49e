/- Layer 7: edges that turn back, back edges, heads and loops, in plain lists. Condition: the function is one of a program that may be. -/
import Derived.Test.YtnoknodijombpaaPgFWk
set_option linter.unusedSimpArgs false
set_option linter.unusedVariables false
namespace Go.Proofs.Ytnoknodijombpaa
open Go.RowKit

/-- The first k of a list that fit. -/
def fltTo (q : Int × Int → Bool) (es : List (Int × Int)) (k : Nat) : List (Int × Int) := (es.take k).filter q
theorem fltTo_yes {q : Int × Int → Bool} {es : List (Int × Int)} {k : Nat} {e : Int × Int} (h : es[k]? = some e) (hq : q e = true) : fltTo q es k ++ [e] = fltTo q es (k + 1) := by
  unfold fltTo
  rw [List.take_add_one, h]
  simp [List.filter_append, hq]
theorem fltTo_no {q : Int × Int → Bool} {es : List (Int × Int)} {k : Nat} {e : Int × Int} (h : es[k]? = some e) (hq : q e = false) : fltTo q es k = fltTo q es (k + 1) := by
  unfold fltTo
  rw [List.take_add_one, h]
  simp [List.filter_append, hq]
theorem fltTo_len (q : Int × Int → Bool) (es : List (Int × Int)) (k : Nat) : (fltTo q es k).length ≤ k := by
  unfold fltTo
  exact Nat.le_trans (List.length_filter_le _ _) (List.length_take_le _ _)
theorem fltTo_all {q : Int × Int → Bool} {es : List (Int × Int)} {k : Nat} (h : es.length ≤ k) : fltTo q es k = es.filter q := by
  unfold fltTo
  rw [List.take_of_length_le h]
theorem fltTo_zero (q : Int × Int → Bool) (es : List (Int × Int)) : fltTo q es 0 = [] := by simp [fltTo]
/-- Does an edge turn back, in the order o? -/
def turnB (o : List Int) (e : Int × Int) : Bool := decide (0 < placeN o e.2) && decide (placeN o e.2 ≤ placeN o e.1)
def turnsN (f : FunV) (o : List Int) : List (Int × Int) := (edgesN f).filter (turnB o)
/-- There is a way from a to b that doesn't come to z. -/
def Rz (f : FunV) (z : Int) (a : Nat) (b : Int) : Prop := (a : Int) ≠ z ∧ ∀ P : Int → Prop, P a → (∀ x : Nat, P x → ∀ v ∈ nxt f x, v ≠ z → P v) → P b
/-- The block x is in the loop of the head h. -/
def LoopP (f : FunV) (es : List (Int × Int)) (h : Int) (x : Nat) : Prop := ∃ u : Int, (u, h) ∈ es ∧ ((x : Int) = h ∨ (Rch f x ∧ Rz f h x u))
def IsBody (f : FunV) (es : List (Int × Int)) (h : Int) (l : List Int) : Prop := l.Pairwise (· < ·) ∧ ∀ y, y ∈ l ↔ ∃ x : Nat, y = x ∧ x < f.blocks.length ∧ LoopP f es h x
def IsHeads (es : List (Int × Int)) (l : List Int) : Prop := l.Pairwise (· < ·) ∧ ∀ y, y ∈ l ↔ ∃ u : Int, (u, y) ∈ es
theorem IsBody.one {f : FunV} {es : List (Int × Int)} {h : Int} {l l' : List Int} (a : IsBody f es h l) (b : IsBody f es h l') : l = l' := asc_eq' a.1 b.1 fun x => by rw [a.2, b.2]
theorem IsHeads.one {es : List (Int × Int)} {l l' : List Int} (a : IsHeads es l) (b : IsHeads es l') : l = l' := asc_eq' a.1 b.1 fun x => by rw [a.2, b.2]
section
variable {f : FunV} {o : List Int} {p : Int → Int → Bool} {A : List Int}
theorem placeN_in {l : List Int} {y : Int} (h : 0 < placeN l y) : y ∈ l := by
  apply Classical.byContradiction
  intro hn
  rw [placeN_out hn] at h
  omega
end
/-- A sorted list, of which the first j are looked through: D is what is there, each once. -/
structure DD (zs : List Int) (j : Nat) (D : List Int) : Prop where
  asc : D.Pairwise (· < ·)
  mem : ∀ y, y ∈ D ↔ y ∈ zs.take j
theorem sorted_le {zs : List Int} (hs : zs.Pairwise (· ≤ ·)) {i j : Nat} {x y : Int} (hi : zs[i]? = some x) (hj : zs[j]? = some y) (h : i ≤ j) : x ≤ y := by
  rcases Nat.lt_or_ge i j with h1 | h1
  · obtain ⟨a, ha⟩ := List.getElem?_eq_some_iff.1 hi
    obtain ⟨b, hb⟩ := List.getElem?_eq_some_iff.1 hj
    rw [← ha, ← hb]
    exact List.pairwise_iff_getElem.1 hs i j a b h1
  · obtain rfl : i = j := by omega
    rw [hi] at hj; injection hj with hj; omega
theorem DD.one {zs : List Int} {y : Int} (h : zs[0]? = some y) : DD zs 1 (zs.take 1) := by
  refine ⟨?_, fun _ => Iff.rfl⟩
  rw [List.take_add_one, h]
  simp
theorem DD.same {zs D : List Int} {j : Nat} {y : Int} (h : DD zs (j + 1) D) (h0 : zs[j]? = some y) (h1 : zs[j + 1]? = some y) : DD zs (j + 2) D := by
  refine ⟨h.asc, fun z => ?_⟩
  rw [h.mem, take_snocI h1, List.mem_append]
  constructor
  · exact .inl
  · rintro (h2 | h2)
    · exact h2
    · simp at h2
      subst h2
      rw [take_snocI h0]
      simp
theorem DD.new {zs D : List Int} {j : Nat} {x y : Int} (hs : zs.Pairwise (· ≤ ·)) (h : DD zs (j + 1) D) (h0 : zs[j]? = some x) (h1 : zs[j + 1]? = some y) (hne : y ≠ x) : DD zs (j + 2) (D ++ [y]) := by
  refine ⟨List.pairwise_append.2 ⟨h.asc, by simp, fun a ha b hb => ?_⟩, fun z => ?_⟩
  · simp at hb
    subst hb
    obtain ⟨i, hi⟩ := List.getElem?_of_mem ((h.mem a).1 ha)
    rw [List.getElem?_take] at hi
    split at hi
    · rename_i hij
      have h2 := sorted_le hs hi h0 (by omega)
      have h3 := sorted_le hs h0 h1 (by omega)
      omega
    · cases hi
  · rw [List.mem_append, h.mem, take_snocI h1, List.mem_append]
theorem DD.len {zs D : List Int} {j : Nat} (h : DD zs j D) (hj : j ≤ 1000) : D.Nodup := h.asc.imp fun h e => by omega
/-- What body has met so far: of the list L the first i are looked through. -/
structure BdI (f : FunV) (es : List (Int × Int)) (pv : Nat → List Int) (h : Int) (i : Nat) (L : List Int) : Prop where
  rng : ∀ y ∈ L, 0 ≤ y ∧ y < f.blocks.length
  nod : L.Nodup
  snd : ∀ y ∈ L, LoopP f es h y.toNat
  sta : ∀ u, (u, h) ∈ es → h ∈ L ∧ u ∈ L
  clo : ∀ (k : Nat) (y : Int), k < i → L[k]? = some y → y ≠ h → ∀ z ∈ pv y.toNat, z ∈ L
  le : i ≤ L.length
def metL (L : List Int) (b : Int) : List Int := if b ∈ L then L else L ++ [b]
theorem mem_metL {L : List Int} {b y : Int} : y ∈ metL L b ↔ y ∈ L ∨ y = b := by
  unfold metL
  split
  · rename_i h
    constructor
    · exact .inl
    · rintro (h | rfl) <;> assumption
  · simp
theorem metL_get {L : List Int} {b y : Int} {k : Nat} (h : L[k]? = some y) : (metL L b)[k]? = some y := by
  unfold metL
  split
  · exact h
  · rw [List.getElem?_append_left (List.getElem?_eq_some_iff.1 h).1]; exact h
theorem metL_nod {L : List Int} {b : Int} (h : L.Nodup) : (metL L b).Nodup := by
  unfold metL
  split
  · exact h
  · rename_i hn
    rw [List.nodup_append]
    exact ⟨h, by simp, fun x hx y hy e => by simp at hy; subst hy; subst e; exact hn hx⟩
theorem metL_le (L : List Int) (b : Int) : L.length ≤ (metL L b).length := by
  unfold metL
  split
  · exact Nat.le_refl _
  · simp
theorem nodup_lt : ∀ (n : Nat) (L : List Nat), L.Nodup → (∀ x ∈ L, x < n) → L.length ≤ n
  | 0, L, _, h => by
    cases L with
    | nil => simp
    | cons a l => have := h a (by simp); omega
  | n + 1, L, hn, h => by
    by_cases hm : n ∈ L
    · have ih := nodup_lt n (L.erase n) (hn.erase n) (fun x hx => by
        have h1 := h x (List.mem_of_mem_erase hx)
        have h2 : x ≠ n := fun e => by subst e; exact hn.not_mem_erase hx
        omega)
      rw [List.length_erase_of_mem hm] at ih
      omega
    · have ih := nodup_lt n L hn (fun x hx => by
        have h1 := h x hx
        have h2 : x ≠ n := fun e => by subst e; exact hm hx
        omega)
      omega
theorem nodup_len {L : List Int} {n : Nat} (h : L.Nodup) (hr : ∀ y ∈ L, 0 ≤ y ∧ y < (n : Int)) : L.length ≤ n := by
  have h1 : (L.map Int.toNat).Nodup := by
    unfold List.Nodup
    rw [List.pairwise_map]
    refine List.Pairwise.imp_of_mem (fun {a b} ha hb hne e => hne ?_) h
    have := hr a ha; have := hr b hb; omega
  have := nodup_lt n _ h1 (fun x hx => by
    simp only [List.mem_map] at hx
    obtain ⟨y, hy, rfl⟩ := hx
    have := hr y hy
    omega)
  simpa using this
/-- While the back edges are looked through: what is met of the first k. -/
structure BdS (f : FunV) (es : List (Int × Int)) (h : Int) (k : Nat) (L : List Int) : Prop where
  rng : ∀ y ∈ L, 0 ≤ y ∧ y < f.blocks.length
  nod : L.Nodup
  snd : ∀ y ∈ L, LoopP f es h y.toNat
  sta : ∀ u, (u, h) ∈ es.take k → h ∈ L ∧ u ∈ L
theorem BdS.zero (f : FunV) (es : List (Int × Int)) (h : Int) : BdS f es h 0 [] := ⟨by simp, List.nodup_nil, by simp, by simp⟩
theorem take_snocE {es : List (Int × Int)} {k : Nat} {e : Int × Int} (h : es[k]? = some e) : es.take (k + 1) = es.take k ++ [e] := by rw [List.take_add_one, h]; rfl
theorem BdS.skip {f : FunV} {es : List (Int × Int)} {h : Int} {k : Nat} {L : List Int} {e : Int × Int} (s : BdS f es h k L) (he : es[k]? = some e) (hne : e.2 ≠ h) : BdS f es h (k + 1) L := by
  refine ⟨s.rng, s.nod, s.snd, fun u hu => ?_⟩
  rw [take_snocE he, List.mem_append] at hu
  rcases hu with hu | hu
  · exact s.sta u hu
  · simp at hu; subst hu; exact absurd rfl hne
theorem BdS.start {f : FunV} {es : List (Int × Int)} {pv : Nat → List Int} {h : Int} {k : Nat} {L : List Int} (s : BdS f es h k L) (hk : es.length ≤ k) : BdI f es pv h 0 L :=
  ⟨s.rng, s.nod, s.snd, fun u hu => s.sta u (by rw [List.take_of_length_le hk]; exact hu), fun k y hk => by omega, Nat.zero_le _⟩
/-- One more that leads to a block of the loop is met. -/
theorem BdI.met {f : FunV} {es : List (Int × Int)} {pv : Nat → List Int} {h : Int} {i z : Nat} {L : List Int} {y : Int} (s : BdI f es pv h i L) (hy : y ∈ L) (hyh : y ≠ h) (hz : z < f.blocks.length) (hR : Rch f z) (hn : y ∈ nxt f z) : BdI f es pv h i (metL L (z : Int)) := by
  have hex : ∃ u, (u, h) ∈ es := by obtain ⟨u, hu, -⟩ := s.snd y hy; exact ⟨u, hu⟩
  have hy0 := s.rng y hy
  refine ⟨fun x hx => ?_, metL_nod s.nod, fun x hx => ?_, fun u hu => ⟨mem_metL.2 (.inl (s.sta u hu).1), mem_metL.2 (.inl (s.sta u hu).2)⟩, fun k x hk hx hxh v hv => ?_, Nat.le_trans s.le (metL_le _ _)⟩
  · rcases mem_metL.1 hx with hx | rfl
    · exact s.rng x hx
    · omega
  · rcases mem_metL.1 hx with hx | rfl
    · exact s.snd x hx
    · obtain ⟨u, hu, hl⟩ := s.snd y hy
      rw [show ((y.toNat : Nat) : Int) = y by omega] at hl
      rcases hl with hl | ⟨-, hl⟩
      · exact absurd hl hyh
      · refine ⟨u, hu, ?_⟩
        by_cases e : (z : Int) = h
        · exact .inl (by simpa using e)
        · refine .inr ⟨by simpa using hR, by simpa using e, fun P hP hs => hl.2 P ?_ hs⟩
          rw [show ((y.toNat : Nat) : Int) = y by omega]
          exact hs z (by simpa using hP) y hn hyh
  · rcases Nat.lt_or_ge k L.length with hkl | hkl
    · have h1 : L[k]? = some x := by
        obtain ⟨w, hw⟩ : ∃ w, L[k]? = some w := ⟨_, List.getElem?_eq_getElem hkl⟩
        have := metL_get (b := (z : Int)) hw
        rw [hx] at this
        rw [hw, this]
      exact mem_metL.2 (.inl (s.clo k x hk h1 hxh v hv))
    · have := (List.getElem?_eq_some_iff.1 hx).1
      unfold metL at hx this
      split at this
      · omega
      · rename_i hn'
        rw [if_neg hn'] at hx
        simp at this
        have hkL : k = L.length := by omega
        subst hkL
        rw [List.getElem?_append_right (Nat.le_refl _)] at hx
        simp at hx
        exact absurd hk (by have := s.le; omega)
theorem BdI.next {f : FunV} {es : List (Int × Int)} {pv : Nat → List Int} {h : Int} {i : Nat} {L : List Int} {y : Int} (s : BdI f es pv h i L) (hy : L[i]? = some y) (hall : y ≠ h → ∀ z ∈ pv y.toNat, z ∈ L) : BdI f es pv h (i + 1) L := by
  refine ⟨s.rng, s.nod, s.snd, s.sta, fun k x hk hx hxh => ?_, (List.getElem?_eq_some_iff.1 hy).1⟩
  rcases Nat.lt_or_ge k i with h1 | h1
  · exact s.clo k x h1 hx hxh
  · obtain rfl : k = i := by omega
    rw [hy] at hx
    injection hx with hx
    subst hx
    exact hall hxh
theorem rch_next {f : FunV} (hok : FlowOk f) (h1 : 1 ≤ f.blocks.length) {y : Nat} {v : Int} (hR : Rch f y) (hv : v ∈ nxt f y) : Rch f v.toNat := by
  obtain ⟨o, ho, hy⟩ := hR
  refine ⟨o, ho, ?_⟩
  have := (order_reach hok h1 ho).fwd y hy v (by simpa using hv)
  rw [show ((v.toNat : Nat) : Int) = v by have := hok.2.2 _ _ hv; omega]
  exact this
theorem BdI.done {f : FunV} {es : List (Int × Int)} {pv : Nat → List Int} {h : Int} {i : Nat} {L : List Int} (s : BdI f es pv h i L) (hi : L.length ≤ i) (hok : FlowOk f) (h1 : 1 ≤ f.blocks.length) (hpv : ∀ b z : Nat, Rch f z → (b : Int) ∈ nxt f z → (z : Int) ∈ pv b) : IsBody f es h (sortL L) := by
  refine ⟨sortL_asc' s.nod, fun y => ?_⟩
  rw [mem_sortL]
  constructor
  · intro hy
    have h0 := s.rng y hy
    exact ⟨y.toNat, by omega, by omega, s.snd y hy⟩
  · rintro ⟨x, rfl, hx, u, hu, hl⟩
    have hs := s.sta u hu
    rcases hl with hl | ⟨hR, -, hl⟩
    · rw [hl]; exact hs.1
    · refine (hl (fun v => Rch f v.toNat ∧ (v ∈ L → (x : Int) ∈ L)) ⟨by simpa using hR, fun h => h⟩ (fun y hy v hv hvh => ?_)).2 hs.2
      obtain ⟨hyR, hyL⟩ := hy
      simp only [Int.toNat_natCast] at hyR
      have hv0 := hok.2.2 y v hv
      refine ⟨rch_next hok h1 hyR hv, fun hvL => hyL ?_⟩
      obtain ⟨k, hk⟩ := List.getElem?_of_mem hvL
      exact s.clo k v (by have := (List.getElem?_eq_some_iff.1 hk).1; omega) hk hvh y (hpv v.toNat y hyR (by rw [show ((v.toNat : Nat) : Int) = v by omega]; exact hv))
end Go.Proofs.Ytnoknodijombpaa
