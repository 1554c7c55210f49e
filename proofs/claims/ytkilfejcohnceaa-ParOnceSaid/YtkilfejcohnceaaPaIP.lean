/- Layer 17, mathematics: what locations have behind moves; the map from a location to its first place. No condition. -/
import Derived.Test.YtkilfejcohnceaaPaIN
import Derived.Test.YtkilfejcohnceaaPaQJ
set_option linter.unusedSimpArgs false
set_option linter.unusedVariables false
namespace Go.Proofs.Ytkilfejcohnceaa
open Go.RowKit Go.Maps

def idxL (at' : List LcV) (x : LcV) : Nat := at'.findIdx (fun y => decide (y = x))
def toldL (n : Nat) (has : List Int) : List Int := (List.range n).map (fun i => has.getD i 0)
def st0 (at' : List LcV) (told : List Int) (x : LcV) : Int := if idxL at' x < at'.length then told.getD (idxL at' x) 0 else 0
def playL (l : List MvV) (at' : List LcV) (has : List Int) : List Int :=
  (List.range at'.length).map (fun i => if idxL at' (lcAt at' i) = i then seqE l (st0 at' (toldL at'.length has)) (lcAt at' i) else (toldL at'.length has).getD i 0)
def updO (F : LcV → Option Nat) (x : LcV) (i : Nat) : LcV → Option Nat := fun y => if y = x then some i else F y
def foldT (told : List Int) (l : List (Nat × LcV)) : LcV → Int := l.foldl (fun T p => updL T p.2 (told.getD p.1 0)) (fun _ => 0)
def foldF (l : List (Nat × LcV)) : LcV → Option Nat := l.foldl (fun F p => updO F p.2 p.1) (fun _ => none)
theorem foldT_snoc (told : List Int) (l : List (Nat × LcV)) (p : Nat × LcV) : foldT told (l ++ [p]) = updL (foldT told l) p.2 (told.getD p.1 0) := by simp [foldT, List.foldl_append]
theorem foldF_snoc (l : List (Nat × LcV)) (p : Nat × LcV) : foldF (l ++ [p]) = updO (foldF l) p.2 p.1 := by simp [foldF, List.foldl_append]
/-- The first place of x from k on, n places in all. -/
def fromI (at' : List LcV) (x : LcV) : Nat → Nat → Option Nat
  | 0, _ => none
  | n + 1, k => if lcAt at' k = x then some k else fromI at' x n (k + 1)
theorem from_idx (at' : List LcV) (x : LcV) : ∀ (n k : Nat), k + n = at'.length → (∀ j, j < k → lcAt at' j ≠ x) → fromI at' x n k = if idxL at' x < at'.length then some (idxL at' x) else none
  | 0, k, h, hn => by
    have e : idxL at' x = at'.length := by
      unfold idxL
      rw [List.findIdx_eq_length]
      intro y hy
      obtain ⟨j, hj⟩ := List.getElem?_of_mem hy
      have hjl := (List.getElem?_eq_some_iff.1 hj).1
      have := hn j (by omega)
      rw [lcAt_of hj] at this
      simpa using this
    rw [e, if_neg (Nat.lt_irrefl _)]
    rfl
  | n + 1, k, h, hn => by
    unfold fromI
    by_cases e : lcAt at' k = x
    · rw [if_pos e]
      have hk : k < at'.length := by omega
      have e2 : idxL at' x = k := by
        unfold idxL
        rw [List.findIdx_eq hk]
        have hg := lcAt_of (List.getElem?_eq_getElem hk)
        refine ⟨by rw [← hg]; simpa using e, fun j hj => ?_⟩
        have := hn j hj
        rw [lcAt_of (List.getElem?_eq_getElem (show j < at'.length by omega))] at this
        simpa using this
      rw [e2, if_pos hk]
    · rw [if_neg e]
      exact from_idx at' x n (k + 1) (by omega) (fun j hj => by
        by_cases e2 : j = k
        · subst e2; exact e
        · exact hn j (by omega))
theorem range_pairs {at' : List LcV} {ys : List (BkT17 at')} {len : Nat} (hy : bkN17 ys = (List.range len).reverse) (hl : at'.length = len) : ys.map (fun x => x.1) = ((List.range len).map (fun j => (j, lcAt at' j))).reverse := by
  have e : ys.map (fun x => x.1) = (bkN17 ys).map (fun j => (j, lcAt at' j)) := by
    unfold bkN17
    rw [List.map_map]
    refine List.map_congr_left fun x _ => ?_
    obtain ⟨⟨j, y⟩, h⟩ := x
    simp only [Function.comp]
    rw [lcAt_of h]
  rw [e, hy, List.map_reverse]
theorem fold_range (at' : List LcV) (x : LcV) : ∀ (n k : Nat), foldF (((List.range' k n).map (fun j => (j, lcAt at' j))).reverse) x = fromI at' x n k
  | 0, k => rfl
  | n + 1, k => by
    rw [List.range'_succ, List.map_cons, List.reverse_cons, foldF_snoc]
    unfold updO fromI
    simp only
    by_cases e : lcAt at' k = x
    · rw [if_pos e, if_pos e.symm]
    · rw [if_neg e, if_neg (fun h => e h.symm)]
      exact fold_range at' x n (k + 1)
theorem foldT_F (told : List Int) : ∀ (l : List (Nat × LcV)) (x : LcV), foldT told l x = match foldF l x with | some i => told.getD i 0 | none => 0 := by
  intro l
  have key : ∀ (l : List (Nat × LcV)) (T : LcV → Int) (F : LcV → Option Nat), (∀ x, T x = match F x with | some i => told.getD i 0 | none => 0) → ∀ x, l.foldl (fun T p => updL T p.2 (told.getD p.1 0)) T x = match l.foldl (fun F p => updO F p.2 p.1) F x with | some i => told.getD i 0 | none => 0 := by
    intro l
    induction l with
    | nil => intro T F h x; exact h x
    | cons p l ih =>
      intro T F h x
      rw [List.foldl_cons, List.foldl_cons]
      refine ih _ _ (fun y => ?_) x
      unfold updL updO
      by_cases e : y = p.2
      · rw [if_pos e, if_pos e]
      · rw [if_neg e, if_neg e]; exact h y
  exact key l _ _ (fun x => rfl)
theorem play_first {at' : List LcV} {ys : List (BkT17 at')} {len : Nat} (hy : bkN17 ys = (List.range len).reverse) (hl : at'.length = len) (x : LcV) : foldF (ys.map (fun x => x.1)) x = if idxL at' x < at'.length then some (idxL at' x) else none := by
  rw [range_pairs hy hl, List.range_eq_range', fold_range, from_idx at' x len 0 (by omega) (fun j hj => absurd hj (by omega))]
theorem play_now {at' : List LcV} {ys : List (BkT17 at')} {len : Nat} (told : List Int) (hy : bkN17 ys = (List.range len).reverse) (hl : at'.length = len) : foldT told (ys.map (fun x => x.1)) = st0 at' told := by
  funext x
  rw [foldT_F, play_first hy hl]
  unfold st0
  by_cases h : idxL at' x < at'.length
  · rw [if_pos h, if_pos h]
  · rw [if_neg h, if_neg h]
theorem idx_at17 {at' : List LcV} {x : LcV} (h : idxL at' x < at'.length) : lcAt at' (idxL at' x) = x := by
  have t := List.findIdx_getElem (xs := at') (p := fun y => decide (y = x)) (w := h)
  have e := lcAt_of (List.getElem?_eq_getElem h)
  unfold idxL at e ⊢
  rw [e]
  simpa using t
theorem idx_le17 {at' : List LcV} {i : Nat} (hi : i < at'.length) : idxL at' (lcAt at' i) ≤ i := by
  unfold idxL
  have e := lcAt_of (List.getElem?_eq_getElem hi)
  rcases Nat.lt_or_ge i (at'.findIdx (fun y => decide (y = lcAt at' i))) with h | h
  · have t : decide (at'[i]'hi = lcAt at' i) = false := List.not_of_lt_findIdx (xs := at') (p := fun y => decide (y = lcAt at' i)) h
    rw [← e] at t
    simp at t
  · exact h
/-- Block b is a map of at most n entries: the locations that F has, each with its place. -/
def FirM (w : World) (b n : Nat) (F : LcV → Option Nat) (D : DataW Unit) : Prop := w.ownsMap Try.prog 24 (plainElem (H := Unit) Try.prog 3) b n D ∧ ∀ x, lcR x → (Maps.has D (litL x) = (F x).isSome ∧ ∀ i, F x = some i → ∀ z, D.atKey (litL x) z = .lit (.int .i64 ((i : Nat) : Int)))
theorem FirM.start (w : World) : FirM (w.alloc (.map #[] 0)) w.heap.size 0 (fun _ => none) (.map []) := ⟨World.ownsMap_made _ _ _ _, fun x _ => ⟨rfl, fun i h => by cases h⟩⟩
theorem FirM.kept {w w' : World} {b n : Nat} {F : LcV → Option Nat} {D : DataW Unit} (h : FirM w b n F D) (hb : w'.heap[b]? = w.heap[b]?) : FirM w' b n F D := by
  obtain ⟨⟨es, clock, h1, h2, h3, h4⟩, hT⟩ := h
  exact ⟨⟨es, clock, hb.trans h1, h2, h3, h4⟩, hT⟩
theorem FirM.lt {w : World} {b n : Nat} {F : LcV → Option Nat} {D : DataW Unit} (h : FirM w b n F D) : b < w.heap.size := h.1.lt
theorem FirM.noBox {w : World} {b n : Nat} {F : LcV → Option Nat} {D : DataW Unit} (h : FirM w b n F D) {c : Array Value} {T' : TypeId} {f : Nat × Nat} : w.heap[b]? ≠ some (.cells c T' f) := fun e => by
  obtain ⟨⟨es, clock, h1, -⟩, -⟩ := h
  rw [h1] at e
  cases e
theorem FirM.put {w : World} {b n : Nat} {F : LcV → Option Nat} {D : DataW Unit} (h : FirM w b n F D) {x : LcV} (hx : lcR x) (i : Nat) (hi : i ≤ 1000000) (hn : n < 1000000) :
    ∃ w' D', (Instr.mapUpdate 45 (.map (some b)) (.agg #[.int .i64 x.k, .int .i64 x.n]) (.int .i64 (i : Int))).run Try.prog w = .ok () w' ∧ FirM w' b (n + 1) (updO F x i) D' ∧ w.grownBy w' (some b) := by
  obtain ⟨hD, hT⟩ := h
  obtain ⟨w', hrun, h1, h2⟩ := hD.update (e := 3) keyed17 under17 (by simp only [maxLen]; omega) (key17 hx) (R17_int (v := (i : Int)) ⟨by omega, by omega⟩)
  refine ⟨w', _, hrun, ⟨h1, fun y hy => ?_⟩, h2⟩
  unfold updO
  by_cases e : y = x
  · subst e
    refine ⟨?_, fun j hj z => ?_⟩
    · rw [if_pos rfl, has_put_same hD.isMap (keyed17.key (key17 hx))]
      rfl
    · rw [if_pos rfl] at hj
      injection hj with hj
      subst hj
      rw [atKey_put_same hD.isMap (keyed17.key (key17 hx))]
  · rw [if_neg e]
    refine ⟨?_, fun j hj z => ?_⟩
    · rw [has_put_other (fun h => e (litL_inj hy hx h))]
      exact (hT y hy).1
    · rw [atKey_put_other (fun h => e (litL_inj hy hx h))]
      exact (hT y hy).2 j hj z
theorem key17_inv {v : Value} {kl : Lit} (h : keyOf Try.prog 24 v = some kl) : ∃ x, lcR x ∧ v = lcA x ∧ kl = litL x := by
  obtain ⟨m, hm⟩ := size17
  rw [keyOf_struct17, ktype17, hm] at h
  cases hf : v.formed Try.prog 24 with
  | false => rw [hf] at h; cases h
  | true =>
    rw [hf] at h
    cases v <;> simp [Value.formed, Try.underlying24, cells17] at hf
    rename_i cs
    obtain ⟨l, hl⟩ : ∃ l, cs.toList = l := ⟨_, rfl⟩
    have hlen : l.length = 2 := by rw [← hl, Array.length_toList]; exact hf
    match l, hlen with
    | [a, b], _ =>
      have hcs : cs = #[a, b] := by rw [← Array.toArray_toList (xs := cs), hl]
      subst hcs
      have hlt : (Value.agg #[a, b]).cells.toList = [a, b] := rfl
      rw [hlt] at h
      simp only [Bool.and_self, if_true] at h
      simp [Program.keyLits, Try.underlying24, Try.underlying3, cells17, cellsInt17] at h
      clear hl hlt hf hlen
      cases a <;> try (simp at h; done)
      rename_i q1 n1 _
      simp only [] at h
      by_cases c1 : q1 = .i64 ∧ (Lit.int .i64 n1).wf = true
      rotate_left
      · rw [if_neg c1] at h
        simp at h
      rw [if_pos c1] at h
      cases b <;> try (simp at h; done)
      rename_i q2 n2 _
      simp at h
      by_cases c2 : q2 = .i64 ∧ (Lit.int .i64 n2).wf = true
      rotate_left
      · rw [if_neg c2] at h
        simp at h
      rw [if_pos c2] at h
      obtain ⟨rfl, h1⟩ := c1
      obtain ⟨rfl, h2⟩ := c2
      simp at h
      refine ⟨⟨n1, n2⟩, ⟨?_, ?_⟩, rfl, h.symm⟩
      · simp [Lit.wf, IntKind.min, IntKind.max, IntKind.signed, IntKind.bits] at h1
        exact (show i64R n1 from ⟨by omega, by omega⟩)
      · simp [Lit.wf, IntKind.min, IntKind.max, IntKind.signed, IntKind.bits] at h2
        exact (show i64R n2 from ⟨by omega, by omega⟩)
end Go.Proofs.Ytkilfejcohnceaa
