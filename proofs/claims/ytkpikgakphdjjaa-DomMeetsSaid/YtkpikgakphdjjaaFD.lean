/- Plain mathematics: a walk over blocks, as a relation; it has one outcome; the same walk with a list of what isn't left yet. Condition: what comes next is there. -/
import Derived.Test.YtkpikgakphdjjaaFA
set_option linter.unusedSimpArgs false
set_option linter.unusedVariables false
namespace Go.Proofs.Ytkpikgakphdjjaa

def metB (m : List Bool) (c : Int) : Bool := m.getD c.toNat false
def meet (m : List Bool) (c : Int) : List Bool := m.set c.toNat true
inductive Dfs (f : FunV) : List Int → List Bool → List Int → List Bool → List Int → Prop
  | nil (m l) : Dfs f [] m l m l
  | old {c cs m l m' l'} : metB m c = true → Dfs f cs m l m' l' → Dfs f (c :: cs) m l m' l'
  | new {c cs m l m1 l1 m' l'} : metB m c = false → Dfs f (nxt f c.toNat) (meet m c) l m1 l1 → Dfs f cs m1 (l1 ++ [c]) m' l' → Dfs f (c :: cs) m l m' l'
theorem Dfs.one {f : FunV} {cs : List Int} {m : List Bool} {l : List Int} {m1 m2 : List Bool} {l1 l2 : List Int} (h1 : Dfs f cs m l m1 l1) : Dfs f cs m l m2 l2 → m1 = m2 ∧ l1 = l2 := by
  induction h1 generalizing m2 l2 with
  | nil m l => intro h2; cases h2; exact ⟨rfl, rfl⟩
  | old hm _ ih =>
    intro h2
    cases h2 with
    | old _ h => exact ih h
    | new hf _ _ => rw [hm] at hf; cases hf
  | new hm _ _ ih1 ih2 =>
    intro h2
    cases h2 with
    | old hf _ => rw [hm] at hf; cases hf
    | new _ ha hb =>
      obtain ⟨rfl, rfl⟩ := ih1 ha
      exact ih2 hb
theorem count_meet {m : List Bool} {c : Int} (hc : c.toNat < m.length) (h : metB m c = false) : (meet m c).count false + 1 = m.count false := by
  unfold metB at h
  unfold meet
  generalize c.toNat = k at *
  clear c
  induction m generalizing k with
  | nil => simp at hc
  | cons a m ih =>
    cases k with
    | zero =>
      simp at h
      subst h
      simp
    | succ k =>
      have := ih k (by simpa using hc) (by simpa using h)
      cases a <;> simp <;> omega
theorem meet_len (m : List Bool) (c : Int) : (meet m c).length = m.length := by simp [meet]
theorem dfs_total {f : FunV} (hok : ∀ k v, v ∈ nxt f k → 0 ≤ v ∧ v < f.blocks.length) : ∀ (u : Nat) (m : List Bool) (cs : List Int) (l : List Int), m.length = f.blocks.length → (∀ c ∈ cs, 0 ≤ c ∧ c < f.blocks.length) → m.count false ≤ u → ∃ m' l', Dfs f cs m l m' l' ∧ m'.length = f.blocks.length ∧ m'.count false ≤ m.count false := by
  intro u
  induction u with
  | zero =>
    intro m cs
    induction cs with
    | nil => intro l hl _ _; exact ⟨m, l, .nil m l, hl, Nat.le_refl _⟩
    | cons c cs ih =>
      intro l hl hc hu
      by_cases hm : metB m c = true
      · obtain ⟨m', l', h, h1, h2⟩ := ih l hl (fun c h => hc c (List.mem_cons_of_mem _ h)) hu
        exact ⟨m', l', .old hm h, h1, h2⟩
      · have := hc c List.mem_cons_self
        have := count_meet (m := m) (c := c) (by omega) (Bool.eq_false_iff.2 hm)
        omega
  | succ u ihu =>
    intro m cs
    induction cs with
    | nil => intro l hl _ _; exact ⟨m, l, .nil m l, hl, Nat.le_refl _⟩
    | cons c cs ih =>
      intro l hl hc hu
      by_cases hm : metB m c = true
      · obtain ⟨m', l', h, h1, h2⟩ := ih l hl (fun c h => hc c (List.mem_cons_of_mem _ h)) hu
        exact ⟨m', l', .old hm h, h1, h2⟩
      · have hcr := hc c List.mem_cons_self
        have hmf := Bool.eq_false_iff.2 hm
        have hcnt := count_meet (m := m) (c := c) (by omega) hmf
        obtain ⟨m1, l1, h1, h2, h3⟩ := ihu (meet m c) (nxt f c.toNat) l (by rw [meet_len, hl]) (fun v hv => hok _ v hv) (by omega)
        obtain ⟨m', l', h4, h5, h6⟩ := ihu m1 cs (l1 ++ [c]) h2 (fun c h => hc c (List.mem_cons_of_mem _ h)) (by omega)
        exact ⟨m', l', .new hmf h1 h4, h5, by omega⟩

/-- The same walk under way: what isn't left yet (the last one on top) comes to its end so. -/
inductive FinS (f : FunV) : List (Int × List Int) → List Bool → List Int → List Bool → List Int → Prop
  | done (m l) : FinS f [] m l m l
  | go {b nx st m l m1 l1 m' l'} : Dfs f nx m l m1 l1 → FinS f st m1 (l1 ++ [b]) m' l' → FinS f ((b, nx) :: st) m l m' l'
theorem FinS.empty {f : FunV} {m : List Bool} {l : List Int} {m' : List Bool} {l' : List Int} (h : FinS f [] m l m' l') : m = m' ∧ l = l' := by cases h; exact ⟨rfl, rfl⟩
theorem FinS.pop {f : FunV} {b : Int} {st m l m' l'} (h : FinS f ((b, []) :: st) m l m' l') : FinS f st m (l ++ [b]) m' l' := by
  cases h with
  | go h1 h2 => cases h1; exact h2
theorem FinS.old {f : FunV} {b c : Int} {cs : List Int} {st m l m' l'} (h : FinS f ((b, c :: cs) :: st) m l m' l') (hm : metB m c = true) : FinS f ((b, cs) :: st) m l m' l' := by
  cases h with
  | go h1 h2 =>
    cases h1 with
    | old _ h => exact .go h h2
    | new hf _ _ => rw [hm] at hf; cases hf
theorem FinS.new {f : FunV} {b c : Int} {cs : List Int} {st m l m' l'} (h : FinS f ((b, c :: cs) :: st) m l m' l') (hm : metB m c = false) : FinS f ((c, nxt f c.toNat) :: (b, cs) :: st) (meet m c) l m' l' := by
  cases h with
  | go h1 h2 =>
    cases h1 with
    | old hf _ => rw [hm] at hf; cases hf
    | new _ ha hb => exact .go ha (.go hb h2)
/-- A walk from block c on. -/
theorem FinS.start {f : FunV} {c : Int} {m l m' l'} (h : Dfs f [c] m l m' l') (hm : metB m c = false) : FinS f [(c, nxt f c.toNat)] (meet m c) l m' l' := by
  cases h with
  | old hf _ => rw [hm] at hf; cases hf
  | new _ ha hb => cases hb; exact .go ha (.done _ _)
def openW (os : List (Int × List Int)) : Nat := (os.map (fun v => 1 + v.2.length)).sum
def walkM (m : List Bool) (os : List (Int × List Int)) : Nat := 4 * m.count false + openW os
theorem openW_app (xs ys : List (Int × List Int)) : openW (xs ++ ys) = openW xs + openW ys := by simp [openW]
theorem openW_one (b : Int) (nx : List Int) : openW [(b, nx)] = 1 + nx.length := by simp [openW]
theorem walkM_pop (m : List Bool) (os : List (Int × List Int)) (b : Int) : walkM m os < walkM m (os ++ [(b, [])]) := by
  unfold walkM; rw [openW_app, openW_one]; simp
theorem walkM_old (m : List Bool) (os : List (Int × List Int)) (b c : Int) (cs : List Int) : walkM m (os ++ [(b, cs)]) < walkM m (os ++ [(b, c :: cs)]) := by
  unfold walkM; rw [openW_app, openW_app, openW_one, openW_one]; simp
theorem walkM_new {f : FunV} {m : List Bool} (os : List (Int × List Int)) (b c : Int) (cs : List Int) (hc : c.toNat < m.length) (hm : metB m c = false) : walkM (meet m c) (os ++ [(b, cs)] ++ [(c, nxt f c.toNat)]) < walkM m (os ++ [(b, c :: cs)]) := by
  have h1 := count_meet hc hm
  have h2 := nxt_len f c.toNat
  unfold walkM
  rw [openW_app, openW_app, openW_app, openW_one, openW_one, openW_one, List.length_cons]
  omega
end Go.Proofs.Ytkpikgakphdjjaa
