/- Plain mathematics: where a walk's order leads back, a way leads back. Condition: what comes next is there. -/
import Derived.Test.YtpggjolbohffjaaZW
set_option linter.unusedSimpArgs false
set_option linter.unusedVariables false
namespace Go.Proofs.Ytpggjolbohffjaa

/-- A way leads from a to b. -/
def Pth (f : FunV) (a b : Int) : Prop := ∀ P : Int → Prop, P a → (∀ x : Nat, P x → ∀ v ∈ nxt f x, P v) → P b
theorem Pth.refl (f : FunV) (a : Int) : Pth f a a := fun _ h _ => h
theorem Pth.trans {f : FunV} {a b c : Int} (h : Pth f a b) (h' : Pth f b c) : Pth f a c := fun P ha hs => h' P (h P ha hs) hs
theorem Pth.step {f : FunV} {a b : Int} (h0 : 0 ≤ a) (h : b ∈ nxt f a.toNat) : Pth f a b := fun P ha hs => by
  obtain ⟨n, rfl⟩ : ∃ n : Nat, a = n := ⟨a.toNat, by omega⟩
  exact hs n ha b h
theorem Pth.within {f : FunV} {a : Nat} {b : Int} {m : List Bool} (h : Pth f a b) (hg : WG f a m) (hc : Clo f m) : metB m b = true := h (fun y => metB m y = true) hg.met (fun x hx v hv => hc x hx v hv)
def Bef (l : List Int) (v x : Int) : Prop := ∃ s t, l = s ++ x :: t ∧ v ∈ s
theorem Bef.left {l r : List Int} {v x : Int} (h : Bef l v x) : Bef (l ++ r) v x := by
  obtain ⟨s, t, rfl, hv⟩ := h
  exact ⟨s, t ++ r, by simp, hv⟩
theorem Bef.right {l r : List Int} {v x : Int} (h : Bef l v x) : Bef (r ++ l) v x := by
  obtain ⟨s, t, rfl, hv⟩ := h
  exact ⟨r ++ s, t, by simp, by simp [hv]⟩
theorem bef_of {p q : List Int} {v x : Int} (hv : v ∈ p) (hx : x ∈ q) : Bef (p ++ q) v x := by
  obtain ⟨s, t, rfl⟩ := List.append_of_mem hx
  exact ⟨p ++ s, t, by simp, by simp [hv]⟩
theorem Dfs.back {f : FunV} {cs : List Int} {m : List Bool} {l : List Int} {m' : List Bool} {l' : List Int} (h : Dfs f cs m l m' l') (hok : ∀ k v, v ∈ nxt f k → 0 ≤ v ∧ v < f.blocks.length) : m.length = f.blocks.length → (∀ c ∈ cs, 0 ≤ c ∧ c < f.blocks.length) → ∀ new : List Int, l' = l ++ new →
    (∀ x ∈ new, ∃ c ∈ cs, Pth f c x) ∧ (∀ x ∈ new, ∀ v ∈ nxt f x.toNat, metB m v = true ∨ Bef new v x ∨ Pth f v x) := by
  induction h with
  | nil m l =>
    intro _ _ new e
    have : new = [] := by simpa using e
    subst this
    simp
  | old hm _ ih =>
    intro hl hc new e
    obtain ⟨i1, i2⟩ := ih hl (fun c h => hc c (List.mem_cons_of_mem _ h)) new e
    exact ⟨fun x hx => by obtain ⟨c, h, p⟩ := i1 x hx; exact ⟨c, List.mem_cons_of_mem _ h, p⟩, i2⟩
  | @new c cs m l m1 l1 m' l' hm h1 h2 ih1 ih2 =>
    intro hl hc new e
    have hcr := hc c List.mem_cons_self
    obtain ⟨n1, a1, a2, a3, a4, a5, a6, -, -⟩ := h1.spec hok (by rw [meet_len, hl]) (fun v hv => hok _ v hv)
    rw [meet_len] at a2
    obtain ⟨n2, b1, -⟩ := h2.spec hok (by rw [a2, hl]) (fun c h => hc c (List.mem_cons_of_mem _ h))
    obtain ⟨p1, q1⟩ := ih1 (by rw [meet_len, hl]) (fun v hv => hok _ v hv) n1 a1
    obtain ⟨p2, q2⟩ := ih2 (by rw [a2, hl]) (fun c h => hc c (List.mem_cons_of_mem _ h)) n2 b1
    have en : new = n1 ++ ([c] ++ n2) := by
      rw [b1, a1, List.append_assoc, List.append_assoc] at e
      exact (List.append_cancel_left e).symm
    subst en
    have mm : ∀ x, 0 ≤ x → (metB (meet m c) x = true ↔ metB m x = true ∨ x = c) := fun x hx => met_meet hcr.1 (by omega) hx
    have cr : ∀ x ∈ n1, Pth f c x := fun x hx => by
      obtain ⟨d, hd, hp⟩ := p1 x hx
      exact (Pth.step hcr.1 hd).trans hp
    refine ⟨fun x hx => ?_, fun x hx v hv => ?_⟩
    · simp only [List.mem_append, List.mem_singleton] at hx
      rcases hx with h | rfl | h
      · exact ⟨c, List.mem_cons_self, cr x h⟩
      · exact ⟨x, List.mem_cons_self, .refl f x⟩
      · obtain ⟨d, hd, hp⟩ := p2 x h
        exact ⟨d, List.mem_cons_of_mem _ hd, hp⟩
    · have hv0 := (hok _ v hv).1
      simp only [List.mem_append, List.mem_singleton] at hx
      rcases hx with h | rfl | h
      · rcases q1 x h v hv with h' | h' | h'
        · rcases (mm v hv0).1 h' with h'' | rfl
          · exact .inl h''
          · exact .inr (.inr (cr x h))
        · exact .inr (.inl h'.left)
        · exact .inr (.inr h')
      · rcases (a3 v hv0).1 (a6 v hv) with h' | h'
        · rcases (mm v hv0).1 h' with h'' | rfl
          · exact .inl h''
          · exact .inr (.inr (.refl f v))
        · exact .inr (.inl (bef_of h' (by simp)))
      · rcases q2 x h v hv with h' | h' | h'
        · rcases (a3 v hv0).1 h' with h' | h'
          · rcases (mm v hv0).1 h' with h'' | rfl
            · exact .inl h''
            · exact .inr (.inl (bef_of (p := [v]) (by simp) h).right)
          · exact .inr (.inl (bef_of h' (by simp [h])))
        · exact .inr (.inl h'.right.right)
        · exact .inr (.inr h')
def placeN (l : List Int) (y : Int) : Int := if y ∈ l then ((l.idxOf y + 1 : Nat) : Int) else 0
theorem placeN_out {l : List Int} {y : Int} (h : y ∉ l) : placeN l y = 0 := by unfold placeN; rw [if_neg h]
theorem placeN_pos {l : List Int} {y : Int} (h : y ∈ l) : 0 < placeN l y := by unfold placeN; rw [if_pos h]; omega
theorem placeN_le {l : List Int} {y : Int} : 0 ≤ placeN l y ∧ placeN l y ≤ l.length := by
  unfold placeN
  split
  · rename_i h
    have := List.idxOf_lt_length_of_mem h
    omega
  · omega
theorem placeN_snoc {l : List Int} {y b : Int} (hy : y ∉ l) : placeN (l ++ [y]) b = if b = y then ((l.length + 1 : Nat) : Int) else placeN l b := by
  by_cases h : b = y
  · subst h
    unfold placeN
    rw [if_pos (by simp), if_pos rfl, List.idxOf_append, if_neg hy]
    simp
  · rw [if_neg h]
    unfold placeN
    by_cases hb : b ∈ l
    · rw [if_pos (by simp [hb]), if_pos hb, List.idxOf_append, if_pos hb]
    · rw [if_neg (by simp [hb, h]), if_neg hb]
theorem bef_place {l : List Int} {v x : Int} (hn : l.Nodup) (h : Bef l v x) : placeN l.reverse x < placeN l.reverse v := by
  obtain ⟨s, t, rfl, hv⟩ := h
  have e : (s ++ x :: t).reverse = (t.reverse ++ [x]) ++ s.reverse := by simp
  rw [List.nodup_append] at hn
  obtain ⟨hn1, hn2, hn3⟩ := hn
  have hxt : x ∉ t := (List.nodup_cons.1 hn2).1
  have hvx : v ≠ x := hn3 v hv x List.mem_cons_self
  have hvt : v ∉ t := fun h => hn3 v hv v (List.mem_cons_of_mem _ h) rfl
  rw [e]
  unfold placeN
  rw [if_pos (by simp), if_pos (by simp [hv]), List.idxOf_append, if_pos (by simp), List.idxOf_append, if_neg (by simp [hxt]), List.idxOf_append (a := v), if_neg (by simp [hvx, hvt])]
  simp
  omega
theorem order_back {f : FunV} {l : List Int} (hok : FlowOk f) (h1 : 1 ≤ f.blocks.length) (h : OrderOf f l) : ∀ x ∈ l, ∀ v ∈ nxt f x.toNat, placeN l v ≤ placeN l x → Pth f v x := by
  have hr := order_reach hok h1 h
  obtain ⟨m, lF, hD, rfl⟩ := h
  intro x hx v hv hle
  obtain ⟨-, hb⟩ := hD.back hok.2.2 (by simp) (by intro c hc; simp at hc; subst hc; omega) lF (by simp)
  rcases hb x (List.mem_reverse.1 hx) v hv with h | h | h
  · rw [metB_rep] at h; cases h
  · have := bef_place ((List.reverse_perm lF).nodup_iff.1 hr.nod) h
    omega
  · exact h
theorem order_head {f : FunV} {l : List Int} (h : OrderOf f l) : l[0]? = some 0 := by
  obtain ⟨m, lF, hD, rfl⟩ := h
  cases hD with
  | old hm _ => rw [metB_rep] at hm; cases hm
  | new _ _ h2 => cases h2; simp
def placeOf (n : Nat) (xs : List Int) : List Int := (List.range n).map (fun b : Nat => placeN xs (b : Int))
theorem placeOf_nil (n : Nat) : placeOf n [] = List.replicate n 0 := by
  unfold placeOf placeN
  apply List.ext_getElem
  · simp
  · intro i h1 h2; simp
theorem placeOf_add {n : Nat} {xs : List Int} {y : Nat} (hy : y < n) (hn : (y : Int) ∉ xs) : placeOf n (xs ++ [(y : Int)]) = (placeOf n xs).set y ((xs.length + 1 : Nat) : Int) := by
  apply List.ext_getElem
  · simp [placeOf]
  · intro i h1 h2
    have hi : i < n := by simpa [placeOf] using h1
    rw [List.getElem_set]
    simp only [placeOf, List.getElem_map, List.getElem_range]
    rw [placeN_snoc hn]
    by_cases e : y = i
    · subst e; simp
    · rw [if_neg (by omega), if_neg e]
def PlaceW (w : World) (bp n : Nat) (xs : List Int) : Prop := Box w bp ((placeOf n xs).map (Value.int .i64)).toArray 3
theorem PlaceW.cell {w : World} {bp n b : Nat} {xs : List Int} (h : PlaceW w bp n xs) (hb : b < n) : w.cell? ⟨bp, b, none⟩ = some (.int .i64 (placeN xs (b : Int))) ∧ w.frozen? ⟨bp, b, none⟩ = false :=
  Box.cell h b (by simp [placeOf, hb])
theorem PlaceW.add {w : World} {bp n : Nat} {xs : List Int} {y : Nat} (h : PlaceW w bp n xs) (hy : y < n) (hn : (y : Int) ∉ xs) : PlaceW (w.setCell ⟨bp, y, none⟩ (.int .i64 ((xs.length + 1 : Nat) : Int))) bp n (xs ++ [(y : Int)]) := by
  have := Box.set h y (.int .i64 ((xs.length + 1 : Nat) : Int))
  unfold PlaceW
  rw [placeOf_add hy hn]
  simpa [List.map_set] using this
theorem madeCells_int (n : Nat) : madeCells (Value.int .i64 0).cells (n * 1) = ((List.replicate n (0 : Int)).map (Value.int .i64)).toArray := by
  unfold madeCells
  apply Array.ext
  · simp
  · intro i h1 h2
    simp [Value.cells, Nat.mod_one]
end Go.Proofs.Ytpggjolbohffjaa
