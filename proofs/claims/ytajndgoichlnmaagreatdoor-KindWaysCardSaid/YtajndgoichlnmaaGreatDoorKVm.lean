/- Plain mathematics of a way through a function along which it is kept by hand what is set, and fresh. No condition. -/
import Derived.Test.YtajndgoichlnmaaGreatDoorKR
set_option linter.unusedSimpArgs false
set_option linter.unusedVariables false
namespace Go.Proofs.YtajndgoichlnmaaGreatDoor
open Go.RowKit

/-- An own list of bools: g says which. -/
def BG (w : World) (bm n : Nat) (g : Nat → Bool) : Prop := Box w bm ((List.range n).map (fun m => Value.bool (g m))).toArray 4
theorem BG.cell {w : World} {bm n b : Nat} {g : Nat → Bool} (h : BG w bm n g) (hb : b < n) : w.cell? ⟨bm, b, none⟩ = some (.bool (g b)) ∧ w.frozen? ⟨bm, b, none⟩ = false := Box.cell h b (by simp [hb])
theorem BG.set {w : World} {bm n : Nat} {g : Nat → Bool} (h : BG w bm n g) (y : Nat) (v : Bool) : BG (w.setCell ⟨bm, y, none⟩ (.bool v)) bm n (fun m => if m = y then v else g m) := by
  have h1 := Box.set h y (.bool v)
  have e : (((List.range n).map (fun m => Value.bool (g m))).toArray).setIfInBounds y (.bool v) = ((List.range n).map (fun m => Value.bool (if m = y then v else g m))).toArray := by
    rw [List.setIfInBounds_toArray]
    congr 1
    apply List.ext_getElem
    · simp
    · intro i h1 h2
      rw [List.getElem_set]
      simp only [List.getElem_map, List.getElem_range]
      by_cases e : y = i
      · subst e; simp
      · rw [if_neg e, if_neg (fun h => e h.symm)]
  rw [e] at h1
  exact h1
theorem BG.other {w : World} {bm n : Nat} {g : Nat → Bool} (h : BG w bm n g) {b j : Nat} {v : Value} (hb : bm ≠ b) : BG (w.setCell ⟨b, j, none⟩ v) bm n g := Box.other h hb
theorem BG.below {w w' : World} {bm n : Nat} {g : Nat → Bool} (h : BG w bm n g) (hb : Below w.heap.size w w') : BG w' bm n g := Box.below h hb
theorem BG.lt {w : World} {bm n : Nat} {g : Nat → Bool} (h : BG w bm n g) : bm < w.heap.size := Box.lt h
theorem BG.ext {w : World} {bm n : Nat} {g g' : Nat → Bool} (h : BG w bm n g) (e : ∀ m, g m = g' m) : BG w bm n g' := by rw [← funext e]; exact h
theorem BG.ini {w : World} {bm n : Nat} (h : Box w bm ((List.replicate n false).map Value.bool).toArray 4) : BG w bm n (fun _ => false) := by
  unfold BG
  rw [show (List.range n).map (fun _ => Value.bool false) = (List.replicate n false).map Value.bool by simp [List.map_const']]
  exact h
/-- What is set, and fresh, is kept in two lists of bools. -/
def Rep (f : FunV) (g1 g2 : Nat → Bool) (P : Bool → Nat → Prop) : Prop := ∀ m, m < f.kinds.length → ((g1 m = true ↔ P false m) ∧ (g2 m = true ↔ P true m))
/-- The derived pointers with the base d are told stale, as far as u. -/
def clr (f : FunV) (d : Int) (u : Nat) (g : Nat → Bool) (m : Nat) : Bool := if m < u ∧ f.kinds[m]? = some 2 ∧ f.base[m]? = some d then false else g m
theorem clr_zero (f : FunV) (d : Int) (g : Nat → Bool) (m : Nat) : g m = clr f d 0 g m := by simp [clr]
theorem clr_yes {f : FunV} {d : Int} {u : Nat} {g : Nat → Bool} (hk : f.kinds[u]? = some 2) (hb : f.base[u]? = some d) (m : Nat) : (if m = u then false else clr f d u g m) = clr f d (u + 1) g m := by
  unfold clr
  by_cases e : m = u
  · subst e; simp [hk, hb]
  · rw [if_neg e]
    by_cases h : f.kinds[m]? = some 2 ∧ f.base[m]? = some d
    · by_cases h2 : m < u
      · rw [if_pos ⟨h2, h⟩, if_pos ⟨by omega, h⟩]
      · rw [if_neg (fun h3 => h2 h3.1), if_neg (fun h3 => h2 (by omega))]
    · rw [if_neg (fun h3 => h h3.2), if_neg (fun h3 => h h3.2)]
theorem clr_no {f : FunV} {d : Int} {u : Nat} {g : Nat → Bool} (h : ¬ (f.kinds[u]? = some 2 ∧ f.base[u]? = some d)) (m : Nat) : clr f d u g m = clr f d (u + 1) g m := by
  unfold clr
  by_cases e : m = u
  · subst e; rw [if_neg (fun h3 => h h3.2), if_neg (fun h3 => h h3.2)]
  · by_cases h : f.kinds[m]? = some 2 ∧ f.base[m]? = some d
    · by_cases h2 : m < u
      · rw [if_pos ⟨h2, h⟩, if_pos ⟨by omega, h⟩]
      · rw [if_neg (fun h3 => h2 h3.1), if_neg (fun h3 => h2 (by omega))]
    · rw [if_neg (fun h3 => h h3.2), if_neg (fun h3 => h h3.2)]
theorem Rep.no {f : FunV} {x : InsV} {g1 g2 : Nat → Bool} {P : Bool → Nat → Prop} (h : Rep f g1 g2 P) (h68 : hasB4 x.op 68 = false) : Rep f g1 g2 (kS f x P) := fun m hm => by
  have hd : ¬ dSet f x m := fun hd => by have h9 := hd.1; rw [h68] at h9; cases h9
  refine ⟨(h m hm).1.trans ?_, (h m hm).2.trans ?_⟩
  · unfold kS; rw [if_pos rfl]; simp [hd]
  · unfold kS; rw [if_neg (by simp)]; simp [hd, h68]
theorem Rep.yes {f : FunV} {x : InsV} {g1 g2 : Nat → Bool} {P : Bool → Nat → Prop} (h : Rep f g1 g2 P) (h68 : hasB4 x.op 68 = true) {dn : Nat} (hd : x.d = (dn : Int)) (hdl : dn < f.kinds.length) (hin : inK f P) {v : Bool}
    (hv : v = true ↔ (f.kinds[dn]? = some 2 ∧ (x.op = 16 → ∃ a : Nat, x.a = (a : Int) ∧ a < f.kinds.length ∧ g2 a = true))) :
    Rep f (fun m => if m = dn then true else g1 m) (fun m => if m = dn then v else clr f (dn : Int) f.kinds.length g2 m) (kS f x P) := fun m hm => by
  have hds : dSet f x m ↔ m = dn := by
    unfold dSet
    rw [hd]
    constructor
    · rintro ⟨-, h, -⟩; omega
    · rintro rfl; exact ⟨h68, rfl, hdl⟩
  constructor
  · unfold kS
    rw [if_pos rfl, hds]
    by_cases e : m = dn
    · simp [e]
    · simp only [if_neg e, (h m hm).1]; simp [e]
  · unfold kS
    rw [if_neg (by simp), hds]
    by_cases e : m = dn
    · subst e
      simp only [if_pos rfl, true_and, not_true_eq_false, false_and, or_false]
      refine hv.trans (and_congr_right fun _ => ?_)
      constructor
      · intro h3 ho
        obtain ⟨a, h4, h5, h6⟩ := h3 ho
        exact ⟨a, h4, (h a h5).2.1 h6⟩
      · intro h3 ho
        obtain ⟨a, h4, h5⟩ := h3 ho
        exact ⟨a, h4, hin.1 _ _ h5, (h a (hin.1 _ _ h5)).2.2 h5⟩
    · simp only [if_neg e, e, false_and, not_false_eq_true, true_and, false_or]
      unfold clr
      rw [← (h m hm).2, hd, h68]
      by_cases hb : f.base[m]? = some (dn : Int)
      · by_cases hk : f.kinds[m]? = some 2
        · have hk2 : f.kinds[m] = 2 := by have h9 := hk; rw [List.getElem?_eq_getElem hm] at h9; exact Option.some.inj h9
          simp [hm, hb, hk2]
        · have h2 : g2 m = false := Bool.eq_false_iff.2 fun h3 => hk (hin.2 m ((h m hm).2.1 h3))
          simp [hb, hk, h2]
      · simp [hb]
/-- A way, and what is kept of it. -/
def WayB (f : FunV) (b k : Nat) (g1 g2 : Nat → Bool) : Prop := ∃ P l, Way f b P ∧ f.blocks[b]? = some l ∧ Rep f g1 g2 (kOut f (l.take k) P)
theorem Way.inK {f : FunV} {b : Nat} {P : Bool → Nat → Prop} (h : Way f b P) : inK f P := by
  induction h with
  | nil => exact Go.Proofs.YtajndgoichlnmaaGreatDoor.inK.ini f
  | step h hc ih => exact ih.blk _
theorem WayB.start {f : FunV} (h1 : 1 ≤ f.blocks.length) {g1 g2 : Nat → Bool} (h : ∀ m, m < f.kinds.length → (g1 m = true ↔ (m : Int) < f.params)) (h2 : ∀ m, g2 m = false) : WayB f 0 0 g1 g2 := by
  refine ⟨_, f.blocks[0], .nil, List.getElem?_eq_getElem (by omega), fun m hm => ⟨?_, ?_⟩⟩
  · rw [h m hm, List.take_zero]; unfold kOut kIni; simp [hm]
  · rw [h2 m, List.take_zero]; unfold kOut kIni; simp
theorem WayB.no {f : FunV} {b k : Nat} {g1 g2 : Nat → Bool} {l : List InsV} {x : InsV} (h : WayB f b k g1 g2) (hl : f.blocks[b]? = some l) (hx : l[k]? = some x) (h68 : hasB4 x.op 68 = false) : WayB f b (k + 1) g1 g2 := by
  obtain ⟨P, l', h1, h2, h3⟩ := h
  rw [hl] at h2
  cases h2
  refine ⟨P, l, h1, hl, ?_⟩
  rw [List.take_add_one, hx]
  exact (kOut_snoc _ x P).symm ▸ h3.no h68
theorem WayB.yes {f : FunV} {b k : Nat} {g1 g2 : Nat → Bool} {l : List InsV} {x : InsV} (h : WayB f b k g1 g2) (hl : f.blocks[b]? = some l) (hx : l[k]? = some x) (h68 : hasB4 x.op 68 = true) {dn : Nat} (hd : x.d = (dn : Int)) (hdl : dn < f.kinds.length) {v : Bool}
    (hv : v = true ↔ (f.kinds[dn]? = some 2 ∧ (x.op = 16 → ∃ a : Nat, x.a = (a : Int) ∧ a < f.kinds.length ∧ g2 a = true))) :
    WayB f b (k + 1) (fun m => if m = dn then true else g1 m) (fun m => if m = dn then v else clr f (dn : Int) f.kinds.length g2 m) := by
  obtain ⟨P, l', h1, h2, h3⟩ := h
  rw [hl] at h2
  cases h2
  refine ⟨P, l, h1, hl, ?_⟩
  rw [List.take_add_one, hx]
  exact (kOut_snoc _ x P).symm ▸ h3.yes h68 hd hdl (h1.inK.out _) hv
theorem WayB.next {f : FunV} {b c : Nat} {g1 g2 : Nat → Bool} {l : List InsV} (h : WayB f b l.length g1 g2) (hl : f.blocks[b]? = some l) (hok : FlowOk f) (hc : (c : Int) ∈ nxt f b) : WayB f c 0 g1 g2 := by
  obtain ⟨P, l', h1, h2, h3⟩ := h
  rw [hl] at h2
  cases h2
  rw [List.take_length] at h3
  have hcl := hok.2.2 b _ hc
  refine ⟨_, f.blocks[c]'(by omega), h1.step hc, List.getElem?_eq_getElem (by omega), ?_⟩
  rw [List.take_zero]
  have e : kBlk f b P = kOut f l P := by unfold kBlk; rw [hl]
  rw [e]
  exact h3
theorem WayB.lt {f : FunV} {b k : Nat} {g1 g2 : Nat → Bool} (h : WayB f b k g1 g2) : b < f.blocks.length := by
  obtain ⟨P, l, -, h2, -⟩ := h
  exact (List.getElem?_eq_some_iff.1 h2).1
theorem WayB.said {f : FunV} {b : Nat} {g1 g2 : Nat → Bool} {s : KSt} (h : WayB f b 0 g1 g2) (hs : KAtZ f (b : Int) s) (m : Nat) (hm : m < f.kinds.length) : (hasB s.1 (m : Int) = true → g1 m = true) ∧ (hasB s.2 (m : Int) = true → g2 m = true) := by
  obtain ⟨P, l, h1, h2, h3⟩ := h
  rw [List.take_zero] at h3
  have ha : KAt f b s := by
    rcases hs with ⟨b', e, hs⟩ | ⟨h4, h5⟩
    · obtain rfl : b' = b := by omega
      exact hs
    · omega
  refine ⟨fun h4 => (h3 m hm).1.2 ?_, fun h4 => (h3 m hm).2.2 ?_⟩
  · exact h1.le false m ((ha.le h1.pth false m).1 ((semK_f s m).2 h4))
  · exact h1.le true m ((ha.le h1.pth true m).1 ((semK_t s m).2 h4))
/-- What an instruction that shifts asks is a variable. -/
theorem shift_a {p : List FunV} (h : progB4 p = true) : ∀ f ∈ p, ∀ l ∈ f.blocks, ∀ x ∈ l, x.op = 16 → 0 ≤ x.a ∧ x.a < f.kinds.length := by
  intro f hf l hl x hx ho
  obtain ⟨-, -, -, hall⟩ := prog_parts h
  obtain ⟨-, -, -, -, hmay⟩ := fun_parts (hall f hf)
  refine inVar_nn ((may_parts (hmay l hl x hx)).2.2.2.1 x.a ?_)
  unfold usesL
  rw [ho, if_pos (by decide)]
  simp
end Go.Proofs.YtajndgoichlnmaaGreatDoor
