/- Layer 8, the reference: Step, block, all, and the mathematics of States. Condition: the function is of a form that may be. -/
import Derived.Test.YteoopilmdlhkhaaDoorPaTIL
import Derived.Test.YteoopilmdlhkhaaDoorPaKQ
import Derived.Test.YteoopilmdlhkhaaDoorPaMB
import Derived.Test.YteoopilmdlhkhaaDoorPaSAlive
import Derived.Test.YteoopilmdlhkhaaDoorPaZN
import Derived.Test.YteoopilmdlhkhaaDoorProg
import Derived.Laws.Cover1
import Derived.Deep.RegionHeld3
set_option linter.unusedSimpArgs false
set_option linter.unusedVariables false
namespace Go.Proofs.YteoopilmdlhkhaaDoor
open Go.RowKit

theorem MadeB.v {W : World} {r : List Nat} {e : Ending} {w' : World} (h : MadeB W r e w') : ∃ v, e = .returned v ∧ SetV w' v r ∧ Below W.heap.size W w' := let ⟨A, c, h1, h2, h3, h4, h5⟩ := h; ⟨_, h1, ⟨A, c, rfl, h2, h3, h4⟩, h5⟩
/-- All variables as far as k. -/
def allW : Nat → List Nat
  | 0 => []
  | k + 1 => joinL [allW k, ofL [(k : Int)]]
theorem allW_tidy : ∀ k, Tidy (allW k)
  | 0 => tidy_nil
  | k + 1 => joinL_tidy' _
theorem allW_w64 : ∀ k, W64 (allW k)
  | 0 => W64.nil
  | k + 1 => by rw [allW, with_both]; exact (putsL_w64 (allW_w64 k) _).neat
theorem allW_len : ∀ k, (allW k).length ≤ 64
  | 0 => by simp [allW]
  | k + 1 => by rw [allW, with_both]; exact Nat.le_trans (neat_le _) (Nat.le_trans (putsL_len _ _) (by have := allW_len k; omega))
theorem hasB_allW (m : Nat) : ∀ k, k ≤ 4096 → (hasB (allW k) (m : Int) = true ↔ m < k)
  | 0, _ => by simp [allW, hasB_nil]
  | k + 1, hk => by
    rw [allW, hasB_with, Bool.or_eq_true, hasB_allW m k (by omega), decide_eq_true_eq, List.mem_singleton]
    omega
theorem mem_edges {f : FunV} {e : Int × Int} : e ∈ edgesN f ↔ ∃ b : Nat, b < f.blocks.length ∧ e.1 = (b : Int) ∧ e.2 ∈ nxt f b := by
  unfold edgesN edgesTo
  simp only [List.mem_flatMap, List.mem_range, List.mem_map]
  constructor
  · rintro ⟨b, hb, c, hc, rfl⟩
    exact ⟨b, hb, rfl, hc⟩
  · rintro ⟨b, hb, h1, h2⟩
    exact ⟨b, hb, e.2, h2, by rw [← h1]⟩
theorem allW_sem {f : FunV} (hk : f.kinds.length ≤ 48) {a b : Nat} (ha : a ≤ f.kinds.length) (hb : b ≤ f.kinds.length) : GoodK f (allW a, allW b) where
  t1 := allW_tidy a
  t2 := allW_tidy b
  w1 := allW_w64 a
  w2 := allW_w64 b
  l1 := allW_len a
  l2 := allW_len b
  bnd := fun k m h => by
    cases k
    · have := (hasB_allW m a (by omega)).1 ((semK_f (allW a, allW b) m).1 h); omega
    · have := (hasB_allW m b (by omega)).1 ((semK_t (allW a, allW b) m).1 h); omega
/-- The states under way. -/
structure SI (f : FunV) (σ : Nat → KSt) : Prop where
  good : ∀ b, GoodK f (σ b)
  none : ∀ b : Nat, ¬ Pth f 0 (b : Int) → σ b = ([], [])
  zero : leS (semK (σ 0)) (kIni f)
  above : ∀ b : Nat, Pth f 0 (b : Int) → leS (kAt f b) (semK (σ b))
def updS (σ : Nat → KSt) (c : Nat) (s : KSt) (b : Nat) : KSt := if b = c then s else σ b
theorem updS_same (σ : Nat → KSt) (c : Nat) (s : KSt) : updS σ c s c = s := by simp [updS]
theorem updS_other {σ : Nat → KSt} {c b : Nat} {s : KSt} (h : b ≠ c) : updS σ c s b = σ b := by simp [updS, h]
theorem updS_self {σ : Nat → KSt} {c : Nat} : updS σ c (σ c) = σ := funext fun b => by
  by_cases h : b = c
  · subst h; rw [updS_same]
  · rw [updS_other h]
/-- The beginning, before anything is lost; R says which blocks are reached. -/
def iniS (f : FunV) (R : Nat → Bool) (b : Nat) : KSt := if b = 0 then (allW f.params.toNat, []) else if R b = true then (allW f.kinds.length, allW f.kinds.length) else ([], [])
theorem iniS_sem0 {f : FunV} (h : KOk f) (k : Bool) (m : Nat) : semK ((allW f.params.toNat, []) : KSt) k m ↔ kIni f k m := by
  have := h.pn
  have := h.pk
  have := h.kinds
  cases k
  · rw [semK_f]
    unfold kIni
    rw [hasB_allW m _ (by omega)]
    constructor
    · intro h1; exact ⟨rfl, by omega, by omega⟩
    · rintro ⟨-, h1, h2⟩; omega
  · rw [semK_t]
    unfold kIni
    simp [hasB_nil]
theorem SI.start {f : FunV} (h : KOk f) {R : Nat → Bool} (hR : ∀ b : Nat, b < f.blocks.length → (R b = true ↔ Pth f 0 (b : Int))) (hRn : ∀ b : Nat, ¬ b < f.blocks.length → R b = false) : SI f (iniS f R) where
  good := fun b => by
    have := h.pn
    have := h.pk
    unfold iniS
    split
    · have g := allW_sem h.kinds (a := f.params.toNat) (b := 0) (by omega) (by omega)
      exact g
    · split
      · exact allW_sem h.kinds (Nat.le_refl _) (Nat.le_refl _)
      · exact GoodK.nil f
  none := fun b hb => by
    unfold iniS
    rw [if_neg (fun e => hb (by subst e; exact Pth.refl _ _)), if_neg]
    intro hr
    by_cases hl : b < f.blocks.length
    · exact hb ((hR b hl).1 hr)
    · rw [hRn b hl] at hr; cases hr
  zero := fun k m hm => (iniS_sem0 h k m).1 (by unfold iniS at hm; rw [if_pos rfl] at hm; exact hm)
  above := fun b hb k m hm => by
    unfold iniS
    split
    · rename_i e
      subst e
      exact (iniS_sem0 h k m).2 ((kAt_sol f).zero k m hm)
    · have hl : b < f.blocks.length := by
        obtain ⟨n, h1, h2⟩ := Pth.nat h.flow (a := 0) hb h.one
        omega
      rw [if_pos ((hR b hl).2 hb)]
      have h1 := ((kAt_sol f).inK h.flow hb).1 k m hm
      have := h.kinds
      cases k
      · exact (semK_f (allW f.kinds.length, allW f.kinds.length) m).2 ((hasB_allW m _ (by omega)).2 h1)
      · exact (semK_t (allW f.kinds.length, allW f.kinds.length) m).2 ((hasB_allW m _ (by omega)).2 h1)
section
variable {f : FunV} {σ : Nat → KSt} {b c : Nat}
/-- What an edge brings. -/
theorem SI.upd (h : SI f σ) (hk : KOk f) (hb : Pth f 0 (b : Int)) (hc : (c : Int) ∈ nxt f b) : SI f (updS σ c (meetK (σ c) (blkW f b (σ b)))) := by
  have hg := blkW_all hk b (h.good b)
  have hl : leS (semK (meetK (σ c) (blkW f b (σ b)))) (semK (σ c)) := fun k m hm => ((semK_meet _ _ k m).1 hm).1
  have hcp : Pth f 0 (c : Int) := hb.trans (Pth.step (by omega) (by rwa [Int.toNat_natCast]))
  refine ⟨fun x => ?_, fun x hx => ?_, ?_, fun x hx => ?_⟩
  · by_cases e : x = c
    · subst e; rw [updS_same]; exact (h.good x).meet hg.1
    · rw [updS_other e]; exact h.good x
  · rw [updS_other (fun e => hx (by rw [e]; exact hcp))]
    exact h.none x hx
  · by_cases e : 0 = c
    · subst e; rw [updS_same]; exact hl.trans h.zero
    · rw [updS_other e]; exact h.zero
  · by_cases e : x = c
    · subst e
      rw [updS_same]
      exact fun k m hm => (semK_meet _ _ k m).2 ⟨h.above x hx k m hm, (hg.2 k m).2 (kBlk_mono b (h.above b hb) k m ((kAt_sol f).edge b x hb hc k m hm))⟩
    · rw [updS_other e]; exact h.above x hx
/-- How much may still be lost. -/
def potT (f : FunV) (σ : Nat → KSt) : Nat := ((List.range f.blocks.length).map (fun b => potS f (some (σ b)))).sum
theorem potT_upd {s : KSt} (hc : c < f.blocks.length) (h : potS f (some s) < potS f (some (σ c))) : potT f (updS σ c s) < potT f σ := by
  unfold potT
  refine sum_map_lt hc (fun x hx => by rw [updS_other hx]) ?_
  rw [updS_same]
  exact h
theorem sum_le_mul {n B : Nat} {g : Nat → Nat} (h : ∀ b, b < n → g b ≤ B) : ((List.range n).map g).sum ≤ n * B := by
  induction n with
  | zero => simp
  | succ n ih =>
    rw [List.range_succ, List.map_append, List.sum_append]
    simp only [List.map_cons, List.map_nil, List.sum_cons, List.sum_nil, Nat.add_zero]
    have := ih (fun b hb => h b (by omega))
    have := h n (by omega)
    rw [Nat.succ_mul]
    omega
theorem potT_le (f : FunV) (σ : Nat → KSt) : potT f σ ≤ f.blocks.length * (2 * f.kinds.length) := sum_le_mul fun b _ => potS_le f (σ b)
/-- Is an edge kept? -/
def Kept (f : FunV) (σ : Nat → KSt) (e : Int × Int) : Prop := ∀ b c : Nat, e = ((b : Int), (c : Int)) → Pth f 0 (b : Int) → leS (semK (σ c)) (kBlk f b (semK (σ b)))
def Rest (f : FunV) (σ : Nat → KSt) : Prop := ∀ e ∈ edgesN f, Kept f σ e
theorem SI.at (h : SI f σ) (hk : KOk f) (hr : Rest f σ) (b : Nat) : KAt f b (σ b) := by
  by_cases hb : Pth f 0 (b : Int)
  · have hs : Sol f (fun b => semK (σ b)) := ⟨h.zero, fun x c hx hc => by
      have hl : x < f.blocks.length := by
        obtain ⟨n, h1, h2⟩ := Pth.nat hk.flow (a := 0) hx hk.one
        omega
      exact hr ((x : Int), (c : Int)) (mem_edges.2 ⟨x, hl, rfl, hc⟩) x c rfl hx⟩
    exact .inl ⟨hb, h.good b, fun k m => ⟨fun hm => hs.le b k m hm, h.above b hb k m⟩⟩
  · exact .inr ⟨hb, h.none b hb⟩
/-- One pass: the first j edges are through; P0 is what might be lost at its beginning. -/
structure PS (f : FunV) (P0 : Nat) (j : Nat) (σ : Nat → KSt) : Prop where
  si : SI f σ
  way : Rest f σ ∨ potT f σ < P0 ∨ (potT f σ = P0 ∧ ∀ e ∈ (edgesN f).take j, Kept f σ e)
theorem PS.start (h : SI f σ) : PS f (potT f σ) 0 σ := ⟨h, .inr (.inr ⟨rfl, by simp⟩)⟩
theorem meet_keep {s t : KSt} (hs : GoodK f s) (ht : GoodK f t) : meetK t s = t ↔ leS (semK t) (semK s) := by
  constructor
  · intro e k m h
    have h2 : semK (meetK t s) k m := e.symm ▸ h
    exact ((semK_meet _ _ k m).1 h2).2
  · intro h
    exact (ht.meet hs).ext ht fun k m => ⟨fun h2 => ((semK_meet _ _ k m).1 h2).1, fun h2 => (semK_meet _ _ k m).2 ⟨h2, h k m h2⟩⟩
theorem PS.skip {P0 j : Nat} (h : PS f P0 j σ) (he : (edgesN f)[j]? = some ((b : Int), (c : Int))) (hb : ¬ Pth f 0 (b : Int)) : PS f P0 (j + 1) σ := by
  refine ⟨h.si, ?_⟩
  rcases h.way with h1 | h1 | ⟨h1, h2⟩
  · exact .inl h1
  · exact .inr (.inl h1)
  · refine .inr (.inr ⟨h1, fun e hm => ?_⟩)
    rw [List.take_add_one, he] at hm
    simp only [Option.toList_some, List.mem_append, List.mem_singleton] at hm
    rcases hm with hm | rfl
    · exact h2 e hm
    · intro b' c' e2 hp
      injection e2 with e3 e4
      obtain rfl : b = b' := by omega
      exact absurd hp hb
theorem PS.step {P0 j : Nat} (h : PS f P0 j σ) (hk : KOk f) (he : (edgesN f)[j]? = some ((b : Int), (c : Int))) (hb : Pth f 0 (b : Int)) : PS f P0 (j + 1) (updS σ c (meetK (σ c) (blkW f b (σ b)))) := by
  have hmem := List.mem_of_getElem? he
  obtain ⟨b', hb', e1, hc⟩ := mem_edges.1 hmem
  have e1' : (b : Int) = (b' : Int) := e1
  obtain rfl : b = b' := by omega
  have hc' : (c : Int) ∈ nxt f b := hc
  have hcl : c < f.blocks.length := by have := hk.flow.2.2 b _ hc'; omega
  have hg := blkW_all hk b (h.si.good b)
  refine ⟨h.si.upd hk hb hc', ?_⟩
  by_cases hm : meetK (σ c) (blkW f b (σ b)) = σ c
  · rw [hm, updS_self]
    have hkept : Kept f σ ((b : Int), (c : Int)) := fun b2 c2 e2 hp => by
      injection e2 with e3 e4
      obtain rfl : b = b2 := by omega
      obtain rfl : c = c2 := by omega
      exact fun k m hx => (hg.2 k m).1 ((meet_keep hg.1 (h.si.good c)).1 hm k m hx)
    rcases h.way with h1 | h1 | ⟨h1, h2⟩
    · exact .inl h1
    · exact .inr (.inl h1)
    · refine .inr (.inr ⟨h1, fun e hx => ?_⟩)
      rw [List.take_add_one, he] at hx
      simp only [Option.toList_some, List.mem_append, List.mem_singleton] at hx
      rcases hx with hx | rfl
      · exact h2 e hx
      · exact hkept
  · have hl : leS (semK (meetK (σ c) (blkW f b (σ b)))) (semK (σ c)) := fun k m hm => ((semK_meet _ _ k m).1 hm).1
    have hp := potT_upd (f := f) (σ := σ) hcl (potS_lt ((h.si.good c).meet hg.1) (h.si.good c) hl hm)
    rcases h.way with h1 | h1 | ⟨h1, h2⟩
    · exact absurd ((meet_keep hg.1 (h.si.good c)).2 (fun k m hx => (hg.2 k m).2 (h1 _ hmem b c rfl hb k m hx))) hm
    · exact .inr (.inl (by omega))
    · exact .inr (.inl (by omega))
/-- The passes: t are through. -/
structure TS (f : FunV) (t : Nat) (σ : Nat → KSt) : Prop where
  si : SI f σ
  way : Rest f σ ∨ potT f σ + t ≤ f.blocks.length * (2 * f.kinds.length)
theorem TS.start (h : SI f σ) : TS f 0 σ := ⟨h, .inr (by have := potT_le f σ; omega)⟩
/-- A pass under way, behind t passes. -/
def TP (f : FunV) (t j : Nat) (σ : Nat → KSt) : Prop := ∃ P0, PS f P0 j σ ∧ (P0 = 0 ∨ P0 + t ≤ f.blocks.length * (2 * f.kinds.length))
theorem TS.go {t : Nat} (h : TS f t σ) : TP f t 0 σ := by
  rcases h.way with h1 | h1
  · exact ⟨0, ⟨h.si, .inl h1⟩, .inl rfl⟩
  · exact ⟨_, PS.start h.si, .inr h1⟩
theorem TP.skip {t j : Nat} (h : TP f t j σ) (he : (edgesN f)[j]? = some ((b : Int), (c : Int))) (hb : ¬ Pth f 0 (b : Int)) : TP f t (j + 1) σ := let ⟨P0, h1, h2⟩ := h; ⟨P0, h1.skip he hb, h2⟩
theorem TP.step {t j : Nat} (h : TP f t j σ) (hk : KOk f) (he : (edgesN f)[j]? = some ((b : Int), (c : Int))) (hb : Pth f 0 (b : Int)) : TP f t (j + 1) (updS σ c (meetK (σ c) (blkW f b (σ b)))) := let ⟨P0, h1, h2⟩ := h; ⟨P0, h1.step hk he hb, h2⟩
theorem TP.si {t j : Nat} (h : TP f t j σ) : SI f σ := let ⟨_, h1, _⟩ := h; h1.si
theorem TP.done {t j : Nat} (h : TP f t j σ) (hj : (edgesN f).length ≤ j) : TS f (t + 1) σ := by
  obtain ⟨P0, h1, h2⟩ := h
  refine ⟨h1.si, ?_⟩
  rcases h1.way with h3 | h3 | ⟨h3, h4⟩
  · exact .inl h3
  · exact .inr (by omega)
  · rw [List.take_of_length_le hj] at h4
    exact .inl h4
end
end Go.Proofs.YteoopilmdlhkhaaDoor
namespace Go.Proofs.YteoopilmdlhkhaaDoor
open Go.RowKit

/-- A list of sets in memory. -/
def AV (w : World) (g n : Nat) (τ : Nat → List Nat) : Prop := ∃ vs : Nat → Value, Box w g ((List.range n).map vs).toArray 39 ∧ ∀ b, b < n → SetV w (vs b) (τ b)
theorem SetV.far {w : World} {g j : Nat} {cs : Array Value} {T : TypeId} {v u : Value} {s : List Nat} (h : SetV w v s) (hb : Box w g cs T) (hc : ∀ (i : Nat) (x : Value), cs[i]? = some x → ∃ A n c, x = .slice A n c) : SetV (w.setCell ⟨g, j, none⟩ u) v s := by
  obtain ⟨A, c, e, h1, h2, h3⟩ := h
  refine ⟨A, c, e, h1, h2, fun hp => ?_⟩
  obtain ⟨b, o, e2, h4, h5⟩ := h3 hp
  have hne : b ≠ g := fun e3 => by
    subst e3
    have h6 := h5 0 hp
    rw [cell_of_row w b (o + 0) cs T (0, 0) hb] at h6
    obtain ⟨A', n', c', h7⟩ := hc _ _ h6
    cases h7
  refine ⟨b, o, e2, by rw [World.size_setCell]; exact h4, fun i hi => ?_⟩
  rw [World.cell?_of_block (w := w) (a := ⟨b, o + i, none⟩) (heap_setCell_other w ⟨g, j, none⟩ b u hne)]
  exact h5 i hi
theorem AV.slices {w : World} {n : Nat} {τ : Nat → List Nat} {vs : Nat → Value} (hv : ∀ b, b < n → SetV w (vs b) (τ b)) : ∀ (i : Nat) (x : Value), (((List.range n).map vs).toArray)[i]? = some x → ∃ A n c, x = .slice A n c := fun i x hx => by
  rw [List.getElem?_toArray, List.getElem?_map] at hx
  by_cases hi : i < n
  · rw [List.getElem?_range hi] at hx
    obtain rfl := Option.some.inj hx
    obtain ⟨A, c, e, -⟩ := hv i hi
    exact ⟨A, _, c, e⟩
  · rw [List.getElem?_eq_none (by simp; omega)] at hx
    cases hx
section
variable {w w' : World} {g n b : Nat} {τ τ' : Nat → List Nat} {v : Value} {s : List Nat}
theorem AV.below (h : AV w g n τ) (hb : Below w.heap.size w w') : AV w' g n τ := let ⟨vs, h1, h2⟩ := h; ⟨vs, h1.below hb, fun b hl => (h2 b hl).below hb⟩
theorem AV.ext (h : AV w g n τ) (e : ∀ b, b < n → τ b = τ' b) : AV w g n τ' := let ⟨vs, h1, h2⟩ := h; ⟨vs, h1, fun b hl => e b hl ▸ h2 b hl⟩
theorem AV.lt (h : AV w g n τ) : g < w.heap.size := let ⟨_, h1, _⟩ := h; h1.lt
theorem AV.cell (h : AV w g n τ) (hb : b < n) : ∃ A m c, w.cell? ⟨g, b, none⟩ = some (.slice A m c) ∧ w.frozen? ⟨g, b, none⟩ = false ∧ SetV w (.slice A m c) (τ b) := by
  obtain ⟨vs, h1, h2⟩ := h
  obtain ⟨A, c, e, h3⟩ := h2 b hb
  obtain ⟨h4, h5⟩ := h1.cell b (v := vs b) (by simp [hb])
  rw [e] at h4
  exact ⟨A, _, c, h4, h5, ⟨A, c, rfl, h3⟩⟩
theorem AV.set (h : AV w g n τ) (hv : SetV w v s) : AV (w.setCell ⟨g, b, none⟩ v) g n (fun x => if x = b then s else τ x) := by
  obtain ⟨vs, h1, h2⟩ := h
  have hs := AV.slices h2
  refine ⟨fun x => if x = b then v else vs x, ?_, fun x hx => ?_⟩
  · have h3 := h1.set b v
    have e : (((List.range n).map vs).toArray).setIfInBounds b v = ((List.range n).map (fun x => if x = b then v else vs x)).toArray := by
      rw [List.setIfInBounds_toArray]
      congr 1
      apply List.ext_getElem
      · simp
      · intro i h1 h2
        rw [List.getElem_set]
        simp only [List.getElem_map, List.getElem_range]
        by_cases e : b = i
        · subst e; simp
        · rw [if_neg e, if_neg (fun h => e h.symm)]
    rw [e] at h3
    exact h3
  · by_cases e : x = b
    · simp only [if_pos e]
      exact hv.far h1 hs
    · simp only [if_neg e]
      exact (h2 x hx).far h1 hs
theorem AV.other {g' b' m : Nat} {υ : Nat → List Nat} (h : AV w g n τ) (h' : AV w g' m υ) (hne : g ≠ g') {u : Value} : AV (w.setCell ⟨g', b', none⟩ u) g n τ := by
  obtain ⟨vs, h1, h2⟩ := h
  obtain ⟨us, h3, h4⟩ := h'
  exact ⟨vs, h1.other hne, fun b hb => (h2 b hb).far h3 (AV.slices h4)⟩
theorem SetV.at (hv : SetV w v s) {g' b' m : Nat} {υ : Nat → List Nat} (h' : AV w g' m υ) {u : Value} : SetV (w.setCell ⟨g', b', none⟩ u) v s := by
  obtain ⟨us, h3, h4⟩ := h'
  exact hv.far h3 (AV.slices h4)
theorem AV.ini (h : Box w g ((List.replicate n (Value.slice none 0 0))).toArray 39) : AV w g n (fun _ => []) := by
  refine ⟨fun _ => .slice none 0 0, ?_, fun b hb => ⟨none, 0, rfl, Nat.le_refl _, by omega, Sl.nil _ _ _ _⟩⟩
  rw [show (List.range n).map (fun _ => Value.slice none 0 0) = List.replicate n (Value.slice none 0 0) by simp [List.map_const']]
  exact h
end
theorem madeCells_su (n : Nat) : madeCells (Value.slice none 0 0).cells (n * 1) = (List.replicate n (Value.slice none 0 0)).toArray := by
  unfold madeCells
  apply Array.ext
  · simp
  · intro i h1 h2
    simp [Value.cells, Nat.mod_one]
attribute [local go_sem ↓] Go.wp_at_zero Go.wp_at_succ
theorem AV.apart {w : World} {g n b o : Nat} {τ : Nat → List Nat} {k : IntKind} {z : Int} (h : AV w g n τ) (hc : w.cell? ⟨b, o, none⟩ = some (.int k z)) : b ≠ g := fun e => by
  subst e
  obtain ⟨vs, h1, h2⟩ := h
  rw [cell_of_row w b o _ _ (0, 0) h1] at hc
  obtain ⟨A, m, c, h3⟩ := AV.slices h2 _ _ hc
  cases h3
/-- All blocks but two are as they were. -/
def F2 (g1 g2 : Nat) (w w' : World) : Prop := w.heap.size ≤ w'.heap.size ∧ ∀ k, k < w.heap.size → k ≠ g1 → k ≠ g2 → w'.heap[k]? = w.heap[k]?
theorem F2.refl (g1 g2 : Nat) (w : World) : F2 g1 g2 w w := ⟨Nat.le_refl _, fun _ _ _ _ => rfl⟩
theorem F2.below {g1 g2 : Nat} {w a b : World} (h : F2 g1 g2 w a) (hb : Below a.heap.size a b) : F2 g1 g2 w b := ⟨Nat.le_trans h.1 hb.size, fun k h1 h2 h3 => (hb.block k (by have := h.1; omega)).trans (h.2 k h1 h2 h3)⟩
theorem F2.cell {g1 g2 b o : Nat} {w w' : World} (h : F2 g1 g2 w w') (h0 : b < w.heap.size) (h1 : b ≠ g1) (h2 : b ≠ g2) : w'.cell? ⟨b, o, none⟩ = w.cell? ⟨b, o, none⟩ := World.cell?_of_block (a := ⟨b, o, none⟩) (h.2 b h0 h1 h2)
end Go.Proofs.YteoopilmdlhkhaaDoor
namespace Go.Proofs.YteoopilmdlhkhaaDoor
open Go.RowKit

theorem SetV.nil0 (w : World) : SetV w (.slice none 0 0) [] := ⟨none, 0, rfl, Nat.le_refl _, by omega, Sl.nil _ _ _ _⟩
end Go.Proofs.YteoopilmdlhkhaaDoor
