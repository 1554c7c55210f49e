/- Texts of several names, of which only what the statement needs is kept. -/
import Derived.Test.YteoopilmdlhkhaaDoorPaMB
/- Layer 16, the mathematics: spans and locations as plain data; the scan, span by span; what holds along it. No condition. -/
set_option linter.unusedSimpArgs false
set_option linter.unusedVariables false
namespace Go.Proofs.YteoopilmdlhkhaaDoor
open Go.RowKit

structure SpV where
  v : Int
  f : Int
  t : Int
  c : Bool
instance : DecidableEq SpV := fun x y =>
  decidable_of_iff (x.v = y.v ∧ x.f = y.f ∧ x.t = y.t ∧ x.c = y.c) (by cases x; cases y; simp only [SpV.mk.injEq])
structure LcV where
  k : Int
  n : Int
instance : DecidableEq LcV := fun x y => decidable_of_iff (x.k = y.k ∧ x.n = y.n) (by cases x; cases y; simp only [LcV.mk.injEq])

def lcAt (ls : List LcV) (i : Nat) : LcV := ls.getD i ⟨0, 0⟩
def meetB (a b : SpV) : Bool := decide (max a.f b.f ≤ min a.t b.t)
theorem lcAt_of {ls : List LcV} {i : Nat} {s : LcV} (h : ls[i]? = some s) : lcAt ls i = s := by unfold lcAt; rw [List.getD, h]; rfl
theorem lcAt_some {ls : List LcV} {i : Nat} (h : i < ls.length) : ls[i]? = some (lcAt ls i) := by
  rw [List.getElem?_eq_getElem h, lcAt_of (List.getElem?_eq_getElem h)]
theorem lcAt_out {ls : List LcV} {j : Nat} (h : ls.length ≤ j) : lcAt ls j = ⟨0, 0⟩ := by unfold lcAt; rw [List.getD, List.getElem?_eq_none h]; rfl
end Go.Proofs.YteoopilmdlhkhaaDoor

/- Layer 16, the mathematics: slots are numbered without gaps; where there is room each has a register; moved spans; how many slots are needed. No condition. -/
set_option linter.unusedSimpArgs false
set_option linter.unusedVariables false
namespace Go.Proofs.YteoopilmdlhkhaaDoor
open Go.RowKit

/-- How many have a slot. -/
def cnt2 (ls : List LcV) : Nat := ls.countP (fun x => decide (x.k = 2))
end Go.Proofs.YteoopilmdlhkhaaDoor

/- Layer 15, mathematics: spans under way; their list. No condition. -/
set_option linter.unusedSimpArgs false
set_option linter.unusedVariables false
namespace Go.Proofs.YteoopilmdlhkhaaDoor
open Go.RowKit

/-- Spans under way, by their variables. -/
abbrev SpF15 := Int → Option SpV
def upd15 (F : SpF15) (v : Int) (s : SpV) : SpF15 := fun u => if u = v then some s else F u
def grow15 (o : Option SpV) (v pt : Int) : SpV := match o with | some s => ⟨s.v, min s.f pt, max s.t pt, s.c⟩ | none => ⟨v, pt, pt, false⟩
def mark15 (o : Option SpV) : SpV := match o with | some s => ⟨s.v, s.f, s.t, true⟩ | none => ⟨0, 0, 0, true⟩
def len15 (pt : Int) (F : SpF15) (l : List Int) : SpF15 := l.foldl (fun F v => upd15 F v (grow15 (F v) v pt)) F
def mrk15 (F : SpF15) (l : List Int) : SpF15 := l.foldl (fun F v => upd15 F v (mark15 (F v))) F
theorem len15_snoc (pt : Int) (F : SpF15) (l : List Int) (v : Int) : len15 pt F (l ++ [v]) = upd15 (len15 pt F l) v (grow15 (len15 pt F l v) v pt) := by simp [len15, List.foldl_append]
theorem mrk15_snoc (F : SpF15) (l : List Int) (v : Int) : mrk15 F (l ++ [v]) = upd15 (mrk15 F l) v (mark15 (mrk15 F l v)) := by simp [mrk15, List.foldl_append]
/-- F is the spans of who is there at some points (Pts), marked where Cs says so. -/
structure SpI15 (F : SpF15) (Pts : Int → Int → Prop) (Cs : Int → Prop) : Prop where
  no : ∀ v, F v = none → ∀ p, ¬ Pts p v
  yes : ∀ v s, F v = some s → s.v = v ∧ Pts s.f v ∧ Pts s.t v ∧ (∀ p, Pts p v → s.f ≤ p ∧ p ≤ s.t) ∧ (s.c = true ↔ Cs v)
  cs : ∀ v, Cs v → ∃ p, Pts p v
theorem SpI15.start : SpI15 (fun _ => none) (fun _ _ => False) (fun _ => False) := ⟨fun _ _ _ h => h, fun v s h => (by cases h), fun v h => h.elim⟩
theorem SpI15.congr {F : SpF15} {P Q : Int → Int → Prop} {C D : Int → Prop} (h : SpI15 F P C) (h1 : ∀ p v, P p v ↔ Q p v) (h2 : ∀ v, C v ↔ D v) : SpI15 F Q D := by
  have e1 : P = Q := funext fun p => funext fun v => propext (h1 p v)
  have e2 : C = D := funext fun v => propext (h2 v)
  rw [← e1, ← e2]
  exact h
theorem SpI15.len1 {F : SpF15} {P : Int → Int → Prop} {C : Int → Prop} (h : SpI15 F P C) (pt x : Int) : SpI15 (upd15 F x (grow15 (F x) x pt)) (fun p v => P p v ∨ (p = pt ∧ v = x)) C := by
  refine ⟨fun v hv p hp => ?_, fun v s hs => ?_, fun v hv => ?_⟩
  · unfold upd15 at hv
    split at hv
    · cases hv
    · rename_i hne
      rcases hp with hp | ⟨-, hp⟩
      · exact h.no v hv p hp
      · exact hne hp
  · unfold upd15 at hs
    split at hs
    · rename_i he
      subst he
      injection hs with hs
      cases ho : F v with
      | none =>
        rw [ho] at hs
        subst hs
        have hno := h.no v ho
        refine ⟨rfl, .inr ⟨rfl, rfl⟩, .inr ⟨rfl, rfl⟩, fun p hp => ?_, ?_⟩
        · rcases hp with hp | ⟨hp, -⟩
          · exact absurd hp (hno p)
          · simp [grow15]; omega
        · refine ⟨fun e => by simp [grow15] at e, fun hc => ?_⟩
          obtain ⟨p, hp⟩ := h.cs v hc
          exact absurd hp (hno p)
      | some t =>
        rw [ho] at hs
        subst hs
        obtain ⟨e1, e2, e3, e4, e5⟩ := h.yes v t ho
        refine ⟨e1, ?_, ?_, fun p hp => ?_, e5⟩
        · show P (min t.f pt) v ∨ (min t.f pt = pt ∧ v = v)
          rcases Int.le_total t.f pt with hle | hle
          · rw [Int.min_eq_left hle]; exact .inl e2
          · rw [Int.min_eq_right hle]; exact .inr ⟨rfl, rfl⟩
        · show P (max t.t pt) v ∨ (max t.t pt = pt ∧ v = v)
          rcases Int.le_total t.t pt with hle | hle
          · rw [Int.max_eq_right hle]; exact .inr ⟨rfl, rfl⟩
          · rw [Int.max_eq_left hle]; exact .inl e3
        · show min t.f pt ≤ p ∧ p ≤ max t.t pt
          rcases hp with hp | ⟨hp, -⟩
          · have := e4 p hp; omega
          · omega
    · rename_i hne
      obtain ⟨e1, e2, e3, e4, e5⟩ := h.yes v s hs
      exact ⟨e1, .inl e2, .inl e3, fun p hp => hp.elim (e4 p) (fun hp => absurd hp.2 hne), e5⟩
  · obtain ⟨p, hp⟩ := h.cs v hv
    exact ⟨p, .inl hp⟩
theorem SpI15.len {P : Int → Int → Prop} {C : Int → Prop} (pt : Int) : ∀ (l : List Int) {F : SpF15}, SpI15 F P C → SpI15 (len15 pt F l) (fun p v => P p v ∨ (p = pt ∧ v ∈ l)) C := by
  intro l
  induction l generalizing P with
  | nil => intro F h; exact h.congr (fun p v => by simp) (fun v => Iff.rfl)
  | cons x l ih =>
    intro F h
    exact (ih (h.len1 pt x)).congr (fun p v => by
      rw [List.mem_cons]
      constructor
      · rintro ((h | ⟨h1, h2⟩) | ⟨h1, h2⟩)
        · exact .inl h
        · exact .inr ⟨h1, .inl h2⟩
        · exact .inr ⟨h1, .inr h2⟩
      · rintro (h | ⟨h1, h2 | h2⟩)
        · exact .inl (.inl h)
        · exact .inl (.inr ⟨h1, h2⟩)
        · exact .inr ⟨h1, h2⟩) (fun v => Iff.rfl)
theorem SpI15.mrk1 {F : SpF15} {P : Int → Int → Prop} {C : Int → Prop} (h : SpI15 F P C) {x : Int} (hx : ∃ p, P p x) : SpI15 (upd15 F x (mark15 (F x))) P (fun v => C v ∨ v = x) := by
  refine ⟨fun v hv p hp => ?_, fun v s hs => ?_, fun v hv => ?_⟩
  · unfold upd15 at hv
    split at hv
    · cases hv
    · exact h.no v hv p hp
  · unfold upd15 at hs
    split at hs
    · rename_i he
      subst he
      injection hs with hs
      cases ho : F v with
      | none =>
        obtain ⟨p, hp⟩ := hx
        exact absurd hp (h.no v ho p)
      | some t =>
        rw [ho] at hs
        subst hs
        obtain ⟨e1, e2, e3, e4, e5⟩ := h.yes v t ho
        exact ⟨e1, e2, e3, e4, ⟨fun _ => .inr rfl, fun _ => rfl⟩⟩
    · rename_i hne
      obtain ⟨e1, e2, e3, e4, e5⟩ := h.yes v s hs
      exact ⟨e1, e2, e3, e4, ⟨fun h => .inl (e5.1 h), fun h => h.elim e5.2 (fun h => absurd h hne)⟩⟩
  · rcases hv with hv | rfl
    · exact h.cs v hv
    · exact hx
theorem SpI15.mrk {P : Int → Int → Prop} {C : Int → Prop} : ∀ (l : List Int) {F : SpF15}, SpI15 F P C → (∀ x ∈ l, ∃ p, P p x) → SpI15 (mrk15 F l) P (fun v => C v ∨ v ∈ l) := by
  intro l
  induction l generalizing C with
  | nil => intro F h _; exact h.congr (fun p v => Iff.rfl) (fun v => by simp)
  | cons x l ih =>
    intro F h hx
    exact (ih (h.mrk1 (hx x List.mem_cons_self)) (fun y hy => hx y (List.mem_cons_of_mem _ hy))).congr (fun p v => Iff.rfl) (fun v => by
      rw [List.mem_cons]
      constructor
      · rintro ((h | h) | h)
        · exact .inl h
        · exact .inr (.inl h)
        · exact .inr (.inr h)
      · rintro (h | h | h)
        · exact .inl (.inl h)
        · exact .inl (.inr h)
        · exact .inr h)
/-- By rising From, then Var. -/
def lt15 (a b : SpV) : Bool := decide (a.f < b.f) || (decide (a.f = b.f) && decide (a.v < b.v))
/-- A list is the spans that F has, in order. -/
def SpL15 (F : SpF15) (l : List SpV) : Prop := (∀ s, s ∈ l ↔ F s.v = some s) ∧ l.Pairwise (fun a b => lt15 a b = true)
theorem lt15_iff {a b : SpV} : lt15 a b = true ↔ (a.f < b.f ∨ (a.f = b.f ∧ a.v < b.v)) := by unfold lt15; simp
theorem SpL15.one {F : SpF15} {l m : List SpV} (h1 : SpL15 F l) (h2 : SpL15 F m) : l = m := by
  have irr : ∀ a : SpV, ¬ lt15 a a = true := fun a h => by rw [lt15_iff] at h; omega
  have tr : ∀ a b c : SpV, lt15 a b = true → lt15 b c = true → lt15 a c = true := fun a b c h h' => by rw [lt15_iff] at *; omega
  have key : ∀ (l m : List SpV), l.Pairwise (fun a b => lt15 a b = true) → m.Pairwise (fun a b => lt15 a b = true) → (∀ s, s ∈ l ↔ s ∈ m) → l = m := by
    intro l
    induction l with
    | nil => intro m _ _ h; exact (List.eq_nil_iff_forall_not_mem.2 fun s hs => by simpa using (h s).2 hs).symm
    | cons a l ih =>
      intro m hl hm h
      cases m with
      | nil => exact absurd ((h a).1 List.mem_cons_self) (by simp)
      | cons b m =>
        obtain ⟨ha, hl2⟩ := List.pairwise_cons.1 hl
        obtain ⟨hb, hm2⟩ := List.pairwise_cons.1 hm
        have e : a = b := by
          rcases List.mem_cons.1 ((h a).1 List.mem_cons_self) with e | e
          · exact e
          · rcases List.mem_cons.1 ((h b).2 List.mem_cons_self) with e' | e'
            · exact e'.symm
            · exact absurd (tr _ _ _ (ha b e') (hb a e)) (irr a)
        subst e
        rw [ih m hl2 hm2 fun s => ?_]
        constructor
        · intro hs
          rcases List.mem_cons.1 ((h s).1 (List.mem_cons_of_mem _ hs)) with e | e
          · subst e; exact absurd (ha s hs) (irr s)
          · exact e
        · intro hs
          rcases List.mem_cons.1 ((h s).2 (List.mem_cons_of_mem _ hs)) with e | e
          · subst e; exact absurd (hb s hs) (irr s)
          · exact e
  exact key l m h1.2 h2.2 fun s => (h1.1 s).trans (h2.1 s).symm
end Go.Proofs.YteoopilmdlhkhaaDoor
