/- Plain mathematics: trees given by 'the next above', where two of their nodes meet, and how a tree that is brought up to date node by node comes to rest. No condition. -/
import Derived.Test.YtnoknodijombpaaPgZN
set_option linter.unusedSimpArgs false
set_option linter.unusedVariables false
namespace Go.Proofs.Ytnoknodijombpaa

inductive Anc (up : Nat → Nat) (a : Nat) : Nat → Prop
  | refl : Anc up a a
  | step {b : Nat} : b ≠ 0 → Anc up a (up b) → Anc up a b
structure Tr (tn : Nat → Nat) (I : Nat → Prop) (up : Nat → Nat) : Prop where
  root : I 0
  zero : tn 0 = 0
  lt : ∀ b, I b → b ≠ 0 → I (up b) ∧ tn (up b) < tn b
  inj : ∀ a b, I a → I b → tn a = tn b → a = b
section
variable {tn : Nat → Nat} {I : Nat → Prop} {up : Nat → Nat}
theorem Anc.le {a b : Nat} (h : Anc up a b) (ht : Tr tn I up) : I b → I a ∧ tn a ≤ tn b := by
  induction h with
  | refl => intro h; exact ⟨h, Nat.le_refl _⟩
  | step h0 _ ih =>
    intro h
    obtain ⟨h1, h2⟩ := ht.lt _ h h0
    obtain ⟨h3, h4⟩ := ih h1
    exact ⟨h3, by omega⟩
theorem Anc.trans {a b c : Nat} (h : Anc up a b) (h' : Anc up b c) : Anc up a c := by
  induction h' with
  | refl => exact h
  | step h0 _ ih => exact .step h0 ih
theorem Anc.root (ht : Tr tn I up) : ∀ (n b : Nat), tn b ≤ n → I b → Anc up 0 b
  | 0, b, hn, hb => by
    have : b = 0 := ht.inj _ _ hb ht.root (by rw [ht.zero]; omega)
    subst this
    exact .refl
  | n + 1, b, hn, hb => by
    by_cases h0 : b = 0
    · subst h0; exact .refl
    · obtain ⟨h1, h2⟩ := ht.lt b hb h0
      exact .step h0 (Anc.root ht n (up b) (by omega) h1)
theorem Anc.lin {a b c : Nat} (ht : Tr tn I up) (h : Anc up a c) : Anc up b c → I c → tn a ≤ tn b → Anc up a b := by
  induction h with
  | refl =>
    intro h2 hc hle
    obtain ⟨h3, h4⟩ := h2.le ht hc
    have : a = b := ht.inj _ _ hc h3 (by omega)
    subst this
    exact .refl
  | step h0 h ih =>
    intro h2 hc hle
    cases h2 with
    | refl => exact .step h0 h
    | step _ h2 => exact ih h2 (ht.lt _ hc h0).1 hle
theorem Anc.eq {a b : Nat} (ht : Tr tn I up) (h : Anc up a b) (hb : I b) (hle : tn b ≤ tn a) : a = b := by
  obtain ⟨h1, h2⟩ := h.le ht hb
  exact ht.inj _ _ h1 hb (by omega)
theorem Anc.zero {a : Nat} (h : Anc up a 0) : a = 0 := by
  cases h with
  | refl => rfl
  | step h0 _ => exact absurd rfl h0

inductive MeetR (tn up : Nat → Nat) : Nat → Nat → Nat → Prop
  | same (a : Nat) : MeetR tn up a a a
  | left {a b m : Nat} : a ≠ b → tn b < tn a → MeetR tn up (up a) b m → MeetR tn up a b m
  | right {a b m : Nat} : a ≠ b → ¬ tn b < tn a → MeetR tn up a (up b) m → MeetR tn up a b m
theorem Tr.meet_l {a b : Nat} (ht : Tr tn I up) (ha : I a) (h : tn b < tn a) : a ≠ 0 := by
  intro e; subst e; have := ht.zero; omega
theorem Tr.meet_r {a b : Nat} (ht : Tr tn I up) (ha : I a) (hb : I b) (hne : a ≠ b) (h : ¬ tn b < tn a) : b ≠ 0 ∧ tn a < tn b := by
  have hlt : tn a < tn b := by
    rcases Nat.lt_or_ge (tn a) (tn b) with h1 | h1
    · exact h1
    · exact absurd (ht.inj _ _ ha hb (by omega)) hne
  exact ⟨fun e => by subst e; have := ht.zero; omega, hlt⟩
theorem MeetR.all (ht : Tr tn I up) : ∀ (n a b : Nat), tn a + tn b ≤ n → I a → I b → ∃ m, MeetR tn up a b m := by
  intro n
  induction n with
  | zero =>
    intro a b hn ha hb
    have : a = b := ht.inj _ _ ha hb (by omega)
    subst this
    exact ⟨a, .same a⟩
  | succ n ih =>
    intro a b hn ha hb
    by_cases hne : a = b
    · subst hne; exact ⟨a, .same a⟩
    · by_cases hlt : tn b < tn a
      · obtain ⟨h1, h2⟩ := ht.lt a ha (ht.meet_l ha hlt)
        obtain ⟨m, hm⟩ := ih (up a) b (by omega) h1 hb
        exact ⟨m, .left hne hlt hm⟩
      · obtain ⟨h1, h2⟩ := ht.lt b hb (ht.meet_r ha hb hne hlt).1
        obtain ⟨m, hm⟩ := ih a (up b) (by omega) ha h1
        exact ⟨m, .right hne hlt hm⟩
theorem MeetR.one {a b m : Nat} (h : MeetR tn up a b m) {m' : Nat} : MeetR tn up a b m' → m = m' := by
  induction h with
  | same a =>
    intro h
    cases h with
    | same => rfl
    | left h0 _ _ => exact absurd rfl h0
    | right h0 _ _ => exact absurd rfl h0
  | left h0 h1 _ ih =>
    intro h
    cases h with
    | same => exact absurd rfl h0
    | left _ _ h => exact ih h
    | right _ h2 _ => exact absurd h1 h2
  | right h0 h1 _ ih =>
    intro h
    cases h with
    | same => exact absurd rfl h0
    | left _ h2 _ => exact absurd h2 h1
    | right _ _ h => exact ih h
theorem MeetR.spec {a b m : Nat} (ht : Tr tn I up) (h : MeetR tn up a b m) : I a → I b → I m ∧ ∀ x, Anc up x m ↔ Anc up x a ∧ Anc up x b := by
  induction h with
  | same a => intro h _; exact ⟨h, fun x => ⟨fun h => ⟨h, h⟩, fun h => h.1⟩⟩
  | @left a b m h0 h1 _ ih =>
    intro ha hb
    have hz := ht.meet_l ha h1
    obtain ⟨i1, i2⟩ := ih (ht.lt _ ha hz).1 hb
    refine ⟨i1, fun x => ?_⟩
    rw [i2]
    constructor
    · rintro ⟨p, q⟩; exact ⟨.step hz p, q⟩
    · rintro ⟨p, q⟩
      refine ⟨?_, q⟩
      cases p with
      | refl => have := (q.le ht hb).2; omega
      | step _ p => exact p
  | @right a b m h0 h1 _ ih =>
    intro ha hb
    obtain ⟨hz, hl⟩ := ht.meet_r ha hb h0 h1
    obtain ⟨i1, i2⟩ := ih ha (ht.lt _ hb hz).1
    refine ⟨i1, fun x => ?_⟩
    rw [i2]
    constructor
    · rintro ⟨p, q⟩; exact ⟨p, .step hz q⟩
    · rintro ⟨p, q⟩
      refine ⟨p, ?_⟩
      cases q with
      | refl => have := (p.le ht ha).2; omega
      | step _ q => exact q
theorem MeetR.has {a b m : Nat} (ht : Tr tn I up) (h : MeetR tn up a b m) {d : Nat} {D : Nat → Prop} (hA : ∀ b, I b → D b → Anc up d b) (hJ : ∀ b, I b → b ≠ 0 → D b → d ≠ b → D (up b)) : I a → I b → D a → D b → D m := by
  induction h with
  | same a => intro _ _ h _; exact h
  | @left a b m h0 h1 _ ih =>
    intro ha hb da db
    have hz := ht.meet_l ha h1
    have hd : d ≠ a := fun e => by subst e; have := ((hA _ hb db).le ht hb).2; omega
    exact ih (ht.lt _ ha hz).1 hb (hJ _ ha hz da hd) db
  | @right a b m h0 h1 _ ih =>
    intro ha hb da db
    obtain ⟨hz, hl⟩ := ht.meet_r ha hb h0 h1
    have hd : d ≠ b := fun e => by subst e; have := ((hA _ ha da).le ht ha).2; omega
    exact ih ha (ht.lt _ hb hz).1 da (hJ _ hb hz db hd)

inductive JoinR (tn up : Nat → Nat) (I : Nat → Prop) : List Int → Int → Int → Prop
  | nil (r : Int) : JoinR tn up I [] r r
  | skip {b : Int} {l u r} : ¬ I b.toNat → JoinR tn up I l u r → JoinR tn up I (b :: l) u r
  | first {b : Int} {l r} : I b.toNat → JoinR tn up I l b r → JoinR tn up I (b :: l) (-1) r
  | more {b : Int} {l u r m} : I b.toNat → u ≠ -1 → MeetR tn up u.toNat b.toNat m → JoinR tn up I l (m : Int) r → JoinR tn up I (b :: l) u r
theorem JoinR.all (ht : Tr tn I up) : ∀ (l : List Int) (u : Int), (∀ b ∈ l, 0 ≤ b) → (u = -1 ∨ 0 ≤ u ∧ I u.toNat) → ∃ r, JoinR tn up I l u r
  | [], u, _, _ => ⟨u, .nil u⟩
  | b :: l, u, hl, hu => by
    have hb := hl b List.mem_cons_self
    have hl' : ∀ b ∈ l, 0 ≤ b := fun x hx => hl x (List.mem_cons_of_mem _ hx)
    by_cases hI : I b.toNat
    · rcases hu with rfl | ⟨h0, hu⟩
      · obtain ⟨r, h⟩ := JoinR.all ht l b hl' (.inr ⟨hb, hI⟩)
        exact ⟨r, .first hI h⟩
      · obtain ⟨m, hm⟩ := MeetR.all ht _ u.toNat b.toNat (Nat.le_refl _) hu hI
        obtain ⟨r, h⟩ := JoinR.all ht l (m : Int) hl' (.inr ⟨by omega, by simpa using (hm.spec ht hu hI).1⟩)
        exact ⟨r, .more hI (by omega) hm h⟩
    · obtain ⟨r, h⟩ := JoinR.all ht l u hl' hu
      exact ⟨r, .skip hI h⟩
theorem JoinR.spec {l : List Int} {u r : Int} (ht : Tr tn I up) (h : JoinR tn up I l u r) : (∀ b ∈ l, 0 ≤ b) → (u = -1 ∨ 0 ≤ u ∧ I u.toNat) →
    (r = -1 ∧ u = -1 ∧ ∀ b ∈ l, ¬ I b.toNat) ∨ (0 ≤ r ∧ I r.toNat ∧ ∀ x, Anc up x r.toNat ↔ (u ≠ -1 → Anc up x u.toNat) ∧ ∀ b ∈ l, I b.toNat → Anc up x b.toNat) := by
  induction h with
  | nil r =>
    intro _ hu
    rcases hu with rfl | ⟨h0, hu⟩
    · exact .inl ⟨rfl, rfl, by simp⟩
    · exact .inr ⟨h0, hu, fun x => ⟨fun h => ⟨fun _ => h, by simp⟩, fun h => h.1 (by omega)⟩⟩
  | @skip b l u r hI _ ih =>
    intro hl hu
    rcases ih (fun x hx => hl x (List.mem_cons_of_mem _ hx)) hu with ⟨h1, h2, h3⟩ | ⟨h1, h2, h3⟩
    · refine .inl ⟨h1, h2, fun x hx => ?_⟩
      rcases List.mem_cons.1 hx with rfl | hx
      · exact hI
      · exact h3 x hx
    · refine .inr ⟨h1, h2, fun x => ?_⟩
      rw [h3]
      refine ⟨fun h => ⟨h.1, fun y hy hyI => ?_⟩, fun h => ⟨h.1, fun y hy => h.2 y (List.mem_cons_of_mem _ hy)⟩⟩
      rcases List.mem_cons.1 hy with rfl | hy
      · exact absurd hyI hI
      · exact h.2 y hy hyI
  | @first b l r hI _ ih =>
    intro hl hu
    have hb := hl b List.mem_cons_self
    rcases ih (fun x hx => hl x (List.mem_cons_of_mem _ hx)) (.inr ⟨hb, hI⟩) with ⟨h1, h2, h3⟩ | ⟨h1, h2, h3⟩
    · omega
    · refine .inr ⟨h1, h2, fun x => ?_⟩
      rw [h3]
      refine ⟨fun h => ⟨fun h => absurd rfl h, fun y hy hyI => ?_⟩, fun h => ⟨fun _ => h.2 b List.mem_cons_self hI, fun y hy => h.2 y (List.mem_cons_of_mem _ hy)⟩⟩
      rcases List.mem_cons.1 hy with rfl | hy
      · exact h.1 (by omega)
      · exact h.2 y hy hyI
  | @more b l u r m hI hu1 hm _ ih =>
    intro hl hu
    have hb := hl b List.mem_cons_self
    have huI : 0 ≤ u ∧ I u.toNat := by
      rcases hu with rfl | h
      · exact absurd rfl hu1
      · exact h
    obtain ⟨m1, m2⟩ := hm.spec ht huI.2 hI
    rcases ih (fun x hx => hl x (List.mem_cons_of_mem _ hx)) (.inr ⟨by omega, by simpa using m1⟩) with ⟨h1, h2, h3⟩ | ⟨h1, h2, h3⟩
    · omega
    · refine .inr ⟨h1, h2, fun x => ?_⟩
      rw [h3]
      simp only [Int.toNat_natCast]
      refine ⟨fun h => ?_, fun h => ⟨fun _ => (m2 x).2 ⟨h.1 hu1, h.2 b List.mem_cons_self hI⟩, fun y hy => h.2 y (List.mem_cons_of_mem _ hy)⟩⟩
      have hx := (m2 x).1 (h.1 (by omega))
      refine ⟨fun _ => hx.1, fun y hy hyI => ?_⟩
      rcases List.mem_cons.1 hy with rfl | hy
      · exact hx.2
      · exact h.2 y hy hyI
theorem JoinR.has {l : List Int} {u r : Int} (ht : Tr tn I up) (h : JoinR tn up I l u r) {d : Nat} {D : Nat → Prop} (hA : ∀ b, I b → D b → Anc up d b) (hJ : ∀ b, I b → b ≠ 0 → D b → d ≠ b → D (up b)) :
    (∀ b ∈ l, 0 ≤ b) → (u = -1 ∨ 0 ≤ u ∧ I u.toNat ∧ D u.toNat) → (∀ b ∈ l, I b.toNat → D b.toNat) → r ≠ -1 → D r.toNat := by
  induction h with
  | nil r =>
    intro _ hu _ hr
    rcases hu with h | h
    · exact absurd h hr
    · exact h.2.2
  | skip hI _ ih => intro hl hu hd hr; exact ih (fun x hx => hl x (List.mem_cons_of_mem _ hx)) hu (fun x hx => hd x (List.mem_cons_of_mem _ hx)) hr
  | first hI _ ih => intro hl hu hd hr; exact ih (fun x hx => hl x (List.mem_cons_of_mem _ hx)) (.inr ⟨hl _ List.mem_cons_self, hI, hd _ List.mem_cons_self hI⟩) (fun x hx => hd x (List.mem_cons_of_mem _ hx)) hr
  | @more b l u r m hI hu1 hm _ ih =>
    intro hl hu hd hr
    have huI : 0 ≤ u ∧ I u.toNat ∧ D u.toNat := by
      rcases hu with rfl | h
      · exact absurd rfl hu1
      · exact h
    have m1 := (hm.spec ht huI.2.1 hI).1
    have m2 := hm.has ht hA hJ huI.2.1 hI huI.2.2 (hd _ List.mem_cons_self hI)
    exact ih (fun x hx => hl x (List.mem_cons_of_mem _ hx)) (.inr ⟨by omega, by simpa using m1, by simpa using m2⟩) (fun x hx => hd x (List.mem_cons_of_mem _ hx)) hr
theorem JoinR.one {l : List Int} {u r : Int} (h : JoinR tn up I l u r) {r' : Int} : JoinR tn up I l u r' → r = r' := by
  induction h with
  | nil r => intro h; cases h; rfl
  | skip hI _ ih =>
    intro h
    cases h with
    | skip _ h => exact ih h
    | first h _ => exact absurd h hI
    | more h _ _ _ => exact absurd h hI
  | first hI _ ih =>
    intro h
    cases h with
    | skip h _ => exact absurd hI h
    | first _ h => exact ih h
    | more _ h _ _ => exact absurd rfl h
  | more hI hu hm _ ih =>
    intro h
    cases h with
    | skip h _ => exact absurd hI h
    | first _ _ => exact absurd rfl hu
    | more _ _ h2 h =>
      have := hm.one h2
      subst this
      exact ih h
end
/-- What dominates, as it stands behind Gr, is above. -/
theorem anc_of {tn : Nat → Nat} {I : Nat → Prop} {up : Nat → Nat} (ht : Tr tn I up) {d : Nat} {D : Nat → Prop} (h0 : D 0 → d = 0) (hJ : ∀ b, I b → b ≠ 0 → D b → d ≠ b → D (up b)) : ∀ (n b : Nat), tn b ≤ n → I b → D b → Anc up d b := by
  intro n
  induction n with
  | zero =>
    intro b hn hb hd
    have : b = 0 := ht.inj _ _ hb ht.root (by rw [ht.zero]; omega)
    subst this
    rw [h0 hd]
    exact .refl
  | succ n ih =>
    intro b hn hb hd
    by_cases hz : b = 0
    · subst hz; rw [h0 hd]; exact .refl
    · by_cases he : d = b
      · subst he; exact .refl
      · obtain ⟨h1, h2⟩ := ht.lt b hb hz
        exact .step hz (ih _ (by omega) h1 (hJ b hb hz hd he))
end Go.Proofs.Ytnoknodijombpaa
namespace Go.Proofs.Ytnoknodijombpaa

def upA (A : List Int) (b : Nat) : Nat := (A.getD b (-1)).toNat
def inA (A : List Int) (b : Nat) : Prop := b = 0 ∨ A.getD b (-1) ≠ -1
structure Gr (n m : Nat) (tn : Nat → Nat) (R : Nat → Prop) (pv : Nat → List Int) (D : Nat → Nat → Prop) : Prop where
  z : R 0
  tz : tn 0 = 0
  inj : ∀ a b, R a → R b → tn a = tn b → a = b
  rn : ∀ b, R b → b < n ∧ tn b < m
  pp : ∀ b, ∀ p ∈ pv b, 0 ≤ p
  fw : ∀ b, R b → b ≠ 0 → ∃ p ∈ pv b, R p.toNat ∧ tn p.toNat < tn b
  d0 : ∀ d, D d 0 → d = 0
  dp : ∀ b, R b → b ≠ 0 → ∀ p ∈ pv b, R p.toNat → ∀ d, D d b → d ≠ b → D d p.toNat
structure GI (n : Nat) (tn : Nat → Nat) (R : Nat → Prop) (pv : Nat → List Int) (D : Nat → Nat → Prop) (i : Nat) (A : List Int) : Prop where
  len : A.length = n
  tr : Tr tn (inA A) (upA A)
  neg : ∀ b, A.getD b (-1) ≠ -1 → 0 ≤ A.getD b (-1)
  z0 : A.getD 0 (-1) = -1
  re : ∀ b, inA A b → R b
  top : ∀ b, inA A b → b ≠ 0 → ∀ z, (∀ p ∈ pv b, inA A p.toNat → Anc (upA A) z p.toNat) → tn z ≤ tn (upA A b)
  bel : ∀ b, inA A b → b ≠ 0 → tn b < i → ∀ p ∈ pv b, tn p.toNat < tn b → inA A p.toNat → Anc (upA A) (upA A b) p.toNat
  abo : ∀ b, inA A b → b ≠ 0 → i ≤ tn b → ∀ p ∈ pv b, tn p.toNat < tn b → inA A p.toNat →
    (∀ x, Anc (upA A) x p.toNat → tn x ≤ tn (upA A b) → Anc (upA A) x (upA A b)) ∧ (tn (upA A b) < i ∨ Anc (upA A) (upA A b) p.toNat)
  pro : (∀ b, R b → inA A b) ∨ ∀ b, R b → (inA A b ↔ b = 0 ∨ tn b < i)
  dom : ∀ b, inA A b → b ≠ 0 → ∀ d, D d b → d ≠ b → D d (upA A b)
section
variable {n m : Nat} {tn : Nat → Nat} {R : Nat → Prop} {pv : Nat → List Int} {D : Nat → Nat → Prop}
theorem upA_set {A : List Int} {b : Nat} {r : Int} (hb : b < A.length) (x : Nat) : upA (A.set b r) x = if x = b then r.toNat else upA A x := by
  unfold upA
  by_cases h : x = b
  · subst h; simp [List.getD, hb]
  · rw [if_neg h, List.getD_eq_getElem?_getD, List.getElem?_set_ne (fun e => h e.symm), ← List.getD_eq_getElem?_getD]
theorem getA_set {A : List Int} {b : Nat} {r : Int} (hb : b < A.length) (x : Nat) : (A.set b r).getD x (-1) = if x = b then r else A.getD x (-1) := by
  by_cases h : x = b
  · subst h; simp [List.getD, hb]
  · rw [if_neg h, List.getD_eq_getElem?_getD, List.getElem?_set_ne (fun e => h e.symm), ← List.getD_eq_getElem?_getD]
theorem inA_set {A : List Int} {b : Nat} {r : Int} (hb : b < A.length) (hr : r ≠ -1) (x : Nat) : inA (A.set b r) x ↔ inA A x ∨ x = b := by
  unfold inA
  rw [getA_set hb]
  by_cases h : x = b
  · subst h; simp [hr]
  · simp [h]
theorem GI.start (g : Gr n m tn R pv D) : GI n tn R pv D 1 (List.replicate n (-1)) := by
  have hg : ∀ b, (List.replicate n (-1 : Int)).getD b (-1) = -1 := fun b => by
    simp only [List.getD, List.getElem?_replicate]; split <;> rfl
  have hi : ∀ b, inA (List.replicate n (-1)) b ↔ b = 0 := fun b => by unfold inA; rw [hg]; simp
  refine ⟨by simp, ⟨(hi 0).2 rfl, g.tz, fun b hb h0 => absurd ((hi b).1 hb) h0, fun a b ha hb _ => by rw [(hi a).1 ha, (hi b).1 hb]⟩, fun b h => absurd (hg b) h, hg 0, fun b hb => by rw [(hi b).1 hb]; exact g.z,
    fun b hb h0 => absurd ((hi b).1 hb) h0, fun b hb h0 => absurd ((hi b).1 hb) h0, fun b hb h0 => absurd ((hi b).1 hb) h0, .inr fun b hR => ?_, fun b hb h0 => absurd ((hi b).1 hb) h0⟩
  rw [hi]
  exact ⟨.inl, fun h => h.elim id fun h => g.inj _ _ hR g.z (by rw [g.tz]; omega)⟩
theorem GI.all {A : List Int} {i : Nat} (g : Gr n m tn R pv D) (h : GI n tn R pv D i A) (hi : m ≤ i) : ∀ b, inA A b ↔ R b := by
  intro b
  refine ⟨h.re b, fun hR => ?_⟩
  rcases h.pro with p | p
  · exact p b hR
  · exact (p b hR).2 (.inr (by have := (g.rn b hR).2; omega))
theorem GI.again {A : List Int} {i : Nat} (g : Gr n m tn R pv D) (h : GI n tn R pv D i A) (hi : m ≤ i) : GI n tn R pv D 1 A := by
  have hall := h.all g hi
  refine ⟨h.len, h.tr, h.neg, h.z0, h.re, h.top, fun b hb h0 h1 => absurd (g.inj _ _ (h.re b hb) g.z (by rw [g.tz]; omega)) h0, fun b hb h0 _ p hp hlt hpI => ?_, .inl fun b hR => (hall b).2 hR, h.dom⟩
  have hv := h.bel b hb h0 (by have := (g.rn b (h.re b hb)).2; omega) p hp hlt hpI
  exact ⟨fun x hx hle => hx.lin h.tr hv hpI hle, .inr hv⟩
def joinA (tn : Nat → Nat) (A : List Int) (l : List Int) (r : Int) : Prop := JoinR tn (upA A) (inA A) l (-1) r
/-- What is found for a node that is brought up to date. -/
theorem GI.found {A : List Int} {i b : Nat} {r : Int} (g : Gr n m tn R pv D) (h : GI n tn R pv D i A) (hR : R b) (h0 : b ≠ 0) (hi : tn b = i) (hj : joinA tn A (pv b) r) :
    0 ≤ r ∧ inA A r.toNat ∧ tn r.toNat < tn b ∧ (∀ x, Anc (upA A) x r.toNat ↔ ∀ p ∈ pv b, inA A p.toNat → Anc (upA A) x p.toNat) ∧ (inA A b → Anc (upA A) r.toNat (upA A b)) ∧ (∀ d, D d b → d ≠ b → D d r.toNat) := by
  obtain ⟨p0, hp0, hpR, hpl⟩ := g.fw b hR h0
  have hpI : inA A p0.toNat := by
    rcases h.pro with p | p
    · exact p _ hpR
    · exact (p _ hpR).2 (.inr (by omega))
  rcases hj.spec h.tr (g.pp b) (.inl rfl) with ⟨-, -, hn⟩ | ⟨hr, hrI, hs⟩
  · exact absurd hpI (hn _ hp0)
  · have hs' : ∀ x, Anc (upA A) x r.toNat ↔ ∀ p ∈ pv b, inA A p.toNat → Anc (upA A) x p.toNat := fun x => by rw [hs]; simp
    have hrp := (hs' r.toNat).1 .refl
    have hlt : tn r.toNat < tn b := by have := ((hrp p0 hp0 hpI).le h.tr hpI).2; omega
    refine ⟨hr, hrI, hlt, hs', fun hb => ?_, fun d hd hne => ?_⟩
    · exact (h.abo b hb h0 (by omega) p0 hp0 hpl hpI).1 _ (hrp p0 hp0 hpI) (h.top b hb h0 _ hrp)
    · have hJ : ∀ c, inA A c → c ≠ 0 → D d c → d ≠ c → D d (upA A c) := fun c hc h0 hd hne => h.dom c hc h0 d hd hne
      exact JoinR.has h.tr hj (D := D d) (fun c hc hd => anc_of h.tr (g.d0 d) hJ _ c (Nat.le_refl _) hc hd) hJ (g.pp b) (.inl rfl) (fun p hp hpI => g.dp b hR h0 p hp (h.re _ hpI) d hd hne) (by omega)
theorem GI.put {A : List Int} {i b : Nat} {r : Int} (g : Gr n m tn R pv D) (h : GI n tn R pv D i A) (hR : R b) (h0 : b ≠ 0) (hi : tn b = i) (hj : joinA tn A (pv b) r) : GI n tn R pv D (i + 1) (A.set b r) := by
  obtain ⟨hr, hrI, hlt, hs, hsh, hdm⟩ := h.found g hR h0 hi hj
  have hbl : b < A.length := by rw [h.len]; exact (g.rn b hR).1
  have hup := upA_set (r := r) hbl
  have hin := inA_set (r := r) hbl (by omega)
  have hget := getA_set (r := r) hbl
  have upb : upA (A.set b r) b = r.toNat := by rw [hup, if_pos rfl]
  have upx : ∀ x, x ≠ b → upA (A.set b r) x = upA A x := fun x hx => by rw [hup, if_neg hx]
  generalize upA (A.set b r) = up' at hup upb upx
  have tr' : Tr tn (inA (A.set b r)) (upA (A.set b r)) := by
    refine ⟨.inl rfl, g.tz, fun x hx hx0 => ?_, fun a c ha hc he => ?_⟩
    · rw [upA_set hbl]
      by_cases e : x = b
      · subst e; rw [if_pos rfl]; exact ⟨(hin _).2 (.inl hrI), hlt⟩
      · rw [if_neg e]
        have hxI : inA A x := ((hin x).1 hx).resolve_right e
        exact ⟨(hin _).2 (.inl (h.tr.lt x hxI hx0).1), (h.tr.lt x hxI hx0).2⟩
    · have re' : ∀ x, inA (A.set b r) x → R x := fun x hx => ((hin x).1 hx).elim (h.re x) fun e => by subst e; exact hR
      exact g.inj _ _ (re' a ha) (re' c hc) he
  have eup : upA (A.set b r) = up' := by funext x; rw [upA_set hbl]; exact (hup x).symm
  rw [eup] at tr'
  have shr : ∀ z x, Anc up' z x → inA A x → Anc (upA A) z x := by
    intro z x hz
    induction hz with
    | refl => intro _; exact .refl
    | @step x hx0 _ ih =>
      intro hx
      by_cases e : x = b
      · subst e
        rw [upb] at ih
        exact .step hx0 ((ih hrI).trans (hsh hx))
      · rw [upx x e] at ih
        exact .step hx0 (ih (h.tr.lt x hx hx0).1)
  have kee : ∀ z x, Anc (upA A) z x → inA A x → tn x < tn b → Anc up' z x := by
    intro z x hz
    induction hz with
    | refl => intro _ _; exact .refl
    | @step x hx0 _ ih =>
      intro hx hl
      have e : x ≠ b := fun e => by subst e; omega
      obtain ⟨h1, h2⟩ := h.tr.lt x hx hx0
      refine .step hx0 ?_
      rw [upx x e]
      exact ih h1 (by omega)
  have kep : ∀ z x, Anc (upA A) z x → inA A x → tn b ≤ tn z → Anc up' z x := by
    intro z x hz
    induction hz with
    | refl => intro _ _; exact .refl
    | @step x hx0 hz ih =>
      intro hx hl
      obtain ⟨h1, h2⟩ := h.tr.lt x hx hx0
      have e : x ≠ b := fun e => by subst e; have := (hz.le h.tr h1).2; omega
      refine .step hx0 ?_
      rw [upx x e]
      exact ih h1 hl
  refine ⟨by rw [List.length_set, h.len], by rw [eup]; exact tr', fun x => ?_, by rw [hget, if_neg (fun e => h0 e.symm)]; exact h.z0, fun x hx => ((hin x).1 hx).elim (h.re x) fun e => by subst e; exact hR, ?_, ?_, ?_, ?_, ?_⟩
  · rw [hget]
    by_cases e : x = b
    · rw [if_pos e]; exact fun _ => hr
    · rw [if_neg e]; exact h.neg x
  · intro x hx hx0 z hz
    rw [eup] at hz ⊢
    by_cases e : x = b
    · subst e
      rw [upb]
      have : Anc (upA A) z r.toNat := (hs z).2 fun p hp hpI => shr _ _ (hz p hp ((hin _).2 (.inl hpI))) hpI
      exact (this.le h.tr hrI).2
    · rw [upx x e]
      have hxI : inA A x := ((hin x).1 hx).resolve_right e
      exact h.top x hxI hx0 z fun p hp hpI => shr _ _ (hz p hp ((hin _).2 (.inl hpI))) hpI
  · intro x hx hx0 hxi p hp hpl hpI
    rw [eup]
    by_cases e : x = b
    · subst e
      rw [upb]
      have hpA : inA A p.toNat := ((hin _).1 hpI).resolve_right fun e => by rw [e] at hpl; omega
      exact kee _ _ ((hs r.toNat).1 .refl p hp hpA) hpA hpl
    · have hxI : inA A x := ((hin x).1 hx).resolve_right e
      have hxlt : tn x < tn b := by
        rcases Nat.lt_or_ge (tn x) (tn b) with h1 | h1
        · exact h1
        · exact absurd (g.inj _ _ (h.re x hxI) hR (by omega)) e
      have hpA : inA A p.toNat := ((hin _).1 hpI).resolve_right fun e => by rw [e] at hpl; omega
      rw [upx x e]
      exact kee _ _ (h.bel x hxI hx0 (by omega) p hp hpl hpA) hpA (by omega)
  · intro x hx hx0 hxi p hp hpl hpI
    rw [eup]
    have e : x ≠ b := fun e => by subst e; omega
    have hxI : inA A x := ((hin x).1 hx).resolve_right e
    have hall : ∀ y, R y → inA A y := by
      rcases h.pro with q | q
      · exact q
      · have := (q x (h.re x hxI)).1 hxI
        rcases this with h1 | h1
        · exact absurd h1 hx0
        · omega
    have hpA : inA A p.toNat := ((hin _).1 hpI).elim id fun e => by rw [e]; exact hall b hR
    have hvI := (h.tr.lt x hxI hx0).1
    obtain ⟨c1, c2⟩ := h.abo x hxI hx0 (by omega) p hp hpl hpA
    rw [upx x e]
    rcases Nat.lt_or_ge (tn (upA A x)) (tn b) with hv | hv
    · exact ⟨fun y hy hle => kee _ _ (c1 y (shr _ _ hy hpA) hle) hvI hv, .inl (by omega)⟩
    · have hvp : Anc (upA A) (upA A x) p.toNat := c2.resolve_left (by omega)
      have hvp' := kep _ _ hvp hpA hv
      exact ⟨fun y hy hle => hy.lin tr' hvp' hpI hle, .inr hvp'⟩
  · rcases h.pro with q | q
    · exact .inl fun y hy => (hin y).2 (.inl (q y hy))
    · refine .inr fun y hy => ?_
      rw [hin, q y hy]
      constructor
      · rintro ((h1 | h1) | h1)
        · exact .inl h1
        · exact .inr (by omega)
        · subst h1; exact .inr (by omega)
      · rintro (h1 | h1)
        · exact .inl (.inl h1)
        · rcases Nat.lt_or_ge (tn y) i with h2 | h2
          · exact .inl (.inr h2)
          · exact .inr (g.inj _ _ hy hR (by omega))
  · intro x hx hx0 d hd hne
    rw [eup]
    by_cases e : x = b
    · subst e; rw [upb]; exact hdm d hd hne
    · rw [upx x e]
      exact h.dom x (((hin x).1 hx).resolve_right e) hx0 d hd hne
/-- How far a list is from its rest. -/
def valA (m : Nat) (tn : Nat → Nat) (x : Int) : Nat := if x = -1 then m else tn x.toNat
def farA (m : Nat) (tn : Nat → Nat) (A : List Int) : Nat := (A.map (valA m tn)).sum
theorem sum_set : ∀ (l : List Nat) (k v x : Nat), l[k]? = some x → (l.set k v).sum + x = l.sum + v
  | [], k, v, x, h => by simp at h
  | a :: l, 0, v, x, h => by simp at h; subst h; simp; omega
  | a :: l, k + 1, v, x, h => by
    have := sum_set l k v x (by simpa using h)
    simp; omega
theorem GI.less {A : List Int} {i b : Nat} {r : Int} (g : Gr n m tn R pv D) (h : GI n tn R pv D i A) (hR : R b) (h0 : b ≠ 0) (hi : tn b = i) (hj : joinA tn A (pv b) r) (hne : r ≠ A.getD b (-1)) : farA m tn (A.set b r) < farA m tn A := by
  obtain ⟨hr, hrI, hlt, hs, hsh, -⟩ := h.found g hR h0 hi hj
  have hbl : b < A.length := by rw [h.len]; exact (g.rn b hR).1
  have hbm := (g.rn b hR).2
  have hget : A.getD b (-1) = A[b] := by simp [List.getD, hbl]
  have key : valA m tn r < valA m tn A[b] := by
    rw [← hget]
    unfold valA
    rw [if_neg (by omega)]
    by_cases e : A.getD b (-1) = -1
    · rw [if_pos e]; omega
    · rw [if_neg e]
      have hbI : inA A b := .inr e
      have ha := hsh hbI
      have hn := h.neg b e
      have hu := (h.tr.lt b hbI h0).1
      rcases Nat.lt_or_ge (tn r.toNat) (tn (upA A b)) with h1 | h1
      · exact h1
      · have := ha.eq h.tr hu h1
        unfold upA at this
        omega
  unfold farA
  rw [List.map_set]
  have := sum_set (A.map (valA m tn)) b (valA m tn r) (valA m tn A[b]) (by simp [hbl])
  omega
/-- A list at rest. -/
structure Rest (n : Nat) (tn : Nat → Nat) (R : Nat → Prop) (pv : Nat → List Int) (D : Nat → Nat → Prop) (A : List Int) : Prop where
  gi : GI n tn R pv D 1 A
  all : ∀ b, inA A b ↔ R b
  fix : ∀ b, R b → b ≠ 0 → joinA tn A (pv b) (A.getD b (-1))
end
end Go.Proofs.Ytnoknodijombpaa
namespace Go.Proofs.Ytnoknodijombpaa

theorem edges_nat' {f : FunV} {x v : Int} (h : (x, v) ∈ edgesN f) : ∃ a : Nat, x = a ∧ a < f.blocks.length ∧ v ∈ nxt f a := by
  unfold edgesN edgesTo at h
  simp only [List.mem_flatMap, List.mem_map, List.mem_range, Prod.mk.injEq] at h
  obtain ⟨i, hi, u, hu, h1, rfl⟩ := h
  exact ⟨i, h1.symm, hi, hu⟩
theorem prev_nat {f : FunV} {z p : Int} (h : p ∈ prevN f z) : ∃ a : Nat, p = a ∧ a < f.blocks.length ∧ z ∈ nxt f a := by
  unfold prevN at h
  simp only [List.mem_map, List.mem_filter, beq_iff_eq] at h
  obtain ⟨⟨x, v⟩, ⟨h1, h2⟩, rfl⟩ := h
  simp at h2
  subst h2
  exact edges_nat' h1
/-- Each block of a walk but the first is next to one that is left later. -/
theorem Dfs.par {f : FunV} {cs : List Int} {m : List Bool} {l : List Int} {m' : List Bool} {l' : List Int} (h : Dfs f cs m l m' l') : ∀ new : List Int, l' = l ++ new → ∀ x ∈ new, x ∈ cs ∨ ∃ y ∈ new, Bef new x y ∧ x ∈ nxt f y.toNat := by
  have grows : ∀ {cs : List Int} {m : List Bool} {l : List Int} {m' : List Bool} {l' : List Int}, Dfs f cs m l m' l' → ∃ new, l' = l ++ new := by
    intro cs m l m' l' h
    induction h with
    | nil m l => exact ⟨[], by simp⟩
    | old _ _ ih => exact ih
    | new _ _ _ ih1 ih2 =>
      obtain ⟨n1, rfl⟩ := ih1
      obtain ⟨n2, rfl⟩ := ih2
      exact ⟨_, by rw [List.append_assoc, List.append_assoc]⟩
  induction h with
  | nil m l =>
    intro new e
    have : new = [] := by simpa using e
    subst this
    simp
  | old hm _ ih =>
    intro new e x hx
    rcases ih new e x hx with h | h
    · exact .inl (List.mem_cons_of_mem _ h)
    · exact .inr h
  | @new c cs m l m1 l1 m' l' hm h1 h2 ih1 ih2 =>
    intro new e x hx
    obtain ⟨n1, e1⟩ := grows h1
    obtain ⟨n2, e2⟩ := grows h2
    have en : new = n1 ++ ([c] ++ n2) := by
      rw [e2, e1, List.append_assoc, List.append_assoc] at e
      exact (List.append_cancel_left e).symm
    subst en
    simp only [List.mem_append, List.mem_singleton] at hx
    rcases hx with h | rfl | h
    · rcases ih1 n1 e1 x h with h3 | ⟨y, hy, h3, h4⟩
      · exact .inr ⟨c, by simp, bef_of h (by simp), h3⟩
      · exact .inr ⟨y, by simp [hy], h3.left, h4⟩
    · exact .inl List.mem_cons_self
    · rcases ih2 n2 e2 x h with h3 | ⟨y, hy, h3, h4⟩
      · exact .inl (List.mem_cons_of_mem _ h3)
      · refine .inr ⟨y, by simp [hy], ?_, h4⟩
        rw [← List.append_assoc]
        exact h3.right
def tnO (o : List Int) (b : Nat) : Nat := (placeN o (b : Int)).toNat - 1
def rO (o : List Int) (b : Nat) : Prop := (b : Int) ∈ o
/-- The block b is reached by a way without a. -/
def Rw (f : FunV) (a b : Nat) : Prop := ∀ P : Nat → Prop, (a ≠ 0 → P 0) → (∀ x v : Nat, P x → (v : Int) ∈ nxt f x → v ≠ a → P v) → P b
def Dmn (f : FunV) (a b : Nat) : Prop := a = b ∨ ¬ Rw f a b
theorem tnO_get {o : List Int} (hn : o.Nodup) {i b : Nat} (h : o[i]? = some (b : Int)) : tnO o b = i := by
  have hi := (List.getElem?_eq_some_iff.1 h).1
  have hm : (b : Int) ∈ o := List.mem_of_getElem? h
  have e : o[i] = (b : Int) := (List.getElem?_eq_some_iff.1 h).2
  unfold tnO placeN
  rw [if_pos hm, ← e, List.Nodup.idxOf_getElem hn]
  omega
theorem tnO_lt {o : List Int} {b : Nat} (h : rO o b) : tnO o b < o.length ∧ o[tnO o b]? = some (b : Int) := by
  have := List.idxOf_lt_length_of_mem h
  have e : tnO o b = o.idxOf (b : Int) := by
    unfold tnO placeN
    rw [if_pos (show (b : Int) ∈ o from h)]
    omega
  rw [e]
  exact ⟨this, by rw [List.getElem?_eq_getElem this, List.getElem_idxOf]⟩
theorem gr_of {f : FunV} {o : List Int} (hok : FlowOk f) (h1 : 1 ≤ f.blocks.length) (h : OrderOf f o) : Gr f.blocks.length o.length (tnO o) (rO o) (fun b => prevN f (b : Int)) (Dmn f) := by
  have hr := order_reach hok h1 h
  have h0 := order_head h
  have hz : rO o 0 := hr.zer
  have ht0 : tnO o 0 = 0 := tnO_get hr.nod h0
  refine ⟨hz, ht0, fun a b ha hb e => ?_, fun b hb => ?_, fun b p hp => ?_, fun b hb hb0 => ?_, fun d hd => ?_, fun b hb hb0 p hp hpR d hd hne => ?_⟩
  · have h2 := (tnO_lt ha).2
    have h3 := (tnO_lt hb).2
    rw [e, h3] at h2
    injection h2 with h2
    omega
  · have := hr.rng b hb
    exact ⟨by omega, (tnO_lt hb).1⟩
  · obtain ⟨a, rfl, -⟩ := prev_nat hp
    omega
  · obtain ⟨m, lF, hD, rfl⟩ := h
    have hnl : lF.Nodup := (List.reverse_perm lF).nodup_iff.1 hr.nod
    rcases hD.par lF (by simp) b (List.mem_reverse.1 hb) with hc | ⟨y, hy, hbf, hyn⟩
    · simp at hc; omega
    · have hyr := hr.rng y (List.mem_reverse.2 hy)
      obtain ⟨k, rfl⟩ : ∃ k : Nat, y = k := ⟨y.toNat, by omega⟩
      refine ⟨k, (mem_prevN (by omega)).2 (by simpa using hyn), by simpa [rO] using hy, ?_⟩
      have hlt := bef_place hnl hbf
      have hp := placeN_pos (l := lF.reverse) (y := (k : Int)) (by simpa using hy)
      simp only [Int.toNat_natCast]
      unfold tnO
      omega
  · rcases hd with h | h
    · exact h
    · refine Classical.byContradiction fun hne => h fun P hP _ => hP hne
  · obtain ⟨a, rfl, ha, hn⟩ := prev_nat hp
    simp only [Int.toNat_natCast]
    rcases hd with h | h
    · exact absurd h hne
    · refine .inr fun hw => h fun P hP hs => ?_
      exact hs a b (hw P hP hs) hn (fun e => hne e.symm)
end Go.Proofs.Ytnoknodijombpaa
