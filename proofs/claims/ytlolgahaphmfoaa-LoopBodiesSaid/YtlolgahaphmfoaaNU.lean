/- The statement DomKids, walked: it answers true. Condition: no slice of the program is longer than any machine's memory. -/
import Derived.Test.YtlolgahaphmfoaaYQ
import Derived.Test.YtlolgahaphmfoaaNK
set_option linter.unusedSimpArgs false
set_option linter.unusedVariables false
namespace Go.Proofs.Ytlolgahaphmfoaa
open Go.RowKit

theorem kids_mem {A : List Int} {b : Int} {n : Nat} {y : Int} : y ∈ kidsTo A b n ↔ ∃ x : Nat, y = x ∧ x < n ∧ A.getD x (-1) = b := by
  unfold kidsTo
  simp only [List.mem_map, List.mem_filter, List.mem_range, beq_iff_eq]
  constructor
  · rintro ⟨x, ⟨h1, h2⟩, rfl⟩; exact ⟨x, rfl, h1, h2⟩
  · rintro ⟨x, rfl, h1, h2⟩; exact ⟨x, ⟨h1, h2⟩, rfl⟩
theorem kids_nodup (A : List Int) (b : Int) (n : Nat) : (kidsTo A b n).Nodup := by
  unfold kidsTo
  unfold List.Nodup
  rw [List.pairwise_map]
  exact (List.Pairwise.filter _ List.nodup_range).imp fun h e => h (by omega)
/-- How often x was counted. -/
def cvF (A : List Int) (n b k x : Nat) : Nat := if (0 ≤ A.getD x (-1) ∧ A.getD x (-1) < b) ∨ (x : Int) ∈ (kidsTo A b n).take k then 1 else 0
theorem cv_zero (A : List Int) (n : Nat) : cvF A n 0 0 = fun _ => 0 := by
  funext x
  unfold cvF
  rw [if_neg]
  rintro (h | h)
  · omega
  · simp at h
theorem cv_step {A : List Int} {n b k x : Nat} (h : (kidsTo A b n)[k]? = some (x : Int)) : cvF A n b k x = 0 ∧ (fun z => if z = x then 1 else cvF A n b k z) = cvF A n b (k + 1) := by
  have hn := nodup_take (kids_nodup A b n) h
  obtain ⟨x', e, hx, ha⟩ := kids_mem.1 (List.mem_of_getElem? h)
  obtain rfl : x = x' := by omega
  constructor
  · unfold cvF
    rw [if_neg]
    rintro (h1 | h1)
    · omega
    · exact hn h1
  · funext z
    unfold cvF
    rw [take_snocI h]
    simp only [List.mem_append]
    by_cases e : z = x
    · subst e; simp
    · have : ¬ (z : Int) ∈ [(x : Int)] := by simp; omega
      simp [this, e]
theorem cv_row {A : List Int} {n b k : Nat} (hn : A.length = n) (h : (kidsTo A b n).length ≤ k) : cvF A n b k = cvF A n (b + 1) 0 := by
  funext z
  unfold cvF
  rw [List.take_of_length_le h, List.take_zero]
  have e : (0 ≤ A.getD z (-1) ∧ A.getD z (-1) < (b : Int)) ∨ (z : Int) ∈ kidsTo A b n ↔ (0 ≤ A.getD z (-1) ∧ A.getD z (-1) < ((b + 1 : Nat) : Int)) ∨ (z : Int) ∈ ([] : List Int) := by
    rw [kids_mem]
    constructor
    · rintro (h1 | ⟨x, e, h2, h3⟩)
      · left; omega
      · obtain rfl : z = x := by omega
        left; omega
    · rintro (h1 | h1)
      · by_cases h2 : A.getD z (-1) = b
        · refine .inr ⟨z, rfl, ?_, h2⟩
          rcases Nat.lt_or_ge z n with h4 | h4
          · exact h4
          · rw [List.getD_eq_getElem?_getD, List.getElem?_eq_none (by omega)] at h2
            first | (simp at h2; done) | (simp at h2; omega)
        · left; omega
      · simp at h1
  simp only [e]
theorem kidsL_eq {f : FunV} {A : List Int} (h : AbvOf f A) (h1 : 1 ≤ f.blocks.length) (b : Nat) : kidsL A (b : Int) = kidsTo A (b : Int) A.length := by
  unfold kidsL
  by_cases hb : hasA A (b : Int) = true
  · rw [if_pos hb]
  · rw [if_neg hb]
    symm
    apply List.eq_nil_iff_forall_not_mem.2
    intro y hy
    obtain ⟨x, rfl, hx, ha⟩ := kids_mem.1 hy
    have hI : inA A x := .inr (by omega)
    have h0 : x ≠ 0 := fun e => by subst e; rw [h.zero] at ha; omega
    obtain ⟨tn, ht⟩ := h.tr
    have hu := (ht.lt x hI h0).1
    have : upA A x = b := by unfold upA; rw [ha]; simp
    rw [this] at hu
    exact hb ((hasA_iff (by rw [h.len]; exact h1) (by omega)).2 (by simpa using hu))
theorem cv_end {f : FunV} {A : List Int} {n : Nat} (h : AbvOf f A) (h1 : 1 ≤ f.blocks.length) (hn : A.length = n) (x : Nat) : (0 < x ∧ domQ A x x → cvF A n n 0 x = 1) ∧ (¬ (0 < x ∧ domQ A x x) → cvF A n n 0 x = 0) := by
  have hl1 : 1 ≤ A.length := by rw [h.len]; exact h1
  unfold cvF
  rw [List.take_zero]
  constructor
  · rintro ⟨h0, hd, -, -⟩
    have hI : inA A x := by simpa using (hasA_iff hl1 (by omega)).1 hd
    obtain ⟨tn, ht⟩ := h.tr
    have hu := (ht.lt x hI (by omega)).1
    have h2 := h.lt h1 _ hu
    have h3 := h.neg x hI (by omega)
    rw [if_pos]
    left; omega
  · intro hno
    rw [if_neg]
    rintro (⟨h2, h3⟩ | h2)
    · have h0 : x ≠ 0 := fun e => by subst e; rw [h.zero] at h2; omega
      have hI : inA A x := .inr (by omega)
      have hh := (hasA_iff (z := (x : Int)) hl1 (by omega)).2 (by simpa using hI)
      exact hno ⟨by omega, hh, hh, .refl⟩
    · simp at h2
def KdL (w6 : World) (g n : Nat) (A : List Int) (b k : Nat) (wr : World) : Prop := TnW wr g n (cvF A n b k) ∧ But g w6 wr
end Go.Proofs.Ytlolgahaphmfoaa
namespace Go.Proofs.Ytlolgahaphmfoaa
open Go.RowKit

theorem dom0 {f : FunV} {A : List Int} (h : AbvOf f A) (h1 : 1 ≤ f.blocks.length) (x : Nat) : domQ A 0 x ↔ inA A x := by
  have hl : 1 ≤ A.length := by rw [h.len]; exact h1
  have hz : hasA A 0 = true := (hasA_iff hl (by omega)).2 (.inl rfl)
  obtain ⟨tn, ht⟩ := h.tr
  constructor
  · rintro ⟨-, hx, -⟩
    simpa using (hasA_iff hl (by omega)).1 hx
  · intro hx
    exact ⟨hz, (hasA_iff hl (by omega)).2 (by simpa using hx), Anc.root ht _ _ (Nat.le_refl _) (by simpa using hx)⟩
theorem domQ_nat {f : FunV} {A : List Int} (h : AbvOf f A) (h1 : 1 ≤ f.blocks.length) (x y : Nat) : domQ A x y ↔ inA A x ∧ inA A y ∧ Anc (upA A) x y := by
  have hl : 1 ≤ A.length := by rw [h.len]; exact h1
  unfold domQ
  rw [hasA_iff hl (by omega), hasA_iff hl (by omega)]
  simp
theorem meet_ex {f : FunV} {A : List Int} (h : AbvOf f A) (h1 : 1 ≤ f.blocks.length) {x y : Nat} (hx : inA A x) (hy : inA A y) : ∃ m : Nat, inA A m ∧ (∀ z, Anc (upA A) z m ↔ Anc (upA A) z x ∧ Anc (upA A) z y) ∧ (∀ m', meetZ A x y m' → m' = m) ∧ (∀ m', meetZ A y x m' → m' = m) := by
  have hl : 1 ≤ A.length := by rw [h.len]; exact h1
  obtain ⟨tn, ht⟩ := h.tr
  obtain ⟨m, hm⟩ := MeetR.all ht _ x y (Nat.le_refl _) hx hy
  obtain ⟨s1, s2⟩ := hm.spec ht hx hy
  have hxq := (hasA_iff (z := (x : Int)) hl (by omega)).2 (by simpa using hx)
  have hyq := (hasA_iff (z := (y : Int)) hl (by omega)).2 (by simpa using hy)
  have key : ∀ k : Nat, inA A k → (∀ z, Anc (upA A) z k ↔ Anc (upA A) z x ∧ Anc (upA A) z y) → k = m := by
    intro k hk hs
    have k1 := (s2 k).2 ((hs k).1 .refl)
    have k2 := (hs m).2 ((s2 m).1 .refl)
    exact k1.eq ht s1 (k2.le ht hk).2
  refine ⟨m, s1, s2, fun m' hm' => ?_, fun m' hm' => ?_⟩
  · rcases hm' with ⟨-, -, k, rfl, hk, hs⟩ | ⟨hn, -⟩
    · rw [key k hk (by simpa using hs)]
    · exact absurd ⟨hxq, hyq⟩ hn
  · rcases hm' with ⟨-, -, k, rfl, hk, hs⟩ | ⟨hn, -⟩
    · rw [key k hk (fun z => by have := hs z; simp only [Int.toNat_natCast] at this; rw [this]; exact And.comm)]
    · exact absurd ⟨hyq, hxq⟩ hn
theorem meet_no {f : FunV} {A : List Int} (h : AbvOf f A) (h1 : 1 ≤ f.blocks.length) {x y : Nat} (hn : ¬ (inA A x ∧ inA A y)) : ∀ m', meetZ A x y m' → m' = -1 := by
  have hl : 1 ≤ A.length := by rw [h.len]; exact h1
  intro m' hm'
  rcases hm' with ⟨hx, hy, -⟩ | ⟨-, e⟩
  · exact absurd ⟨by simpa using (hasA_iff hl (by omega)).1 hx, by simpa using (hasA_iff hl (by omega)).1 hy⟩ hn
  · exact e
theorem kid_not {f : FunV} {A : List Int} (h : AbvOf f A) (h1 : 1 ≤ f.blocks.length) {x y m k : Nat} (hs : ∀ z, Anc (upA A) z m ↔ Anc (upA A) z x ∧ Anc (upA A) z y) (hm : inA A m) (hk : A.getD k (-1) = (m : Int)) : ¬ (domQ A k x ∧ domQ A k y) := by
  rintro ⟨hx, hy⟩
  rw [domQ_nat h h1] at hx hy
  have hkm := (hs k).2 ⟨hx.2.2, hy.2.2⟩
  obtain ⟨tn, ht⟩ := h.tr
  have k0 : k ≠ 0 := fun e => by subst e; rw [h.zero] at hk; omega
  have hu : upA A k = m := by unfold upA; rw [hk]; simp
  have := (ht.lt k hx.1 k0).2
  rw [hu] at this
  have := (hkm.le ht hm).2
  omega
end Go.Proofs.Ytlolgahaphmfoaa
