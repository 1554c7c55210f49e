/- Texts of several names, of which only what the statement needs is kept. -/
import Derived.Test.YtehboglielnjbaaGreatDoorPlEE
import Derived.Test.YtehboglielnjbaaGreatDoorPlKSX
import Derived.Test.YtehboglielnjbaaGreatDoorPlJS
import Derived.Test.YtehboglielnjbaaGreatDoorPlKQ
import Derived.Test.YtehboglielnjbaaGreatDoorPlKW
import Derived.BigQuiet
/- The statement KeepSets, walked: it answers true. Condition: the table of parts reads as listed; no slice of the program is longer than any machine's memory. -/
set_option linter.unusedSimpArgs false
set_option linter.unusedVariables false
namespace Go.Proofs.YtehboglielnjbaaGreatDoor
open Go.RowKit

theorem cls_mem (f : FunV) (s : List Nat) (k : Nat) (z : Int) : z ∈ clsN f s k ↔ ∃ u : Nat, u < k ∧ hasB s (u : Int) = true ∧ (z = (u : Int) ∨ (f.kinds.getD u 0 = 2 ∧ u < f.base.length ∧ z = f.base.getD u 0)) := by
  induction k with
  | zero => simp [clsN]
  | succ k ih =>
    unfold clsN
    rw [List.mem_append, ih]
    constructor
    · rintro (⟨u, h1, h2⟩ | h)
      · exact ⟨u, by omega, h2⟩
      · split at h
        · rename_i hb
          rcases List.mem_cons.1 h with rfl | h
          · exact ⟨k, by omega, hb, .inl rfl⟩
          · split at h
            · rename_i h2
              simp only [List.mem_singleton] at h
              exact ⟨k, by omega, hb, .inr ⟨h2.1, h2.2, h⟩⟩
            · cases h
        · cases h
    · rintro ⟨u, h1, hb, h2⟩
      by_cases e : u = k
      · subst e
        right
        rw [if_pos hb]
        rcases h2 with rfl | ⟨h3, h4, rfl⟩
        · exact List.mem_cons_self
        · rw [if_pos ⟨h3, h4⟩]
          simp
      · exact .inl ⟨u, by omega, hb, h2⟩
/-- The base of a derived pointer is a reference of the same function. -/
theorem LOk.der {p : List FunV} {f : FunV} (h : LOk p f) {u : Nat} (hk : f.kinds.getD u 0 = 2) (hu : u < f.base.length) : ∃ b : Nat, f.base.getD u 0 = (b : Int) ∧ b < f.kinds.length ∧ f.kinds.getD b 0 = 1 := by
  have hu2 : u < f.kinds.length := by have := h.bl; omega
  have h1 : (f.kinds.getD u 0, f.base.getD u 0) ∈ f.kinds.zip f.base := by
    refine List.mem_of_getElem? (i := u) ?_
    rw [List.getElem?_zip_eq_some]
    constructor
    · rw [List.getElem?_eq_getElem hu2]; simp [List.getD, hu2]
    · rw [List.getElem?_eq_getElem hu]; simp [List.getD, hu]
  have h2 := h.base _ h1
  rw [hk] at h2
  have h3 : refB f.kinds (f.base.getD u 0) = true := h2
  unfold refB at h3
  rw [Bool.and_eq_true, inB_iff, decide_eq_true_eq] at h3
  refine ⟨(f.base.getD u 0).toNat, by omega, by omega, ?_⟩
  show (f.kinds[(f.base.getD u 0).toNat]?).getD 0 = 1
  rw [h3.2]
  rfl
theorem ofkN_R (f : FunV) (s : List Nat) (c : Int) {k : Nat} (hk : k ≤ 1000) : ∀ z ∈ ofkN f s c k, i64R z := by
  induction k with
  | zero => simp [ofkN]
  | succ k ih =>
    intro z hz
    unfold ofkN at hz
    rcases List.mem_append.1 hz with hz | hz
    · exact ih (by omega) z hz
    · split at hz
      · simp at hz
        subst hz
        unfold i64R
        omega
      · cases hz
theorem close_has {f : FunV} (hk : f.kinds.length ≤ 1000) (s : List Nat) (v : Nat) : hasB (closeL f s) (v : Int) = true ↔ ((v : Int) ∈ clsN f s f.kinds.length ∧ v < 4096) := by
  unfold closeL
  rw [hasB_ofL, decide_eq_true_eq]
end Go.Proofs.YtehboglielnjbaaGreatDoor

/- The statement LiveSteps, walked: it answers true. Condition: the table of parts reads as listed; no slice of the program is longer than any machine's memory. -/
set_option linter.unusedSimpArgs false
set_option linter.unusedVariables false
namespace Go.Proofs.YtehboglielnjbaaGreatDoor
open Go.RowKit

theorem LvQ.step {f : FunV} (hok : FlowOk f) {n i : Nat} {l : List InsV} {x : InsV} (hl : f.blocks[n]? = some l) (hx : l[i]? = some x) {s0 s1 : List Nat} (h0 : LvQ f 0 (n : Int) (i : Int) s0) (h1 : LvQ f 1 (n : Int) (i : Int) s1) : s0 = insS x s1 := by
  have hi := (List.getElem?_eq_some_iff.1 hx).1
  have hc : codeOf f n = l := by unfold codeOf; rw [hl]; rfl
  have hh : hereB f (n : Int) (i : Int) = true := by unfold hereB; rw [sizeN_nat hl]; simp; omega
  unfold LvQ at h0 h1
  rw [if_pos hh] at h0 h1
  obtain ⟨t, ht, rfl⟩ := h0
  obtain ⟨u, hu, rfl⟩ := h1
  rw [ht.one hok hu]
  simp only [Int.toNat_natCast, hc, Nat.add_zero]
  have e : l.drop i = x :: l.drop (i + 1) := by
    rw [List.drop_eq_getElem_cons hi]
    rw [(List.getElem?_eq_some_iff.1 hx).2]
  rw [e]
  rfl
end Go.Proofs.YtehboglielnjbaaGreatDoor

/- Layer 12, the mathematics of KeepAcross: what is kept across an instruction is kept ahead of it, where kinds fit. No condition. -/
set_option linter.unusedSimpArgs false
set_option linter.unusedVariables false
namespace Go.Proofs.YtehboglielnjbaaGreatDoor
open Go.RowKit

/-- A derived pointer is set from its base, or from another one of the same base. -/
theorem der_set {p : List FunV} {f : FunV} {x : InsV} {d : Nat} (hres : ∀ g ∈ p, g.result = 0 ∨ g.result = 1) (hop : 1 ≤ x.op ∧ x.op ≤ 23) (hfit : fitB p f x = true) (hs : hasB4 x.op 68 = true) (hd : x.d = (d : Int)) (hk : f.kinds[d]? = some 2) :
    (x.op = 15 ∧ baseN f (d : Int) = x.a) ∨ (x.op = 16 ∧ baseN f (d : Int) = baseN f x.a ∧ isK f x.a 2 = true) := by
  have hk0 : isK f x.d 0 = false := by rw [hd, isK_nat hk]; rfl
  have hk1 : isK f x.d 1 = false := by rw [hd, isK_nat hk]; rfl
  unfold fitB at hfit
  rw [Bool.and_eq_true] at hfit
  obtain ⟨hr, ht⟩ := hfit
  unfold rowB at hr
  rw [Bool.and_eq_true, Bool.and_eq_true] at hr
  obtain ⟨r0, r1, -⟩ := hr
  rcases (show x.op = 1 ∨ x.op = 2 ∨ x.op = 3 ∨ x.op = 4 ∨ x.op = 5 ∨ x.op = 6 ∨ x.op = 7 ∨ x.op = 8 ∨ x.op = 9 ∨ x.op = 10 ∨ x.op = 11 ∨ x.op = 12 ∨ x.op = 13 ∨ x.op = 14 ∨ x.op = 15 ∨ x.op = 16 ∨ x.op = 17 ∨ x.op = 18 ∨ x.op = 19 ∨ x.op = 20 ∨ x.op = 21 ∨ x.op = 22 ∨ x.op = 23 by omega) with h | h | h | h | h | h | h | h | h | h | h | h | h | h | h | h | h | h | h | h | h | h | h
  all_goals first
    | (exfalso; rw [h] at hs; exact absurd hs (by decide))
    | (exfalso; rw [h] at r0; have r0' : isK f x.d 0 = true := r0; rw [hk0] at r0'; cases r0')
    | (exfalso; rw [h] at r0; have r0' : isK f x.d 1 = true := r0; rw [hk1] at r0'; cases r0')
    | skip
  · exfalso
    unfold restB at ht
    rw [if_pos h, hk0, hk1] at ht
    simp at ht
  · left
    unfold restB at ht
    rw [if_neg (by omega), if_pos h, hd] at ht
    exact ⟨h, by simpa using ht⟩
  · right
    unfold restB at ht
    rw [if_neg (by omega), if_neg (by omega), if_pos h, hd] at ht
    rw [h] at r1
    exact ⟨h, by simpa using ht, r1⟩
  · exfalso
    unfold restB at ht
    rw [if_neg (by omega), if_neg (by omega), if_neg (by omega), if_pos h] at ht
    unfold callB at ht
    split at ht
    · cases ht
    · split at ht
      · rename_i g hg
        rw [Bool.and_eq_true] at ht
        rcases hres g (List.mem_of_getElem? hg) with e | e
        · rw [e, hk0] at ht; exact absurd ht.2 (by simp)
        · rw [e, hk1] at ht; exact absurd ht.2 (by simp)
      · cases ht
theorem baseN_at {f : FunV} {d : Nat} (h : d < f.base.length) : baseN f (d : Int) = f.base.getD d 0 := by
  unfold baseN
  rw [if_pos (by rw [inB_iff]; omega), Int.toNat_natCast, List.getD_eq_getElem?_getD, List.getD_eq_getElem?_getD, List.getElem?_eq_getElem h]
  rfl
end Go.Proofs.YtehboglielnjbaaGreatDoor

/- The statement KeepAcross, walked: it answers true. Conditions: the tables of parts and of rows read as listed; no slice of the program is longer than any machine's memory. -/
set_option linter.unusedSimpArgs false
set_option linter.unusedVariables false
namespace Go.Proofs.YtehboglielnjbaaGreatDoor
open Go.RowKit

/-- A function of a program that may be run: as one of a program that may be, each instruction fits, each function answers a number or a reference. -/
structure AOk (p : List FunV) (f : FunV) : Prop where
  ok : LOk p f
  fit : ∀ l ∈ f.blocks, ∀ x ∈ l, fitB p f x = true
  res : ∀ g ∈ p, g.result = 0 ∨ g.result = 1
theorem aOk_of {p : List FunV} (h : progB4 p = true) (hf : progFew p) (hc : ChkR p 0) : ∀ f ∈ p, AOk p f := fun f hm => by
  have hmis : misB p = false := by
    unfold ChkR at hc
    rcases hc with ⟨-, h0⟩ | ⟨-, -, h0⟩ | ⟨-, -, -, h0⟩ | ⟨-, -, -, -, h0⟩ | ⟨-, h1, -⟩
    · omega
    · omega
    · omega
    · omega
    · exact h1
  refine ⟨lOk_of h hf f hm, fun l hl x hx => ?_, fun g hg => ?_⟩
  · unfold misB at hmis
    have h1 : p.all (allFit p) = true := by simpa using hmis
    have h2 := List.all_eq_true.1 h1 f hm
    unfold allFit at h2
    exact List.all_eq_true.1 (List.all_eq_true.1 h2 l hl) x hx
  · obtain ⟨-, -, -, hall⟩ := prog_parts h
    obtain ⟨-, -, hv, -⟩ := fun_parts (hall g hg)
    unfold valB at hv
    simpa using hv
theorem rholdsV {w : World} {v u : Value} {s t : List Nat} (hv : SetV w v s) (hu : SetV w u t) (hs : SetOk s) (ht : SetOk t) (h : ∀ x : Nat, hasB t (x : Int) = true → hasB s (x : Int) = true) :
    Calls Tryz.prog 11 #[v, u] w fun e w' => e = .returned (.bool true) ∧ Below w.heap.size w w' := by
  obtain ⟨A, c, rfl, h2, h3, h4⟩ := hv
  obtain ⟨T, d, rfl, k2, k3, k4⟩ := hu
  exact (rholds_any A T s.length c t.length d s t w h4 k4 rfl rfl (by have := hs.1; omega) (by have := ht.1; omega) hs.2 ht.2).mono fun e w' ⟨q1, q2⟩ => ⟨by rw [q1, decide_eq_true ((less_none hs ht).2 h)], q2⟩
end Go.Proofs.YtehboglielnjbaaGreatDoor
