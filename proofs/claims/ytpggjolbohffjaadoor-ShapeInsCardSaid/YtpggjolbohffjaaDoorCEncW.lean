/- Plain mathematics: what Encode answers, and how many bytes it has. No condition. -/
import Derived.Test.YtpggjolbohffjaaDoorCWFun
set_option linter.unusedSimpArgs false
set_option linter.unusedVariables false
namespace Go.Proofs.YtpggjolbohffjaaDoor
open Go.RowKit

def InsRR (x : InsV) : Prop := InsR x ∧ ∀ z ∈ x.args, i64R z
def FunR (f : FunV) : Prop := i64R f.params ∧ i64R f.result ∧ (∀ z ∈ f.kinds, i64R z) ∧ (∀ z ∈ f.base, i64R z) ∧ ∀ b ∈ f.blocks, ∀ x ∈ b, InsRR x
theorem Vec.each {α : Type} {s : Nat} {P : Nat → Nat → α → Prop} {S : Nat → Prop} {v : Value} {xs : List α} (h : Vec s P S v xs) : ∀ x ∈ xs, ∃ b o, P b o x := fun x hx => by
  obtain ⟨A, c, -, -, -, h3⟩ := h
  obtain ⟨j, hj⟩ := List.getElem?_of_mem hx
  obtain ⟨b, o, -, -, hc⟩ := h3 (by have := (List.getElem?_eq_some_iff.1 hj).1; omega)
  exact ⟨b, _, hc j x hj⟩
theorem IntsV.range {w : World} {S : Nat → Prop} {v : Value} {zs : List Int} (h : IntsV w S v zs) : ∀ z ∈ zs, i64R z := fun z hz => by
  obtain ⟨b, o, hc⟩ := Vec.each h z hz
  exact hc.2
theorem FunsV.range {w : World} {S : Nat → Prop} {v : Value} {p : List FunV} (h : FunsV w S v p) : ∀ f ∈ p, FunR f := fun f hf => by
  obtain ⟨b, o, vk, vb, vs, -, hi⟩ := Vec.each h f hf
  obtain ⟨h1, h2, h3, h4, h5⟩ := hi
  refine ⟨h4, h5, h1.range, h2.range, fun bl hbl x hx => ?_⟩
  obtain ⟨b', o', v', -, hb⟩ := Vec.each h3 bl hbl
  obtain ⟨b2, o2, va, -, hx2⟩ := Vec.each hb x hx
  exact ⟨hx2.2, hx2.1.range⟩

theorem flatMap_len {α : Type} (l : List α) (f : α → List Int) (m : Nat) (h : ∀ x ∈ l, (f x).length ≤ m) : (l.flatMap f).length ≤ l.length * m := by
  induction l with
  | nil => simp
  | cons a l ih =>
    have h1 := h a (by simp)
    have h2 := ih (fun x hx => h x (by simp [hx]))
    rw [List.flatMap_cons, List.length_append, List.length_cons, Nat.add_mul]
    omega
theorem encL_len' (l : List Int) (h : ∀ z ∈ l, i64R z) : (encL l).length ≤ 9 * l.length := encL_len l (fun z hz => (h z hz).2)
theorem i64R_nat {n : Nat} (h : n ≤ 9223372036854775807) : i64R (n : Int) := ⟨by omega, by omega⟩
theorem fieldOf_R {x : InsV} (h : InsR x) (c : Nat) : i64R (fieldOf c x) := by
  obtain ⟨-, h1, h2, h3, h4, h5⟩ := h
  unfold fieldOf
  split
  · exact h1
  · split
    · exact h2
    · split
      · exact h3
      · split
        · exact h5
        · exact h4
theorem encPart_len {x : InsV} (h : InsRR x) (ha : x.args.length ≤ 4) (c : Nat) : (encPart x c).length ≤ 45 := by
  unfold encPart
  split
  · have := enc_len10 (zz_lt h.1.2.2.2.2.1); omega
  · split
    · rw [List.length_append]
      have h1 := encL_len' [(x.args.length : Int)] (by simpa using i64R_nat (by omega))
      have h2 := encL_len' x.args h.2
      simp at h1
      omega
    · have := encL_len' [fieldOf c x] (by simpa using fieldOf_R h.1 c)
      simp at this
      omega
theorem encIns_len {x : InsV} (h : InsRR x) (ha : x.args.length ≤ 4) : (encIns x).length ≤ 144 := by
  unfold encIns
  rw [List.length_append]
  have h1 := encL_len' [x.op] (by simpa using h.1.1)
  have h2 := flatMap_len (partsN x.op) (encPart x) 45 (fun c _ => encPart_len h ha c)
  have h3 := partsN_len x.op
  have h4 : (partsN x.op).length * 45 ≤ 3 * 45 := Nat.mul_le_mul_right _ h3
  simp at h1
  omega
theorem encBlk_len {b : List InsV} (h : ∀ x ∈ b, InsRR x) (hf : blkFew b) : (encBlk b).length ≤ 5769 := by
  unfold encBlk
  rw [List.length_append]
  have h1 := encL_len' [(b.length : Int)] (by simpa using i64R_nat (by have := hf.1; omega))
  have h2 := flatMap_len b encIns 144 (fun x hx => encIns_len (h x hx) (hf.2 x hx))
  have h4 : b.length * 144 ≤ 40 * 144 := Nat.mul_le_mul_right _ hf.1
  simp at h1
  omega
theorem encVar_len {kb : Int × Int} (h1 : i64R kb.1) (h2 : i64R kb.2) : (encVar kb).length ≤ 18 := by
  unfold encVar
  have a := encL_len' [kb.1] (by simpa using h1)
  have b := encL_len' [kb.2] (by simpa using h2)
  rw [List.length_append]
  simp at a b
  split
  · omega
  · simp; omega
theorem encFun_len {f : FunV} (h : FunR f) (hf : funFew f) : (encFun f).length ≤ 231660 := by
  obtain ⟨hp, hr, hk, hb, hx⟩ := h
  obtain ⟨f1, f2, f3, f4⟩ := hf
  unfold encFun
  simp only [List.length_append]
  have h1 := encL_len' [(f.kinds.length : Int)] (by simpa using i64R_nat (by omega))
  have h2 := encL_len' [f.params, f.result, (f.blocks.length : Int)] (by
    intro z hz
    simp at hz
    rcases hz with rfl | rfl | rfl
    · exact hp
    · exact hr
    · exact i64R_nat (by omega))
  have h3 := flatMap_len (f.kinds.zip f.base) encVar 18 (fun kb hkb => by
    obtain ⟨a, b⟩ := kb
    have := List.of_mem_zip hkb
    exact encVar_len (hk _ this.1) (hb _ this.2))
  have h4 := flatMap_len f.blocks encBlk 5769 (fun b hb' => encBlk_len (hx b hb') (f4 b hb'))
  have h5 : f.blocks.length * 5769 ≤ 40 * 5769 := Nat.mul_le_mul_right _ f3
  have h6 : (f.kinds.zip f.base).length * 18 ≤ 48 * 18 := Nat.mul_le_mul_right _ (by simp; omega)
  simp at h1 h2
  omega
theorem encProg_len {p : List FunV} (h : ∀ f ∈ p, FunR f) (hf : ∀ f ∈ p, funFew f) (hp : p.length ≤ 8) : (encProg p).length ≤ 1853289 := by
  unfold encProg
  rw [List.length_append]
  have h1 := encL_len' [(p.length : Int)] (by simpa using i64R_nat (by omega))
  have h2 := flatMap_len p encFun 231660 (fun f hf' => encFun_len (h f hf') (hf f hf'))
  have h3 : p.length * 231660 ≤ 8 * 231660 := Nat.mul_le_mul_right _ hp
  simp at h1
  omega

theorem mayL_args {x : InsV} : ∀ {cs : List Nat} {r : InsV}, mayL x cs r = true → 76 ∉ cs → r.args = []
  | [], r, h, _ => by
    simp only [mayL, decide_eq_true_eq] at h
    rw [h]; rfl
  | c :: cs, r, h, hn => by
    have hn' : 76 ∉ cs := fun hh => hn (by simp [hh])
    have hc : ¬ c = 76 := fun hh => hn (by simp [hh])
    simp only [mayL, if_neg hc] at h
    split at h
    · exact mayL_args (r := { r with n := 0 }) h hn'
    · rw [Bool.and_eq_true] at h
      have := mayL_args h.2 hn'
      unfold setF at this
      split at this
      · exact this
      · split at this
        · exact this
        · split at this
          · exact this
          · split at this
            · exact this
            · exact this
theorem parts_call (op : Int) (h : 76 ∈ partsN op) : op = 19 := by
  unfold partsN at h
  split at h
  · cases h
  · rename_i h0
    have hall : ∀ j, j < 24 → 76 ∈ partsT.getD j [] → j = 19 := by decide
    by_cases hj : op.toNat < 24
    · have := hall _ hj h; omega
    · rw [List.getD, List.getElem?_eq_none (show partsT.length ≤ op.toNat by show 24 ≤ _; omega)] at h
      cases h
theorem may_few {p : List FunV} (h1 : cntB p = true) (h2 : p.all funMayB = true) : p.length ≤ 8 ∧ ∀ f ∈ p, funFew f := by
  simp only [cntB, Bool.and_eq_true, decide_eq_true_eq, List.all_eq_true] at h1 h2
  obtain ⟨-, h8, hc⟩ := h1
  refine ⟨h8, fun f hf => ?_⟩
  have a := hc f hf
  have b := h2 f hf
  simp only [funCnt, Bool.and_eq_true, decide_eq_true_eq, List.all_eq_true] at a
  simp only [funMayB, Bool.and_eq_true, decide_eq_true_eq, List.all_eq_true] at b
  refine ⟨a.1, b.1.1, a.2.1, fun bl hbl => ?_⟩
  have a2 := a.2.2 bl hbl
  simp only [blkCnt, Bool.and_eq_true, decide_eq_true_eq, List.all_eq_true] at a2
  refine ⟨a2.1, fun x hx => ?_⟩
  have a3 := a2.2 x hx
  have b3 := b.2.2 bl hbl x hx
  by_cases hop : x.op = 19
  · simp [insCnt, hop] at a3; exact a3
  · simp only [insMayB, Bool.and_eq_true] at b3
    have := mayL_args b3.2 (fun hh => hop (parts_call _ hh))
    rw [this]; simp

/-- What Encode answers: bytes, and an error's number. -/
def encR (p : List FunV) : List Int × Nat := if cntB p = true then (if p.all funMayB = true then (encProg p, 0) else ([], 1)) else ([], 9)
end Go.Proofs.YtpggjolbohffjaaDoor
