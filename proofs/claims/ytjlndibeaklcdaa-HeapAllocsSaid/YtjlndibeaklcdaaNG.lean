/- The contract of the reference's Func of layer 4. No condition. -/
import Derived.Test.YtjlndibeaklcdaaTA
import Derived.BigQuiet
set_option linter.unusedSimpArgs false
set_option linter.unusedVariables false
namespace Go.Proofs.Ytjlndibeaklcdaa
open Go.RowKit

def varOk (f : FunV) (k b : Int) (i : Nat) : Bool := baseB4 f.kinds k b && (!decide ((i : Int) < f.params) || valB k)
theorem valB_in (k : Int) : valB k = inB 0 1 k := by
  unfold valB inB
  rw [Bool.eq_iff_iff]; simp; omega
theorem inB4_iff {lo hi n : Int} : inB lo hi n = true ↔ lo ≤ n ∧ n ≤ hi := by unfold inB; simp
theorem fun_all {f : FunV} (h : funB4 f = true) : f.kinds.length ≤ 48 ∧ f.base.length = f.kinds.length ∧ inB 0 (min 4 (f.kinds.length : Int)) f.params = true ∧ inB 0 1 f.result = true ∧ inB 1 40 (f.blocks.length : Int) = true ∧
    (∀ (i : Nat) k b, f.kinds[i]? = some k → f.base[i]? = some b → varOk f k b i = true) ∧ ∀ b ∈ f.blocks, blockB4 b = true := by
  unfold funB4 varsB4 paramsB4 blocksB4 at h
  simp only [Bool.and_eq_true, decide_eq_true_eq, List.all_eq_true] at h
  obtain ⟨⟨⟨h1, h2⟩, h3⟩, ⟨h4, h5⟩, h6, h7, h8⟩ := h
  refine ⟨h2, h1, h4, by rw [← valB_in]; exact h6, h7, fun i k b hk hb => ?_, h8⟩
  unfold varOk
  simp only [Bool.and_eq_true, Bool.or_eq_true, Bool.not_eq_true', decide_eq_false_iff_not]
  refine ⟨h3 (k, b) (List.mem_of_getElem? (i := i) (List.getElem?_zip_eq_some.2 ⟨hk, hb⟩)), ?_⟩
  by_cases hp : (i : Int) < f.params
  · right
    exact h5 k (List.mem_of_getElem? (i := i) (by rw [List.getElem?_take_of_lt (by omega)]; exact hk))
  · exact .inl hp
theorem fun_yes {f : FunV} (h1 : f.kinds.length ≤ 48) (h2 : f.base.length = f.kinds.length) (h3 : inB 0 (min 4 (f.kinds.length : Int)) f.params = true) (h4 : inB 0 1 f.result = true) (h5 : inB 1 40 (f.blocks.length : Int) = true)
    (h6 : ∀ (i : Nat) k b, f.kinds[i]? = some k → f.base[i]? = some b → varOk f k b i = true) (h7 : ∀ b ∈ f.blocks, blockB4 b = true) : funB4 f = true := by
  unfold funB4 varsB4 paramsB4 blocksB4
  simp only [Bool.and_eq_true, decide_eq_true_eq, List.all_eq_true]
  refine ⟨⟨⟨h2, h1⟩, fun kb hkb => ?_⟩, ⟨h3, fun k hk => ?_⟩, by rw [valB_in]; exact h4, h5, h7⟩
  · obtain ⟨i, hi⟩ := List.mem_iff_getElem?.1 hkb
    obtain ⟨e1, e2⟩ := List.getElem?_zip_eq_some.1 hi
    have := h6 i _ _ e1 e2
    unfold varOk at this
    simp only [Bool.and_eq_true] at this
    exact this.1
  · obtain ⟨i, hi⟩ := List.mem_iff_getElem?.1 hk
    have hlt : i < f.params.toNat := by
      have := (List.getElem?_eq_some_iff.1 hi).1
      rw [List.length_take] at this; omega
    rw [List.getElem?_take_of_lt hlt] at hi
    have hn := (List.getElem?_eq_some_iff.1 hi).1
    have := h6 i k (f.base[i]'(by omega)) hi (List.getElem?_eq_getElem _)
    unfold varOk at this
    simp only [Bool.and_eq_true, Bool.or_eq_true, Bool.not_eq_true', decide_eq_false_iff_not] at this
    rcases this.2 with h | h
    · omega
    · exact h
theorem ends_of {l : List InsV} (h : ∀ (k : Nat) x, l[k]? = some x → lastB x.op = decide (k = l.length - 1)) : endsB l = true := by
  unfold endsB
  simp only [Bool.and_eq_true, List.all_eq_true, Bool.not_eq_true']
  constructor
  · intro x hx
    obtain ⟨i, hi⟩ := List.mem_iff_getElem?.1 hx
    have hlt : i < l.length - 1 := by
      have := (List.getElem?_eq_some_iff.1 hi).1
      rw [List.length_take] at this; omega
    rw [List.getElem?_take_of_lt hlt] at hi
    rw [h i x hi]; simp; omega
  · intro x hx
    obtain ⟨i, hi⟩ := List.mem_iff_getElem?.1 hx
    rw [List.getElem?_drop] at hi
    have hlt := (List.getElem?_eq_some_iff.1 hi).1
    rw [h _ x hi]; simp; omega
theorem ends_at4 {l : List InsV} {k : Nat} {x : InsV} (h : endsB l = true) (hx : l[k]? = some x) : lastB x.op = decide (k = l.length - 1) := by
  have hk := (List.getElem?_eq_some_iff.1 hx).1
  unfold endsB at h
  simp only [Bool.and_eq_true, List.all_eq_true, Bool.not_eq_true'] at h
  by_cases he : k = l.length - 1
  · rw [decide_eq_true he]
    exact h.2 x (List.mem_of_getElem? (i := 0) (by rw [List.getElem?_drop, ← he]; simpa using hx))
  · rw [decide_eq_false he]
    exact h.1 x (List.mem_of_getElem? (i := k) (by rw [List.getElem?_take_of_lt (by omega)]; exact hx))
def varsTo (f : FunV) (n : Nat) : Prop := ∀ (i : Nat) k b, i < n → f.kinds[i]? = some k → f.base[i]? = some b → varOk f k b i = true
theorem varsTo.next {f : FunV} {n : Nat} (h : varsTo f n) {k b : Int} (hk : f.kinds[n]? = some k) (hb : f.base[n]? = some b) (ho : varOk f k b n = true) : varsTo f (n + 1) := by
  intro i k' b' hi h1 h2
  by_cases he : i = n
  · subst he
    rw [hk] at h1; rw [hb] at h2
    cases h1; cases h2; exact ho
  · exact h i k' b' (by omega) h1 h2
theorem var_bad {f : FunV} {n : Nat} {k b : Int} (hk : f.kinds[n]? = some k) (hb : f.base[n]? = some b) (ho : varOk f k b n = false) : funB4 f = false :=
  Bool.eq_false_iff.2 fun h => by have := (fun_all h).2.2.2.2.2.1 n k b hk hb; rw [ho] at this; cases this
def blksTo (f : FunV) (n : Nat) : Prop := ∀ (i : Nat) b, i < n → f.blocks[i]? = some b → blockB4 b = true
theorem blksTo.next {f : FunV} {n : Nat} (h : blksTo f n) {b : List InsV} (hb : f.blocks[n]? = some b) (ho : blockB4 b = true) : blksTo f (n + 1) := by
  intro i b' hi h1
  by_cases he : i = n
  · subst he
    rw [hb] at h1; cases h1; exact ho
  · exact h i b' (by omega) h1
theorem blk_bad {f : FunV} {n : Nat} {b : List InsV} (hb : f.blocks[n]? = some b) (ho : blockB4 b = false) : funB4 f = false :=
  Bool.eq_false_iff.2 fun h => by have := (fun_all h).2.2.2.2.2.2 b (List.mem_of_getElem? hb); rw [ho] at this; cases this
def endsTo (l : List InsV) (n : Nat) : Prop := ∀ (i : Nat) x, i < n → l[i]? = some x → lastB x.op = decide (i = l.length - 1)
theorem endsTo.next {l : List InsV} {n : Nat} (h : endsTo l n) {x : InsV} (hx : l[n]? = some x) (ho : lastB x.op = decide (n = l.length - 1)) : endsTo l (n + 1) := by
  intro i x' hi h1
  by_cases he : i = n
  · subst he
    rw [hx] at h1; cases h1; exact ho
  · exact h i x' (by omega) h1
end Go.Proofs.Ytjlndibeaklcdaa
namespace Go.Proofs.Ytjlndibeaklcdaa
open Go.RowKit

theorem varOk_out {f : FunV} {k b : Int} {i : Nat} (h : inB 0 2 k = false) : varOk f k b i = false := by
  have h2 : ¬ (0 ≤ k ∧ k ≤ 2) := fun hh => by rw [inB4_iff.2 hh] at h; cases h
  unfold varOk baseB4
  rw [if_neg (by omega), valB_in, show inB 0 1 k = false from Bool.eq_false_iff.2 (fun hh => h2 (by have := inB4_iff.1 hh; omega))]
  rfl
theorem varOk_der {f : FunV} {b : Int} {i : Nat} (h : (i : Int) < f.params) : varOk f 2 b i = false := by
  unfold varOk
  rw [decide_eq_true h]; simp [valB]
theorem varOk_ref {f : FunV} {b : Int} {i : Nat} (h : ¬ (i : Int) < f.params) : varOk f 2 b i = refB f.kinds b := by
  unfold varOk baseB4
  rw [decide_eq_false h]; simp
theorem varOk_val {f : FunV} {k b : Int} {i : Nat} (h : inB 0 2 k = true) (hk : k ≠ 2) : varOk f k b i = (b == -1) := by
  have hv : valB k = true := by rw [valB_in]; have := inB4_iff.1 h; exact inB4_iff.2 (by omega)
  unfold varOk baseB4
  rw [if_neg hk, hv]; simp
end Go.Proofs.Ytjlndibeaklcdaa
namespace Go.Proofs.Ytjlndibeaklcdaa
open Go.RowKit

def numsR (p : List FunV) (x : InsV) : Bool :=
  if x.op = 19 then calleeB p x.n x.args.length else if x.op = 1 then inB (-2147483648) 2147483648 x.n else if x.op = 16 then inB (-8) 8 x.n else if x.op = 10 then inB 0 8 x.n && inB 0 8 x.m
  else if x.op = 11 ∨ x.op = 12 ∨ x.op = 13 ∨ x.op = 14 ∨ x.op = 15 then inB 0 7 x.n else true
def usesD (x : InsV) : List Int := usesL x ++ (if hasB4 x.op 68 = true then [x.d] else [])
theorem blk_minmax (f : FunV) (a b : Int) : (inBlk f (min a b) && inBlk f (max a b)) = (inBlk f a && inBlk f b) := by
  rw [Bool.eq_iff_iff]
  unfold inBlk
  simp only [Bool.and_eq_true, inB4_iff]
  omega
theorem nums_eq (p : List FunV) (f : FunV) (x : InsV) : numsB p f x = ((nextL x).all (inBlk f) && numsR p x) := by
  unfold numsB numsR nextL
  by_cases h21 : x.op = 21
  · simp [h21]
  · by_cases h22 : x.op = 22
    · by_cases hnm : x.n = x.m
      · simp [h22, hnm]
      · have := blk_minmax f x.n x.m
        simp [h22, hnm, this]
    · simp only [h21, h22, false_and, or_self, if_false, List.all_nil, Bool.true_and]
      by_cases h19 : x.op = 19
      · simp [h19]
      · by_cases h1 : x.op = 1
        · simp [h1]
        · by_cases h16 : x.op = 16
          · simp [h16]
          · simp [h19, h1, h16]
theorem may_eq (p : List FunV) (f : FunV) (x : InsV) : mayB4 p f x = (!(partsN x.op).isEmpty && (onlyB4 x && ((usesD x).all (inVar f) && ((nextL x).all (inBlk f) && numsR p x)))) := by
  unfold mayB4
  rw [nums_eq]
  have : varsInB f x = (usesD x).all (inVar f) := by
    unfold varsInB usesD
    rw [List.all_append]
    cases hasB4 x.op 68 <;> simp [Bool.and_comm]
  rw [this]
end Go.Proofs.Ytjlndibeaklcdaa
