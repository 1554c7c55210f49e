/- The contract of the reference's Ins of layer 4, at a function that is there. Condition: what the reference's bare answers. -/
import Derived.Test.YtkpikgakphdjjaaTF
set_option linter.unusedSimpArgs false
set_option linter.unusedVariables false
namespace Go.Proofs.Ytkpikgakphdjjaa
open Go.RowKit

def numsR (p : List FunV) (x : InsV) : Bool :=
  if x.op = 19 then calleeB p x.n x.args.length else if x.op = 1 then inB (-2147483648) 2147483648 x.n else if x.op = 16 then inB (-8) 8 x.n else if x.op = 10 then inB 0 8 x.n && inB 0 8 x.m
  else if x.op = 11 ∨ x.op = 12 ∨ x.op = 13 ∨ x.op = 14 ∨ x.op = 15 then inB 0 7 x.n else true
def usesD (x : InsV) : List Int := usesL x ++ (if hasB4 x.op 68 = true then [x.d] else [])
theorem blk_minmax (f : FunV) (a b : Int) : (inBlk f (min a b) && inBlk f (max a b)) = (inBlk f a && inBlk f b) := by
  rw [Bool.eq_iff_iff]
  unfold inBlk
  simp only [Bool.and_eq_true, inB4_iff]
  omega
theorem nums_eq (p : List FunV) (f : FunV) (x : InsV) : numsB p f x = ((nextL x).all (inBlk f) && numsR p x) := by
  unfold numsB numsR nextL
  by_cases h21 : x.op = 21
  · simp [h21]
  · by_cases h22 : x.op = 22
    · by_cases hnm : x.n = x.m
      · simp [h22, hnm]
      · have := blk_minmax f x.n x.m
        simp [h22, hnm, this]
    · simp only [h21, h22, false_and, or_self, if_false, List.all_nil, Bool.true_and]
      by_cases h19 : x.op = 19
      · simp [h19]
      · by_cases h1 : x.op = 1
        · simp [h1]
        · by_cases h16 : x.op = 16
          · simp [h16]
          · simp [h19, h1, h16]
theorem may_eq (p : List FunV) (f : FunV) (x : InsV) : mayB4 p f x = (!(partsN x.op).isEmpty && (onlyB4 x && ((usesD x).all (inVar f) && ((nextL x).all (inBlk f) && numsR p x)))) := by
  unfold mayB4
  rw [nums_eq]
  have : varsInB f x = (usesD x).all (inVar f) := by
    unfold varsInB usesD
    rw [List.all_append]
    cases hasB4 x.op 68 <;> simp [Bool.and_comm]
  rw [this]
end Go.Proofs.Ytkpikgakphdjjaa
