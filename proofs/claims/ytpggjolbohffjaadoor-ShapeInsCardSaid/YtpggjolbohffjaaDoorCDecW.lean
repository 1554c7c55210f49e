/- Plain mathematics: what the reader reads, as functions of what is left of the bytes and the first error. No condition. -/
import Derived.Test.YtpggjolbohffjaaDoorCMayW
set_option linter.unusedSimpArgs false
set_option linter.unusedVariables false
namespace Go.Proofs.YtpggjolbohffjaaDoor
open Go.RowKit

/-- What is left of the bytes, and the first error's number. -/
abbrev St := List Int × Nat
def numT (s : St) : Int × St := if s.2 = 0 then (((rd 9 0 0 s.1).1 : Int), (s.1.drop (rd 9 0 0 s.1).2.1, (rd 9 0 0 s.1).2.2)) else (0, s)
def snumT (s : St) : Int × St := if s.2 = 0 then (unz (rd 10 0 0 s.1).1, (s.1.drop (rd 10 0 0 s.1).2.1, (rd 10 0 0 s.1).2.2)) else (0, s)
def onlyT (may : Int → Bool) (er : Nat) (s : St) : Int × St := if (numT s).2.2 = 0 then (if may (numT s).1 = true then numT s else (0, ((numT s).2.1, er))) else (0, (numT s).2)
def limB (lo hi : Int) (n : Int) : Bool := decide (lo ≤ n) && decide (n ≤ hi)
def cntT (lo hi : Int) (s : St) : Int × St := onlyT (limB lo hi) 9 s
def isOpB (n : Int) : Bool := !(partsN n).isEmpty
def varT (s : St) : (Int × Int) × St := if (onlyT kindB 5 s).1 = 2 then ((2, (numT (onlyT kindB 5 s).2).1), (numT (onlyT kindB 5 s).2).2) else (((onlyT kindB 5 s).1, -1), (onlyT kindB 5 s).2)
def manyT {α : Type} (f : St → α × St) : Nat → St → List α × St
  | 0, s => ([], s)
  | n + 1, s => ((manyT f n s).1 ++ [(f (manyT f n s).2).1], (f (manyT f n s).2).2)
def listT (s : St) : List Int × St := manyT numT (cntT 0 4 s).1.toNat (cntT 0 4 s).2
def partT (p : InsV × St) (c : Nat) : InsV × St :=
  if c = 110 then ({ p.1 with n := (snumT p.2).1 }, (snumT p.2).2) else if c = 76 then ({ p.1 with args := (listT p.2).1 }, (listT p.2).2) else (setF c (numT p.2).1 p.1, (numT p.2).2)
def insT (s : St) : InsV × St := (partsN (onlyT isOpB 5 s).1).foldl partT (bare (onlyT isOpB 5 s).1, (onlyT isOpB 5 s).2)
def blkT (s : St) : List InsV × St := manyT insT (cntT 0 40 s).1.toNat (cntT 0 40 s).2
def varsT (s : St) : List (Int × Int) × St := manyT varT (cntT 0 48 s).1.toNat (cntT 0 48 s).2
def blksT (s : St) : List (List InsV) × St := manyT blkT (cntT 0 40 s).1.toNat (cntT 0 40 s).2
def funT (s : St) : FunV × St :=
  (⟨(varsT s).1.map (·.1), (varsT s).1.map (·.2), (numT (varsT s).2).1, (numT (numT (varsT s).2).2).1, (blksT (numT (numT (varsT s).2).2).2).1⟩, (blksT (numT (numT (varsT s).2).2).2).2)
def progT (s : St) : List FunV × St := manyT funT (cntT 1 8 s).1.toNat (cntT 1 8 s).2
/-- The error at the end. -/
def endE (s : St) : Nat := if s.2 = 0 ∧ 0 < s.1.length then 11 else s.2
def decR (zs : List Int) : List FunV × Nat := if endE (progT (zs, 0)).2 = 0 then ((progT (zs, 0)).1, 0) else ([], endE (progT (zs, 0)).2)

theorem manyT_len {α : Type} (f : St → α × St) : ∀ (n : Nat) (s : St), (manyT f n s).1.length = n
  | 0, _ => rfl
  | n + 1, s => by simp [manyT, manyT_len f n s]
theorem manyT_st {α : Type} (f : St → α × St) (n : Nat) (s : St) : (manyT f (n + 1) s).2 = (f (manyT f n s).2).2 := rfl
theorem manyT_ls {α : Type} (f : St → α × St) (n : Nat) (s : St) : (manyT f (n + 1) s).1 = (manyT f n s).1 ++ [(f (manyT f n s).2).1] := rfl

/-- Bytes are bytes. -/
def Byt (s : St) : Prop := ∀ z ∈ s.1, 0 ≤ z ∧ z ≤ 255
theorem Byt.drop {zs : List Int} {e e' k : Nat} (h : Byt (zs, e)) : Byt (zs.drop k, e') := fun z hz => h z (List.mem_of_mem_drop hz)
theorem numT_byt {s : St} (h : Byt s) : Byt (numT s).2 := by
  unfold numT; split
  · exact Byt.drop (e := s.2) h
  · exact h
theorem numT_R {s : St} (h : Byt s) : 0 ≤ (numT s).1 ∧ (numT s).1 ≤ 9223372036854775807 := by
  unfold numT; split
  · have := rd_lt63 s.1 h
    simp only
    omega
  · simp
theorem snumT_R {s : St} (h : Byt s) : i64R (snumT s).1 := by
  unfold snumT; split
  · have := rd_lt 10 (by omega) s.1 0 0 h (fun _ => by simp)
    unfold unz
    simp only
    split <;> (unfold i64R; omega)
  · simp [i64R]
theorem onlyT_R {may : Int → Bool} {er : Nat} {s : St} (h : Byt s) : 0 ≤ (onlyT may er s).1 ∧ (onlyT may er s).1 ≤ 9223372036854775807 := by
  unfold onlyT
  split
  · split
    · exact numT_R h
    · simp
  · simp
theorem cntT_R {lo hi : Int} {s : St} (h : Byt s) (hh : 0 ≤ hi) : 0 ≤ (cntT lo hi s).1 ∧ (cntT lo hi s).1 ≤ hi := by
  have h1 := (onlyT_R (may := limB lo hi) (er := 9) h).1
  refine ⟨h1, ?_⟩
  unfold cntT onlyT
  split
  · split
    · rename_i h2 h3
      simp only [limB, Bool.and_eq_true, decide_eq_true_eq] at h3
      exact h3.2
    · exact hh
  · exact hh
end Go.Proofs.YtpggjolbohffjaaDoor
