/- Plain mathematics: what is read has just those bytes (programs); an error stays. No condition. -/
import Derived.Test.YtpggjolbohffjaaDoorCDecW
import Derived.Test.YtpggjolbohffjaaDoorCEncW
set_option linter.unusedSimpArgs false
set_option linter.unusedVariables false
namespace Go.Proofs.YtpggjolbohffjaaDoor
open Go.RowKit

/-- Behind an error nothing is read. -/
def Stk {α : Type} (T : St → α × St) : Prop := ∀ s, s.2 ≠ 0 → (T s).2 = s
theorem stk_num : Stk numT := fun s h => by unfold numT; rw [if_neg h]
theorem stk_snum : Stk snumT := fun s h => by unfold snumT; rw [if_neg h]
theorem stk_only (may : Int → Bool) (er : Nat) : Stk (onlyT may er) := fun s h => by
  unfold onlyT
  rw [stk_num s h, if_neg h]
theorem stk_var : Stk varT := fun s h => by
  unfold varT
  rw [stk_only _ _ s h]
  split
  · exact stk_num s h
  · rfl
theorem stk_many {α : Type} {T : St → α × St} (h : Stk T) : ∀ n, Stk (manyT T n)
  | 0 => fun _ _ => rfl
  | n + 1 => fun s hs => by rw [manyT_st, stk_many h n s hs, h s hs]
theorem stk_list : Stk listT := fun s h => by
  unfold listT
  have h1 := stk_only (limB 0 4) 9 s h
  unfold cntT
  rw [h1]; exact stk_many stk_num _ s h
theorem stk_part (c : Nat) (p : InsV × St) (h : p.2.2 ≠ 0) : (partT p c).2 = p.2 := by
  unfold partT
  split
  · exact stk_snum _ h
  · split
    · exact stk_list _ h
    · exact stk_num _ h
theorem stk_fold : ∀ (ls : List Nat) (p : InsV × St), p.2.2 ≠ 0 → (ls.foldl partT p).2 = p.2
  | [], _, _ => rfl
  | c :: cs, p, h => by
    rw [List.foldl_cons, stk_fold cs _ (by rw [stk_part c p h]; exact h), stk_part c p h]
theorem stk_ins : Stk insT := fun s h => by
  unfold insT
  have h1 := stk_only isOpB 5 s h
  rw [stk_fold _ _ (by simp only; rw [h1]; exact h)]
  exact h1
theorem stk_blk : Stk blkT := fun s h => by
  unfold blkT
  have h1 := stk_only (limB 0 40) 9 s h
  unfold cntT
  rw [h1]; exact stk_many stk_ins _ s h
theorem stk_vars : Stk varsT := fun s h => by
  unfold varsT
  have h1 := stk_only (limB 0 48) 9 s h
  unfold cntT
  rw [h1]; exact stk_many stk_var _ s h
theorem stk_blks : Stk blksT := fun s h => by
  unfold blksT
  have h1 := stk_only (limB 0 40) 9 s h
  unfold cntT
  rw [h1]; exact stk_many stk_blk _ s h
theorem stk_fun : Stk funT := fun s h => by
  show (blksT (numT (numT (varsT s).2).2).2).2 = s
  rw [stk_vars s h, stk_num s h, stk_num s h, stk_blks s h]
theorem Stk.ok {α : Type} {T : St → α × St} (h : Stk T) {s : St} (he : (T s).2.2 = 0) : s.2 = 0 := by
  by_cases hs : s.2 = 0
  · exact hs
  · rw [h s hs] at he; exact absurd he hs

/-- What is read without an error has just those bytes. -/
def Inv {α : Type} (T : St → α × St) (en : α → List Int) (ok : α → Prop) : Prop :=
  ∀ zs, Byt (zs, 0) → (T (zs, 0)).2.2 = 0 → zs = en (T (zs, 0)).1 ++ (T (zs, 0)).2.1 ∧ ok (T (zs, 0)).1
theorem byt_rest {zs a b : List Int} (h : Byt (zs, 0)) (e : zs = a ++ b) : Byt (b, 0) := fun z hz => h z (by rw [e]; simp [show z ∈ b from hz])
def numOk (v : Int) : Prop := 0 ≤ v ∧ v ≤ 9223372036854775807
theorem encL_one {v : Int} (h : 0 ≤ v) : encL [v] = enc v.toNat := by
  unfold encL encI
  simp only [List.flatMap_cons, List.flatMap_nil, List.append_nil]
  rw [if_neg (by omega)]
theorem inv_num : Inv numT (fun v => encL [v]) numOk := fun zs hb he => by
  have hR := numT_R hb
  refine ⟨?_, hR⟩
  show zs = encL [(numT (zs, 0)).1] ++ (numT (zs, 0)).2.1
  rw [encL_one hR.1]
  unfold numT at he ⊢
  simp only [if_true] at he ⊢
  obtain ⟨v, e1, e2, -, -, e4, -⟩ := rd_back 9 zs 0 0 hb he
  have e1' : (rd 9 0 0 zs).1 = v := by simpa using e1
  have e2' : (rd 9 0 0 zs).2.1 = (enc v).length := by simpa using e2
  rw [e1', e2', Int.toNat_natCast]
  rw [← e4, List.length_take]
  conv => lhs; rw [← List.take_append_drop (enc v).length zs]
  congr 1
  congr 1
  have := congrArg List.length e4
  simp at this
  omega
theorem inv_snum : Inv snumT (fun v => enc (zz v)) i64R := fun zs hb he => by
  have hR := snumT_R hb
  refine ⟨?_, hR⟩
  show zs = enc (zz (snumT (zs, 0)).1) ++ (snumT (zs, 0)).2.1
  unfold snumT at he ⊢
  simp only [if_true] at he ⊢
  obtain ⟨v, e1, e2, -, -, e4, -⟩ := rd_back 10 zs 0 0 hb he
  have e1' : (rd 10 0 0 zs).1 = v := by simpa using e1
  have e2' : (rd 10 0 0 zs).2.1 = (enc v).length := by simpa using e2
  rw [e1', e2', zz_unz]
  rw [← e4, List.length_take]
  conv => lhs; rw [← List.take_append_drop (enc v).length zs]
  congr 1
  congr 1
  have := congrArg List.length e4
  simp at this
  omega
theorem inv_only (may : Int → Bool) (er : Nat) (her : er ≠ 0) : Inv (onlyT may er) (fun v => encL [v]) (fun v => numOk v ∧ may v = true) := fun zs hb he => by
  by_cases h0 : (numT (zs, 0)).2.2 = 0
  · by_cases hm : may (numT (zs, 0)).1 = true
    · have e : onlyT may er (zs, 0) = numT (zs, 0) := by unfold onlyT; rw [if_pos h0, if_pos hm]
      have := inv_num zs hb h0
      rw [e]
      exact ⟨this.1, this.2, hm⟩
    · have e : onlyT may er (zs, 0) = (0, ((numT (zs, 0)).2.1, er)) := by unfold onlyT; rw [if_pos h0, if_neg hm]
      rw [e] at he
      exact absurd he her
  · have e : onlyT may er (zs, 0) = (0, (numT (zs, 0)).2) := by unfold onlyT; rw [if_neg h0]
    rw [e] at he
    exact absurd he h0
theorem inv_var : Inv varT encVar (fun kb => varMayB kb = true ∧ i64R kb.1 ∧ i64R kb.2) := fun zs hb he => by
  by_cases h2 : (onlyT kindB 5 (zs, 0)).1 = 2
  · have e : varT (zs, 0) = ((2, (numT (onlyT kindB 5 (zs, 0)).2).1), (numT (onlyT kindB 5 (zs, 0)).2).2) := by unfold varT; rw [if_pos h2]
    rw [e] at he ⊢
    have h0 := stk_num.ok he
    obtain ⟨i1, -⟩ := inv_only kindB 5 (by omega) zs hb h0
    clear e
    generalize onlyT kindB 5 (zs, 0) = r at *
    obtain ⟨r1, r2, r3⟩ := r
    simp only at he h0 h2 i1 ⊢
    subst h0 h2
    have hb2 := byt_rest hb i1
    obtain ⟨i2, i3⟩ := inv_num r2 hb2 he
    refine ⟨?_, ?_, by unfold i64R; simp, by unfold i64R; unfold numOk at i3; omega⟩
    · rw [i1]
      conv => lhs; rw [i2]
      simp [encVar]
    · unfold varMayB baseB
      simp [kindB, i3.1]
  · have e : varT (zs, 0) = (((onlyT kindB 5 (zs, 0)).1, -1), (onlyT kindB 5 (zs, 0)).2) := by unfold varT; rw [if_neg h2]
    rw [e] at he ⊢
    obtain ⟨i1, i2, i3⟩ := inv_only kindB 5 (by omega) zs hb he
    unfold numOk at i2
    refine ⟨?_, ?_, by unfold i64R; simp only; omega, by unfold i64R; simp⟩
    · simp only [encVar, if_neg h2, List.append_nil]; exact i1
    · unfold varMayB baseB
      simp only [i3, if_neg h2]; rfl
theorem inv_many {α : Type} {T : St → α × St} {en : α → List Int} {ok : α → Prop} (h : Inv T en ok) (hs : Stk T) : ∀ n, Inv (manyT T n) (fun l => l.flatMap en) (fun l => ∀ x ∈ l, ok x)
  | 0 => fun zs _ _ => ⟨by simp [manyT], by simp [manyT]⟩
  | n + 1 => fun zs hb he => by
    rw [manyT_st] at he ⊢
    rw [manyT_ls]
    have h0 := hs.ok he
    obtain ⟨i1, i2⟩ := inv_many h hs n zs hb h0
    generalize manyT T n (zs, 0) = r at *
    obtain ⟨l, r2, r3⟩ := r
    simp only at *
    subst h0
    obtain ⟨i3, i4⟩ := h r2 (byt_rest hb i1) he
    refine ⟨?_, fun x hx => ?_⟩
    · rw [i1]
      conv => lhs; rw [i3]
      simp
    · rcases List.mem_append.1 hx with hx | hx
      · exact i2 x hx
      · simp at hx; rw [hx]; exact i4
theorem cnt_nat {lo hi : Int} {s : St} (h : Byt s) (hh : 0 ≤ hi) : ((cntT lo hi s).1.toNat : Int) = (cntT lo hi s).1 := by
  have := cntT_R (lo := lo) (hi := hi) h hh
  omega
/-- A counted list. -/
theorem inv_count {α : Type} {T : St → α × St} {en : α → List Int} {ok : α → Prop} (h : Inv T en ok) (hs : Stk T) (lo hi : Int) (hh : 0 ≤ hi) :
    Inv (fun s => manyT T (cntT lo hi s).1.toNat (cntT lo hi s).2) (fun l => encL [(l.length : Int)] ++ l.flatMap en) (fun l => lo ≤ (l.length : Int) ∧ (l.length : Int) ≤ hi ∧ ∀ x ∈ l, ok x) := fun zs hb he => by
  simp only at he ⊢
  have h0 := (stk_many hs _).ok he
  obtain ⟨i1, i2, i3⟩ := inv_only (limB lo hi) 9 (by omega) zs hb h0
  have hn := cnt_nat (lo := lo) (s := (zs, 0)) hb hh
  unfold cntT at he hn h0 ⊢
  rw [manyT_len, hn]
  generalize onlyT (limB lo hi) 9 (zs, 0) = r at *
  obtain ⟨n, r2, r3⟩ := r
  simp only at *
  subst h0
  obtain ⟨i4, i5⟩ := inv_many h hs n.toNat r2 (byt_rest hb i1) he
  simp only [limB, Bool.and_eq_true, decide_eq_true_eq] at i3
  refine ⟨?_, i3.1, i3.2, i5⟩
  rw [i1]
  conv => lhs; rw [i4]
  simp
theorem inv_list : Inv listT (fun l => encL [(l.length : Int)] ++ encL l) (fun l => (l.length : Int) ≤ 4 ∧ ∀ z ∈ l, numOk z) := fun zs hb he => by
  obtain ⟨i1, -, i2, i3⟩ := inv_count inv_num stk_num 0 4 (by omega) zs hb he
  refine ⟨?_, i2, i3⟩
  have e : ∀ l : List Int, l.flatMap (fun v => encL [v]) = encL l := fun l => by
    induction l with
    | nil => rfl
    | cons a l ih => rw [List.flatMap_cons, ih]; simp [encL]
  have i1' : zs = encL [((listT (zs, 0)).1.length : Int)] ++ (listT (zs, 0)).1.flatMap (fun v => encL [v]) ++ (listT (zs, 0)).2.1 := i1
  rw [e] at i1'
  exact i1'
end Go.Proofs.YtpggjolbohffjaaDoor
