/- Plain mathematics: instructions, functions, programs that are read have just those bytes, and may have them. No condition. -/
import Derived.Test.YtpggjolbohffjaaDoorCBackW
import Derived.Test.YtpggjolbohffjaaDoorCRIns
set_option linter.unusedSimpArgs false
set_option linter.unusedVariables false
namespace Go.Proofs.YtpggjolbohffjaaDoor
open Go.RowKit

def fkey (c : Nat) : Nat := if c = 110 then 4 else if c = 76 then 6 else fidx c
def agr (k : Nat) (x y : InsV) : Prop := match k with
  | 1 => x.d = y.d
  | 2 => x.a = y.a
  | 3 => x.b = y.b
  | 4 => x.n = y.n
  | 5 => x.m = y.m
  | 6 => x.args = y.args
  | _ => True
theorem agr_refl (k : Nat) (x : InsV) : agr k x x := by unfold agr; split <;> trivial
theorem agr_trans {k : Nat} {x y z : InsV} (h : agr k x y) (h2 : agr k y z) : agr k x z := by
  unfold agr at *
  split <;> simp_all
def okP (x : InsV) (c : Nat) : Prop := if c = 110 then True else if c = 76 then ∀ z ∈ x.args, 0 ≤ z else 0 ≤ fieldOf c x
theorem encPart_agr {c : Nat} (hc : isLetter c) {x y : InsV} (h : agr (fkey c) x y) : encPart x c = encPart y c := by
  unfold isLetter at hc
  rcases hc with rfl | rfl | rfl | rfl | rfl | rfl | rfl <;> simp [fkey, fidx, agr] at h <;> simp [encPart, fieldOf, h]
theorem okP_agr {c : Nat} (hc : isLetter c) {x y : InsV} (h : agr (fkey c) x y) (ho : okP y c) : okP x c := by
  unfold isLetter at hc
  rcases hc with rfl | rfl | rfl | rfl | rfl | rfl | rfl <;> simp [fkey, fidx, agr] at h <;> simp [okP, fieldOf, h] at ho ⊢ <;> exact ho
theorem part_inv {c : Nat} (hc : isLetter c) (x : InsV) (zs : List Int) (hb : Byt (zs, 0)) (he : (partT (x, (zs, 0)) c).2.2 = 0) :
    zs = encPart (partT (x, (zs, 0)) c).1 c ++ (partT (x, (zs, 0)) c).2.1 ∧ okP (partT (x, (zs, 0)) c).1 c ∧ (∀ k, k ≠ fkey c → agr k (partT (x, (zs, 0)) c).1 x) ∧ (partT (x, (zs, 0)) c).1.op = x.op := by
  have hnum : ∀ c', c' ≠ 110 → c' ≠ 76 → isLetter c' → (numT (zs, 0)).2.2 = 0 → zs = encPart (setF c' (numT (zs, 0)).1 x) c' ++ (numT (zs, 0)).2.1 ∧ okP (setF c' (numT (zs, 0)).1 x) c' ∧ (∀ k, k ≠ fkey c' → agr k (setF c' (numT (zs, 0)).1 x) x) ∧ (setF c' (numT (zs, 0)).1 x).op = x.op := fun c' h1 h2 hl h0 => by
    obtain ⟨i1, i2⟩ := inv_num zs hb h0
    generalize numT (zs, 0) = r at *
    obtain ⟨v, r2⟩ := r
    unfold numOk at i2
    simp only at i1 i2 ⊢
    have hf : ∀ x : InsV, encPart x c' = encL [fieldOf c' x] := fun x => by unfold encPart; rw [if_neg h1, if_neg h2]
    have hfs : fieldOf c' (setF c' v x) = v := by
      unfold isLetter at hl
      rcases hl with rfl | rfl | rfl | rfl | rfl | rfl | rfl <;> simp [fieldOf, setF]
    refine ⟨by rw [hf, hfs]; exact i1, by unfold okP; rw [if_neg h1, if_neg h2, hfs]; exact i2.1, fun k hk => ?_, ?_⟩
    · unfold isLetter at hl
      rcases hl with rfl | rfl | rfl | rfl | rfl | rfl | rfl <;> simp [fkey, fidx] at hk <;> simp only [setF] <;> unfold agr <;> split <;> simp_all
    · unfold setF; repeat' split
      all_goals rfl
  by_cases h1 : c = 110
  · subst h1
    rw [part_n] at he ⊢
    obtain ⟨i1, i2⟩ := inv_snum zs hb he
    exact ⟨i1, by simp [okP], fun k hk => by clear i1 i2 he hnum hb; simp [fkey] at hk; unfold agr; split <;> first | rfl | trivial | (exact absurd rfl hk), rfl⟩
  · by_cases h2 : c = 76
    · subst h2
      rw [part_l] at he ⊢
      obtain ⟨i1, i2⟩ := inv_list zs hb he
      exact ⟨i1, by simp only [okP]; exact fun z hz => (i2.2 z hz).1, fun k hk => by clear i1 i2 he hnum hb; simp [fkey] at hk; unfold agr; split <;> first | rfl | trivial | (exact absurd rfl hk), rfl⟩
    · rw [part_num h1 h2] at he ⊢
      exact hnum c h1 h2 hc he
theorem fold_inv : ∀ (ls : List Nat) (x : InsV) (zs : List Int), (∀ c ∈ ls, isLetter c) → (ls.map fkey).Nodup → Byt (zs, 0) → (ls.foldl partT (x, (zs, 0))).2.2 = 0 →
    zs = ls.flatMap (encPart (ls.foldl partT (x, (zs, 0))).1) ++ (ls.foldl partT (x, (zs, 0))).2.1 ∧ (∀ c ∈ ls, okP (ls.foldl partT (x, (zs, 0))).1 c) ∧ (∀ k, k ∉ ls.map fkey → agr k (ls.foldl partT (x, (zs, 0))).1 x) ∧ (ls.foldl partT (x, (zs, 0))).1.op = x.op
  | [], x, zs, _, _, _, _ => ⟨by simp, by simp, fun k _ => agr_refl k x, rfl⟩
  | c :: cs, x, zs, hl, hn, hb, he => by
    rw [List.foldl_cons] at he ⊢
    have hlc := hl c (by simp)
    rw [List.map_cons, List.nodup_cons] at hn
    have h0 : (partT (x, (zs, 0)) c).2.2 = 0 := by
      by_cases hh : (partT (x, (zs, 0)) c).2.2 = 0
      · exact hh
      · rw [stk_fold cs _ hh] at he; exact absurd he hh
    obtain ⟨i1, i2, i3, i4⟩ := part_inv hlc x zs hb h0
    generalize partT (x, (zs, 0)) c = p at *
    obtain ⟨y, r, e⟩ := p
    simp only at i1 i2 i3 i4 h0
    subst h0
    obtain ⟨j1, j2, j3, j4⟩ := fold_inv cs y r (fun c' hc' => hl c' (by simp [hc'])) hn.2 (byt_rest hb i1) he
    generalize cs.foldl partT (y, (r, 0)) = q at *
    obtain ⟨z, r2, e2⟩ := q
    simp only at *
    have ha := j3 (fkey c) hn.1
    refine ⟨?_, fun c' hc' => ?_, fun k hk => ?_, by rw [j4, i4]⟩
    · rw [List.flatMap_cons, encPart_agr hlc ha, List.append_assoc, ← j1]; exact i1
    · rcases List.mem_cons.1 hc' with rfl | hc'
      · exact okP_agr hlc ha i2
      · exact j2 c' hc'
    · rw [List.map_cons, List.mem_cons, not_or] at hk
      exact agr_trans (j3 k hk.2) (i3 k hk.1)
theorem parts_nodup (op : Int) : ((partsN op).map fkey).Nodup := by
  unfold partsN
  split
  · simp
  · by_cases h : op.toNat < partsT.length
    · rw [List.getD, List.getElem?_eq_getElem h]
      have : ∀ l ∈ partsT, (l.map fkey).Nodup := by decide
      exact this _ (List.getElem_mem h)
    · rw [List.getD, List.getElem?_eq_none (by omega)]; simp
/-- All is well with an instruction whose parts may be put, and which has nothing beside. -/
theorem mayL_of (x : InsV) : ∀ (ls : List Nat) (r : InsV), (∀ c ∈ ls, isLetter c) → (ls.map fkey).Nodup → (∀ c ∈ ls, okP x c) → (∀ k, k ∈ ls.map fkey → agr k r x) → (∀ k, k ∉ ls.map fkey → agr k r (bare x.op)) → r.op = x.op → mayL x ls r = true
  | [], r, _, _, _, _, hz, ho => by
    have h1 := hz 1 (by simp); have h2 := hz 2 (by simp); have h3 := hz 3 (by simp); have h4 := hz 4 (by simp); have h5 := hz 5 (by simp); have h6 := hz 6 (by simp)
    obtain ⟨o, d, a, b, n, m, l⟩ := r
    simp only [agr, bare] at h1 h2 h3 h4 h5 h6 ho
    simp [mayL, bare, h1, h2, h3, h4, h5, h6, ho]
  | c :: cs, r, hl, hn, hok, ha, hz, ho => by
    have hlc := hl c (by simp)
    rw [List.map_cons, List.nodup_cons] at hn
    have hokc := hok c (by simp)
    have hac := ha (fkey c) (by simp)
    have step : ∀ r', (∀ k, k ≠ fkey c → agr k r' r) → agr (fkey c) r' (bare x.op) → r'.op = x.op → mayL x cs r' = true := fun r' g1 g2 g3 =>
      mayL_of x cs r' (fun c' h => hl c' (by simp [h])) hn.2 (fun c' h => hok c' (by simp [h])) (fun k hk => agr_trans (g1 k (fun e => hn.1 (e ▸ hk))) (ha k (by rw [List.map_cons]; simp [hk])))
        (fun k hk => by
          by_cases e : k = fkey c
          · rw [e]; exact g2
          · exact agr_trans (g1 k e) (hz k (by rw [List.map_cons, List.mem_cons, not_or]; exact ⟨e, hk⟩))) g3
    unfold isLetter at hlc
    rcases hlc with rfl | rfl | rfl | rfl | rfl | rfl | rfl
    all_goals simp [okP, fieldOf, fkey, fidx, agr] at hokc hac
    all_goals simp only [mayL, if_true]
    all_goals try simp [fieldOf, setF, hac, hokc]
    all_goals first
      | refine step _ (fun k hk => ?_) ?_ ho
      | refine ⟨hokc, step _ (fun k hk => ?_) ?_ ho⟩
    all_goals first
      | (simp [fkey, fidx] at hk; unfold agr; split <;> simp_all; done)
      | (simp [fkey, fidx, agr, bare]; done)
theorem cnt_le {lo hi : Int} {s : St} (hh : 0 ≤ hi) : (cntT lo hi s).1 ≤ hi := by
  unfold cntT onlyT
  split
  · split
    · rename_i h2 h3
      simp only [limB, Bool.and_eq_true, decide_eq_true_eq] at h3
      exact h3.2
    · exact hh
  · exact hh
theorem part_few (p : InsV × St) (c : Nat) (h : p.1.args.length ≤ 4) : (partT p c).1.args.length ≤ 4 := by
  unfold partT
  split
  · exact h
  · split
    · show (listT p.2).1.length ≤ 4
      unfold listT
      rw [manyT_len]
      have := cnt_le (lo := 0) (hi := 4) (s := p.2) (by omega)
      omega
    · unfold setF
      repeat' split
      all_goals exact h
theorem fold_few : ∀ (ls : List Nat) (p : InsV × St), p.1.args.length ≤ 4 → (ls.foldl partT p).1.args.length ≤ 4
  | [], _, h => h
  | c :: cs, p, h => fold_few cs _ (part_few p c h)
theorem inv_ins : Inv insT encIns (fun x => insMayB x = true ∧ x.args.length ≤ 4) := fun zs hb he => by
  unfold insT at he ⊢
  have h0 : (onlyT isOpB 5 (zs, 0)).2.2 = 0 := by
    by_cases hh : (onlyT isOpB 5 (zs, 0)).2.2 = 0
    · exact hh
    · rw [stk_fold _ _ hh] at he; exact absurd he hh
  obtain ⟨i1, i2, i3⟩ := inv_only isOpB 5 (by omega) zs hb h0
  generalize onlyT isOpB 5 (zs, 0) = p at *
  obtain ⟨op, r, e⟩ := p
  simp only at i1 i2 i3 h0 he ⊢
  subst h0
  have hb2 := byt_rest hb i1
  obtain ⟨j1, j2, j3, j4⟩ := fold_inv (partsN op) (bare op) r (partsN_letter op) (parts_nodup op) hb2 he
  have hf := fold_few (partsN op) (bare op, (r, 0)) (by simp [bare])
  generalize (partsN op).foldl partT (bare op, (r, 0)) = q at *
  obtain ⟨x, r2, e2⟩ := q
  simp only at *
  have hop : x.op = op := j4
  refine ⟨?_, ?_, hf⟩
  · unfold encIns
    rw [hop, List.append_assoc, ← j1]; exact i1
  · unfold insMayB
    rw [hop, mayL_of x (partsN op) x (partsN_letter op) (parts_nodup op) j2 (fun k _ => agr_refl k x) (fun k hk => by rw [hop]; exact j3 k hk) rfl, Bool.and_true]
    exact i3
theorem inv_blk : Inv blkT encBlk (fun b => blkCnt b = true ∧ b.all insMayB = true) := fun zs hb he => by
  obtain ⟨i1, -, i2, i3⟩ := inv_count inv_ins stk_ins 0 40 (by omega) zs hb he
  refine ⟨i1, ?_, ?_⟩
  · have h1 : (blkT (zs, 0)).1.length ≤ 40 := by have : ((blkT (zs, 0)).1.length : Int) ≤ 40 := i2; omega
    unfold blkCnt
    rw [decide_eq_true h1, Bool.true_and, List.all_eq_true]
    intro x hx
    unfold insCnt
    rw [decide_eq_true (i3 x hx).2, Bool.or_true]
  · rw [List.all_eq_true]; exact fun x hx => (i3 x hx).1
theorem zip_fst : ∀ l : List (Int × Int), (l.map (·.1)).zip (l.map (·.2)) = l
  | [] => rfl
  | a :: l => by rw [List.map_cons, List.map_cons, List.zip_cons_cons, zip_fst l]
theorem inv_fun : Inv funT encFun (fun f => funCnt f = true ∧ funMayB f = true) := fun zs hb he => by
  have e : funT (zs, 0) = (⟨(varsT (zs, 0)).1.map (·.1), (varsT (zs, 0)).1.map (·.2), (numT (varsT (zs, 0)).2).1, (numT (numT (varsT (zs, 0)).2).2).1, (blksT (numT (numT (varsT (zs, 0)).2).2).2).1⟩, (blksT (numT (numT (varsT (zs, 0)).2).2).2).2) := rfl
  rw [e] at he ⊢
  have h3 := stk_blks.ok he
  have h2 := stk_num.ok h3
  have h1 := stk_num.ok h2
  obtain ⟨i1, -, i2, i3⟩ := inv_count inv_var stk_var 0 48 (by omega) zs hb h1
  have i1' : zs = encL [((varsT (zs, 0)).1.length : Int)] ++ (varsT (zs, 0)).1.flatMap encVar ++ (varsT (zs, 0)).2.1 := i1
  have i2' : ((varsT (zs, 0)).1.length : Int) ≤ 48 := i2
  have i3' : ∀ x ∈ (varsT (zs, 0)).1, varMayB x = true ∧ i64R x.1 ∧ i64R x.2 := i3
  clear e i1 i2 i3
  generalize varsT (zs, 0) = a at *
  obtain ⟨vs, r1, e1⟩ := a
  simp only at *
  subst h1
  have hb1 := byt_rest hb i1'
  obtain ⟨j1, j2⟩ := inv_num r1 hb1 h2
  generalize numT (r1, 0) = a at *
  obtain ⟨pa, r2, e2⟩ := a
  simp only at *
  subst h2
  have hb2 := byt_rest hb1 j1
  obtain ⟨k1, k2⟩ := inv_num r2 hb2 h3
  generalize numT (r2, 0) = a at *
  obtain ⟨re, r3, e3⟩ := a
  simp only at *
  subst h3
  have hb3 := byt_rest hb2 k1
  obtain ⟨l1, -, l2, l3⟩ := inv_count inv_blk stk_blk 0 40 (by omega) r3 hb3 he
  have l1' : r3 = encL [((blksT (r3, 0)).1.length : Int)] ++ (blksT (r3, 0)).1.flatMap encBlk ++ (blksT (r3, 0)).2.1 := l1
  have l2' : ((blksT (r3, 0)).1.length : Int) ≤ 40 := l2
  have l3' : ∀ x ∈ (blksT (r3, 0)).1, blkCnt x = true ∧ x.all insMayB = true := l3
  clear l1 l2 l3
  generalize blksT (r3, 0) = a at *
  obtain ⟨bs, r4, e4⟩ := a
  simp only at *
  unfold numOk at j2 k2
  refine ⟨?_, ?_, ?_⟩
  · unfold encFun
    simp only [List.length_map, zip_fst]
    have e5 : encL [pa, re, (bs.length : Int)] = encL [pa] ++ encL [re] ++ encL [(bs.length : Int)] := by simp [encL]
    rw [e5]
    conv => lhs; rw [i1', j1, k1, l1']
    simp only [List.append_assoc]
  · unfold funCnt
    simp only [List.length_map, Bool.and_eq_true, decide_eq_true_eq, List.all_eq_true]
    exact ⟨by omega, by omega, fun b hb' => (l3' b hb').1⟩
  · unfold funMayB
    simp only [List.length_map, zip_fst, Bool.and_eq_true, decide_eq_true_eq, List.all_eq_true]
    refine ⟨⟨trivial, j2.1, k2.1⟩, fun x hx => (i3' x hx).1, fun b hb' x hx => ?_⟩
    have := (l3' b hb').2
    rw [List.all_eq_true] at this
    exact this x hx
/-- What is decoded has just those bytes. -/
theorem dec_enc {zs : List Int} (hb : Byt (zs, 0)) (h : (decR zs).2 = 0) : encR (decR zs).1 = (zs, 0) := by
  unfold decR at h ⊢
  by_cases he : endE (progT (zs, 0)).2 = 0
  · rw [if_pos he]
    simp only
    unfold endE at he
    split at he
    · cases he
    · rename_i h0
      obtain ⟨i1, i2, i3, i4⟩ := inv_count inv_fun stk_fun 1 8 (by omega) zs hb he
      have i1' : zs = encProg (progT (zs, 0)).1 ++ (progT (zs, 0)).2.1 := i1
      have i2' : (1 : Int) ≤ ((progT (zs, 0)).1.length : Int) := i2
      have i3' : ((progT (zs, 0)).1.length : Int) ≤ 8 := i3
      have i4' : ∀ f ∈ (progT (zs, 0)).1, funCnt f = true ∧ funMayB f = true := i4
      have hr : (progT (zs, 0)).2.1 = [] := by
        by_cases hr : 0 < (progT (zs, 0)).2.1.length
        · exact absurd ⟨he, hr⟩ h0
        · exact List.eq_nil_of_length_eq_zero (by omega)
      rw [hr, List.append_nil] at i1'
      have hc : cntB (progT (zs, 0)).1 = true := by
        unfold cntB
        rw [decide_eq_true (show 1 ≤ (progT (zs, 0)).1.length by omega), decide_eq_true (show (progT (zs, 0)).1.length ≤ 8 by omega), Bool.true_and, Bool.true_and, List.all_eq_true]
        exact fun f hf => (i4' f hf).1
      have hm : (progT (zs, 0)).1.all funMayB = true := by rw [List.all_eq_true]; exact fun f hf => (i4' f hf).2
      unfold encR
      rw [if_pos hc, if_pos hm, ← i1']
  · rw [if_neg he] at h
    exact absurd h he
end Go.Proofs.YtpggjolbohffjaaDoor
