/- Plain mathematics: what is read has just those bytes (programs); an error stays. No condition. -/
import Derived.Test.YtkimocfofihjbaaDoorMD
import Derived.Test.YtkimocfofihjbaaDoorMC
set_option linter.unusedSimpArgs false
set_option linter.unusedVariables false
namespace Go.Proofs.YtkimocfofihjbaaDoor
open Go.RowKit

/-- Behind an error nothing is read. -/
def Stk {α : Type} (T : St → α × St) : Prop := ∀ s, s.2 ≠ 0 → (T s).2 = s
theorem stk_num : Stk numT := fun s h => by unfold numT; rw [if_neg h]
theorem stk_snum : Stk snumT := fun s h => by unfold snumT; rw [if_neg h]
theorem stk_only (may : Int → Bool) (er : Nat) : Stk (onlyT may er) := fun s h => by
  unfold onlyT
  rw [stk_num s h, if_neg h]
theorem stk_var : Stk varT := fun s h => by
  unfold varT
  rw [stk_only _ _ s h]
  split
  · exact stk_num s h
  · rfl
theorem stk_many {α : Type} {T : St → α × St} (h : Stk T) : ∀ n, Stk (manyT T n)
  | 0 => fun _ _ => rfl
  | n + 1 => fun s hs => by rw [manyT_st, stk_many h n s hs, h s hs]
theorem stk_list : Stk listT := fun s h => by
  unfold listT
  have h1 := stk_only (limB 0 4) 9 s h
  unfold cntT
  rw [h1]; exact stk_many stk_num _ s h
theorem stk_part (c : Nat) (p : InsV × St) (h : p.2.2 ≠ 0) : (partT p c).2 = p.2 := by
  unfold partT
  split
  · exact stk_snum _ h
  · split
    · exact stk_list _ h
    · exact stk_num _ h
theorem stk_fold : ∀ (ls : List Nat) (p : InsV × St), p.2.2 ≠ 0 → (ls.foldl partT p).2 = p.2
  | [], _, _ => rfl
  | c :: cs, p, h => by
    rw [List.foldl_cons, stk_fold cs _ (by rw [stk_part c p h]; exact h), stk_part c p h]
theorem stk_ins : Stk insT := fun s h => by
  unfold insT
  have h1 := stk_only isOpB 5 s h
  rw [stk_fold _ _ (by simp only; rw [h1]; exact h)]
  exact h1
theorem stk_blk : Stk blkT := fun s h => by
  unfold blkT
  have h1 := stk_only (limB 0 40) 9 s h
  unfold cntT
  rw [h1]; exact stk_many stk_ins _ s h
theorem stk_vars : Stk varsT := fun s h => by
  unfold varsT
  have h1 := stk_only (limB 0 48) 9 s h
  unfold cntT
  rw [h1]; exact stk_many stk_var _ s h
theorem stk_blks : Stk blksT := fun s h => by
  unfold blksT
  have h1 := stk_only (limB 0 40) 9 s h
  unfold cntT
  rw [h1]; exact stk_many stk_blk _ s h
theorem stk_fun : Stk funT := fun s h => by
  show (blksT (numT (numT (varsT s).2).2).2).2 = s
  rw [stk_vars s h, stk_num s h, stk_num s h, stk_blks s h]
theorem Stk.ok {α : Type} {T : St → α × St} (h : Stk T) {s : St} (he : (T s).2.2 = 0) : s.2 = 0 := by
  by_cases hs : s.2 = 0
  · exact hs
  · rw [h s hs] at he; exact absurd he hs

/-- What is read without an error has just those bytes. -/
def Inv {α : Type} (T : St → α × St) (en : α → List Int) (ok : α → Prop) : Prop :=
  ∀ zs, Byt (zs, 0) → (T (zs, 0)).2.2 = 0 → zs = en (T (zs, 0)).1 ++ (T (zs, 0)).2.1 ∧ ok (T (zs, 0)).1
theorem byt_rest {zs a b : List Int} (h : Byt (zs, 0)) (e : zs = a ++ b) : Byt (b, 0) := fun z hz => h z (by rw [e]; simp [show z ∈ b from hz])
def numOk (v : Int) : Prop := 0 ≤ v ∧ v ≤ 9223372036854775807
theorem encL_one {v : Int} (h : 0 ≤ v) : encL [v] = enc v.toNat := by
  unfold encL encI
  simp only [List.flatMap_cons, List.flatMap_nil, List.append_nil]
  rw [if_neg (by omega)]
theorem inv_num : Inv numT (fun v => encL [v]) numOk := fun zs hb he => by
  have hR := numT_R hb
  refine ⟨?_, hR⟩
  show zs = encL [(numT (zs, 0)).1] ++ (numT (zs, 0)).2.1
  rw [encL_one hR.1]
  unfold numT at he ⊢
  simp only [if_true] at he ⊢
  obtain ⟨v, e1, e2, -, -, e4, -⟩ := rd_back 9 zs 0 0 hb he
  have e1' : (rd 9 0 0 zs).1 = v := by simpa using e1
  have e2' : (rd 9 0 0 zs).2.1 = (enc v).length := by simpa using e2
  rw [e1', e2', Int.toNat_natCast]
  rw [← e4, List.length_take]
  conv => lhs; rw [← List.take_append_drop (enc v).length zs]
  congr 1
  congr 1
  have := congrArg List.length e4
  simp at this
  omega
theorem inv_snum : Inv snumT (fun v => enc (zz v)) i64R := fun zs hb he => by
  have hR := snumT_R hb
  refine ⟨?_, hR⟩
  show zs = enc (zz (snumT (zs, 0)).1) ++ (snumT (zs, 0)).2.1
  unfold snumT at he ⊢
  simp only [if_true] at he ⊢
  obtain ⟨v, e1, e2, -, -, e4, -⟩ := rd_back 10 zs 0 0 hb he
  have e1' : (rd 10 0 0 zs).1 = v := by simpa using e1
  have e2' : (rd 10 0 0 zs).2.1 = (enc v).length := by simpa using e2
  rw [e1', e2', zz_unz]
  rw [← e4, List.length_take]
  conv => lhs; rw [← List.take_append_drop (enc v).length zs]
  congr 1
  congr 1
  have := congrArg List.length e4
  simp at this
  omega
theorem inv_only (may : Int → Bool) (er : Nat) (her : er ≠ 0) : Inv (onlyT may er) (fun v => encL [v]) (fun v => numOk v ∧ may v = true) := fun zs hb he => by
  by_cases h0 : (numT (zs, 0)).2.2 = 0
  · by_cases hm : may (numT (zs, 0)).1 = true
    · have e : onlyT may er (zs, 0) = numT (zs, 0) := by unfold onlyT; rw [if_pos h0, if_pos hm]
      have := inv_num zs hb h0
      rw [e]
      exact ⟨this.1, this.2, hm⟩
    · have e : onlyT may er (zs, 0) = (0, ((numT (zs, 0)).2.1, er)) := by unfold onlyT; rw [if_pos h0, if_neg hm]
      rw [e] at he
      exact absurd he her
  · have e : onlyT may er (zs, 0) = (0, (numT (zs, 0)).2) := by unfold onlyT; rw [if_neg h0]
    rw [e] at he
    exact absurd he h0
theorem inv_var : Inv varT encVar (fun kb => varMayB kb = true ∧ i64R kb.1 ∧ i64R kb.2) := fun zs hb he => by
  by_cases h2 : (onlyT kindB 5 (zs, 0)).1 = 2
  · have e : varT (zs, 0) = ((2, (numT (onlyT kindB 5 (zs, 0)).2).1), (numT (onlyT kindB 5 (zs, 0)).2).2) := by unfold varT; rw [if_pos h2]
    rw [e] at he ⊢
    have h0 := stk_num.ok he
    obtain ⟨i1, -⟩ := inv_only kindB 5 (by omega) zs hb h0
    clear e
    generalize onlyT kindB 5 (zs, 0) = r at *
    obtain ⟨r1, r2, r3⟩ := r
    simp only at he h0 h2 i1 ⊢
    subst h0 h2
    have hb2 := byt_rest hb i1
    obtain ⟨i2, i3⟩ := inv_num r2 hb2 he
    refine ⟨?_, ?_, by unfold i64R; simp, by unfold i64R; unfold numOk at i3; omega⟩
    · rw [i1]
      conv => lhs; rw [i2]
      simp [encVar]
    · unfold varMayB baseB
      simp [kindB, i3.1]
  · have e : varT (zs, 0) = (((onlyT kindB 5 (zs, 0)).1, -1), (onlyT kindB 5 (zs, 0)).2) := by unfold varT; rw [if_neg h2]
    rw [e] at he ⊢
    obtain ⟨i1, i2, i3⟩ := inv_only kindB 5 (by omega) zs hb he
    unfold numOk at i2
    refine ⟨?_, ?_, by unfold i64R; simp only; omega, by unfold i64R; simp⟩
    · simp only [encVar, if_neg h2, List.append_nil]; exact i1
    · unfold varMayB baseB
      simp only [i3, if_neg h2]; rfl
theorem inv_many {α : Type} {T : St → α × St} {en : α → List Int} {ok : α → Prop} (h : Inv T en ok) (hs : Stk T) : ∀ n, Inv (manyT T n) (fun l => l.flatMap en) (fun l => ∀ x ∈ l, ok x)
  | 0 => fun zs _ _ => ⟨by simp [manyT], by simp [manyT]⟩
  | n + 1 => fun zs hb he => by
    rw [manyT_st] at he ⊢
    rw [manyT_ls]
    have h0 := hs.ok he
    obtain ⟨i1, i2⟩ := inv_many h hs n zs hb h0
    generalize manyT T n (zs, 0) = r at *
    obtain ⟨l, r2, r3⟩ := r
    simp only at *
    subst h0
    obtain ⟨i3, i4⟩ := h r2 (byt_rest hb i1) he
    refine ⟨?_, fun x hx => ?_⟩
    · rw [i1]
      conv => lhs; rw [i3]
      simp
    · rcases List.mem_append.1 hx with hx | hx
      · exact i2 x hx
      · simp at hx; rw [hx]; exact i4
theorem cnt_nat {lo hi : Int} {s : St} (h : Byt s) (hh : 0 ≤ hi) : ((cntT lo hi s).1.toNat : Int) = (cntT lo hi s).1 := by
  have := cntT_R (lo := lo) (hi := hi) h hh
  omega
/-- A counted list. -/
theorem inv_count {α : Type} {T : St → α × St} {en : α → List Int} {ok : α → Prop} (h : Inv T en ok) (hs : Stk T) (lo hi : Int) (hh : 0 ≤ hi) :
    Inv (fun s => manyT T (cntT lo hi s).1.toNat (cntT lo hi s).2) (fun l => encL [(l.length : Int)] ++ l.flatMap en) (fun l => lo ≤ (l.length : Int) ∧ (l.length : Int) ≤ hi ∧ ∀ x ∈ l, ok x) := fun zs hb he => by
  simp only at he ⊢
  have h0 := (stk_many hs _).ok he
  obtain ⟨i1, i2, i3⟩ := inv_only (limB lo hi) 9 (by omega) zs hb h0
  have hn := cnt_nat (lo := lo) (s := (zs, 0)) hb hh
  unfold cntT at he hn h0 ⊢
  rw [manyT_len, hn]
  generalize onlyT (limB lo hi) 9 (zs, 0) = r at *
  obtain ⟨n, r2, r3⟩ := r
  simp only at *
  subst h0
  obtain ⟨i4, i5⟩ := inv_many h hs n.toNat r2 (byt_rest hb i1) he
  simp only [limB, Bool.and_eq_true, decide_eq_true_eq] at i3
  refine ⟨?_, i3.1, i3.2, i5⟩
  rw [i1]
  conv => lhs; rw [i4]
  simp
theorem inv_list : Inv listT (fun l => encL [(l.length : Int)] ++ encL l) (fun l => (l.length : Int) ≤ 4 ∧ ∀ z ∈ l, numOk z) := fun zs hb he => by
  obtain ⟨i1, -, i2, i3⟩ := inv_count inv_num stk_num 0 4 (by omega) zs hb he
  refine ⟨?_, i2, i3⟩
  have e : ∀ l : List Int, l.flatMap (fun v => encL [v]) = encL l := fun l => by
    induction l with
    | nil => rfl
    | cons a l ih => rw [List.flatMap_cons, ih]; simp [encL]
  have i1' : zs = encL [((listT (zs, 0)).1.length : Int)] ++ (listT (zs, 0)).1.flatMap (fun v => encL [v]) ++ (listT (zs, 0)).2.1 := i1
  rw [e] at i1'
  exact i1'
end Go.Proofs.YtkimocfofihjbaaDoor
namespace Go.Proofs.YtkimocfofihjbaaDoor
open Go.RowKit

def fkey (c : Nat) : Nat := if c = 110 then 4 else if c = 76 then 6 else fidx c
def agr (k : Nat) (x y : InsV) : Prop := match k with
  | 1 => x.d = y.d
  | 2 => x.a = y.a
  | 3 => x.b = y.b
  | 4 => x.n = y.n
  | 5 => x.m = y.m
  | 6 => x.args = y.args
  | _ => True
theorem agr_refl (k : Nat) (x : InsV) : agr k x x := by unfold agr; split <;> trivial
theorem agr_trans {k : Nat} {x y z : InsV} (h : agr k x y) (h2 : agr k y z) : agr k x z := by
  unfold agr at *
  split <;> simp_all
def okP (x : InsV) (c : Nat) : Prop := if c = 110 then True else if c = 76 then ∀ z ∈ x.args, 0 ≤ z else 0 ≤ fieldOf c x
theorem encPart_agr {c : Nat} (hc : isLetter c) {x y : InsV} (h : agr (fkey c) x y) : encPart x c = encPart y c := by
  unfold isLetter at hc
  rcases hc with rfl | rfl | rfl | rfl | rfl | rfl | rfl <;> simp [fkey, fidx, agr] at h <;> simp [encPart, fieldOf, h]
theorem okP_agr {c : Nat} (hc : isLetter c) {x y : InsV} (h : agr (fkey c) x y) (ho : okP y c) : okP x c := by
  unfold isLetter at hc
  rcases hc with rfl | rfl | rfl | rfl | rfl | rfl | rfl <;> simp [fkey, fidx, agr] at h <;> simp [okP, fieldOf, h] at ho ⊢ <;> exact ho
theorem part_inv {c : Nat} (hc : isLetter c) (x : InsV) (zs : List Int) (hb : Byt (zs, 0)) (he : (partT (x, (zs, 0)) c).2.2 = 0) :
    zs = encPart (partT (x, (zs, 0)) c).1 c ++ (partT (x, (zs, 0)) c).2.1 ∧ okP (partT (x, (zs, 0)) c).1 c ∧ (∀ k, k ≠ fkey c → agr k (partT (x, (zs, 0)) c).1 x) ∧ (partT (x, (zs, 0)) c).1.op = x.op := by
  have hnum : ∀ c', c' ≠ 110 → c' ≠ 76 → isLetter c' → (numT (zs, 0)).2.2 = 0 → zs = encPart (setF c' (numT (zs, 0)).1 x) c' ++ (numT (zs, 0)).2.1 ∧ okP (setF c' (numT (zs, 0)).1 x) c' ∧ (∀ k, k ≠ fkey c' → agr k (setF c' (numT (zs, 0)).1 x) x) ∧ (setF c' (numT (zs, 0)).1 x).op = x.op := fun c' h1 h2 hl h0 => by
    obtain ⟨i1, i2⟩ := inv_num zs hb h0
    generalize numT (zs, 0) = r at *
    obtain ⟨v, r2⟩ := r
    unfold numOk at i2
    simp only at i1 i2 ⊢
    have hf : ∀ x : InsV, encPart x c' = encL [fieldOf c' x] := fun x => by unfold encPart; rw [if_neg h1, if_neg h2]
    have hfs : fieldOf c' (setF c' v x) = v := by
      unfold isLetter at hl
      rcases hl with rfl | rfl | rfl | rfl | rfl | rfl | rfl <;> simp [fieldOf, setF]
    refine ⟨by rw [hf, hfs]; exact i1, by unfold okP; rw [if_neg h1, if_neg h2, hfs]; exact i2.1, fun k hk => ?_, ?_⟩
    · unfold isLetter at hl
      rcases hl with rfl | rfl | rfl | rfl | rfl | rfl | rfl <;> simp [fkey, fidx] at hk <;> simp only [setF] <;> unfold agr <;> split <;> simp_all
    · unfold setF; repeat' split
      all_goals rfl
  by_cases h1 : c = 110
  · subst h1
    rw [part_n] at he ⊢
    obtain ⟨i1, i2⟩ := inv_snum zs hb he
    exact ⟨i1, by simp [okP], fun k hk => by clear i1 i2 he hnum hb; simp [fkey] at hk; unfold agr; split <;> first | rfl | trivial | (exact absurd rfl hk), rfl⟩
  · by_cases h2 : c = 76
    · subst h2
      rw [part_l] at he ⊢
      obtain ⟨i1, i2⟩ := inv_list zs hb he
      exact ⟨i1, by simp only [okP]; exact fun z hz => (i2.2 z hz).1, fun k hk => by clear i1 i2 he hnum hb; simp [fkey] at hk; unfold agr; split <;> first | rfl | trivial | (exact absurd rfl hk), rfl⟩
    · rw [part_num h1 h2] at he ⊢
      exact hnum c h1 h2 hc he
theorem fold_inv : ∀ (ls : List Nat) (x : InsV) (zs : List Int), (∀ c ∈ ls, isLetter c) → (ls.map fkey).Nodup → Byt (zs, 0) → (ls.foldl partT (x, (zs, 0))).2.2 = 0 →
    zs = ls.flatMap (encPart (ls.foldl partT (x, (zs, 0))).1) ++ (ls.foldl partT (x, (zs, 0))).2.1 ∧ (∀ c ∈ ls, okP (ls.foldl partT (x, (zs, 0))).1 c) ∧ (∀ k, k ∉ ls.map fkey → agr k (ls.foldl partT (x, (zs, 0))).1 x) ∧ (ls.foldl partT (x, (zs, 0))).1.op = x.op
  | [], x, zs, _, _, _, _ => ⟨by simp, by simp, fun k _ => agr_refl k x, rfl⟩
  | c :: cs, x, zs, hl, hn, hb, he => by
    rw [List.foldl_cons] at he ⊢
    have hlc := hl c (by simp)
    rw [List.map_cons, List.nodup_cons] at hn
    have h0 : (partT (x, (zs, 0)) c).2.2 = 0 := by
      by_cases hh : (partT (x, (zs, 0)) c).2.2 = 0
      · exact hh
      · rw [stk_fold cs _ hh] at he; exact absurd he hh
    obtain ⟨i1, i2, i3, i4⟩ := part_inv hlc x zs hb h0
    generalize partT (x, (zs, 0)) c = p at *
    obtain ⟨y, r, e⟩ := p
    simp only at i1 i2 i3 i4 h0
    subst h0
    obtain ⟨j1, j2, j3, j4⟩ := fold_inv cs y r (fun c' hc' => hl c' (by simp [hc'])) hn.2 (byt_rest hb i1) he
    generalize cs.foldl partT (y, (r, 0)) = q at *
    obtain ⟨z, r2, e2⟩ := q
    simp only at *
    have ha := j3 (fkey c) hn.1
    refine ⟨?_, fun c' hc' => ?_, fun k hk => ?_, by rw [j4, i4]⟩
    · rw [List.flatMap_cons, encPart_agr hlc ha, List.append_assoc, ← j1]; exact i1
    · rcases List.mem_cons.1 hc' with rfl | hc'
      · exact okP_agr hlc ha i2
      · exact j2 c' hc'
    · rw [List.map_cons, List.mem_cons, not_or] at hk
      exact agr_trans (j3 k hk.2) (i3 k hk.1)
theorem parts_nodup (op : Int) : ((partsN op).map fkey).Nodup := by
  unfold partsN
  split
  · simp
  · by_cases h : op.toNat < partsT.length
    · rw [List.getD, List.getElem?_eq_getElem h]
      have : ∀ l ∈ partsT, (l.map fkey).Nodup := by decide
      exact this _ (List.getElem_mem h)
    · rw [List.getD, List.getElem?_eq_none (by omega)]; simp
/-- All is well with an instruction whose parts may be put, and which has nothing beside. -/
theorem mayL_of (x : InsV) : ∀ (ls : List Nat) (r : InsV), (∀ c ∈ ls, isLetter c) → (ls.map fkey).Nodup → (∀ c ∈ ls, okP x c) → (∀ k, k ∈ ls.map fkey → agr k r x) → (∀ k, k ∉ ls.map fkey → agr k r (bare x.op)) → r.op = x.op → mayL x ls r = true
  | [], r, _, _, _, _, hz, ho => by
    have h1 := hz 1 (by simp); have h2 := hz 2 (by simp); have h3 := hz 3 (by simp); have h4 := hz 4 (by simp); have h5 := hz 5 (by simp); have h6 := hz 6 (by simp)
    obtain ⟨o, d, a, b, n, m, l⟩ := r
    simp only [agr, bare] at h1 h2 h3 h4 h5 h6 ho
    simp [mayL, bare, h1, h2, h3, h4, h5, h6, ho]
  | c :: cs, r, hl, hn, hok, ha, hz, ho => by
    have hlc := hl c (by simp)
    rw [List.map_cons, List.nodup_cons] at hn
    have hokc := hok c (by simp)
    have hac := ha (fkey c) (by simp)
    have step : ∀ r', (∀ k, k ≠ fkey c → agr k r' r) → agr (fkey c) r' (bare x.op) → r'.op = x.op → mayL x cs r' = true := fun r' g1 g2 g3 =>
      mayL_of x cs r' (fun c' h => hl c' (by simp [h])) hn.2 (fun c' h => hok c' (by simp [h])) (fun k hk => agr_trans (g1 k (fun e => hn.1 (e ▸ hk))) (ha k (by rw [List.map_cons]; simp [hk])))
        (fun k hk => by
          by_cases e : k = fkey c
          · rw [e]; exact g2
          · exact agr_trans (g1 k e) (hz k (by rw [List.map_cons, List.mem_cons, not_or]; exact ⟨e, hk⟩))) g3
    unfold isLetter at hlc
    rcases hlc with rfl | rfl | rfl | rfl | rfl | rfl | rfl
    all_goals simp [okP, fieldOf, fkey, fidx, agr] at hokc hac
    all_goals simp only [mayL, if_true]
    all_goals try simp [fieldOf, setF, hac, hokc]
    all_goals first
      | refine step _ (fun k hk => ?_) ?_ ho
      | refine ⟨hokc, step _ (fun k hk => ?_) ?_ ho⟩
    all_goals first
      | (simp [fkey, fidx] at hk; unfold agr; split <;> simp_all; done)
      | (simp [fkey, fidx, agr, bare]; done)
theorem cnt_le {lo hi : Int} {s : St} (hh : 0 ≤ hi) : (cntT lo hi s).1 ≤ hi := by
  unfold cntT onlyT
  split
  · split
    · rename_i h2 h3
      simp only [limB, Bool.and_eq_true, decide_eq_true_eq] at h3
      exact h3.2
    · exact hh
  · exact hh
theorem part_few (p : InsV × St) (c : Nat) (h : p.1.args.length ≤ 4) : (partT p c).1.args.length ≤ 4 := by
  unfold partT
  split
  · exact h
  · split
    · show (listT p.2).1.length ≤ 4
      unfold listT
      rw [manyT_len]
      have := cnt_le (lo := 0) (hi := 4) (s := p.2) (by omega)
      omega
    · unfold setF
      repeat' split
      all_goals exact h
theorem fold_few : ∀ (ls : List Nat) (p : InsV × St), p.1.args.length ≤ 4 → (ls.foldl partT p).1.args.length ≤ 4
  | [], _, h => h
  | c :: cs, p, h => fold_few cs _ (part_few p c h)
theorem inv_ins : Inv insT encIns (fun x => insMayB x = true ∧ x.args.length ≤ 4) := fun zs hb he => by
  unfold insT at he ⊢
  have h0 : (onlyT isOpB 5 (zs, 0)).2.2 = 0 := by
    by_cases hh : (onlyT isOpB 5 (zs, 0)).2.2 = 0
    · exact hh
    · rw [stk_fold _ _ hh] at he; exact absurd he hh
  obtain ⟨i1, i2, i3⟩ := inv_only isOpB 5 (by omega) zs hb h0
  generalize onlyT isOpB 5 (zs, 0) = p at *
  obtain ⟨op, r, e⟩ := p
  simp only at i1 i2 i3 h0 he ⊢
  subst h0
  have hb2 := byt_rest hb i1
  obtain ⟨j1, j2, j3, j4⟩ := fold_inv (partsN op) (bare op) r (partsN_letter op) (parts_nodup op) hb2 he
  have hf := fold_few (partsN op) (bare op, (r, 0)) (by simp [bare])
  generalize (partsN op).foldl partT (bare op, (r, 0)) = q at *
  obtain ⟨x, r2, e2⟩ := q
  simp only at *
  have hop : x.op = op := j4
  refine ⟨?_, ?_, hf⟩
  · unfold encIns
    rw [hop, List.append_assoc, ← j1]; exact i1
  · unfold insMayB
    rw [hop, mayL_of x (partsN op) x (partsN_letter op) (parts_nodup op) j2 (fun k _ => agr_refl k x) (fun k hk => by rw [hop]; exact j3 k hk) rfl, Bool.and_true]
    exact i3
theorem inv_blk : Inv blkT encBlk (fun b => blkCnt b = true ∧ b.all insMayB = true) := fun zs hb he => by
  obtain ⟨i1, -, i2, i3⟩ := inv_count inv_ins stk_ins 0 40 (by omega) zs hb he
  refine ⟨i1, ?_, ?_⟩
  · have h1 : (blkT (zs, 0)).1.length ≤ 40 := by have : ((blkT (zs, 0)).1.length : Int) ≤ 40 := i2; omega
    unfold blkCnt
    rw [decide_eq_true h1, Bool.true_and, List.all_eq_true]
    intro x hx
    unfold insCnt
    rw [decide_eq_true (i3 x hx).2, Bool.or_true]
  · rw [List.all_eq_true]; exact fun x hx => (i3 x hx).1
theorem zip_fst : ∀ l : List (Int × Int), (l.map (·.1)).zip (l.map (·.2)) = l
  | [] => rfl
  | a :: l => by rw [List.map_cons, List.map_cons, List.zip_cons_cons, zip_fst l]
theorem inv_fun : Inv funT encFun (fun f => funCnt f = true ∧ funMayB f = true) := fun zs hb he => by
  have e : funT (zs, 0) = (⟨(varsT (zs, 0)).1.map (·.1), (varsT (zs, 0)).1.map (·.2), (numT (varsT (zs, 0)).2).1, (numT (numT (varsT (zs, 0)).2).2).1, (blksT (numT (numT (varsT (zs, 0)).2).2).2).1⟩, (blksT (numT (numT (varsT (zs, 0)).2).2).2).2) := rfl
  rw [e] at he ⊢
  have h3 := stk_blks.ok he
  have h2 := stk_num.ok h3
  have h1 := stk_num.ok h2
  obtain ⟨i1, -, i2, i3⟩ := inv_count inv_var stk_var 0 48 (by omega) zs hb h1
  have i1' : zs = encL [((varsT (zs, 0)).1.length : Int)] ++ (varsT (zs, 0)).1.flatMap encVar ++ (varsT (zs, 0)).2.1 := i1
  have i2' : ((varsT (zs, 0)).1.length : Int) ≤ 48 := i2
  have i3' : ∀ x ∈ (varsT (zs, 0)).1, varMayB x = true ∧ i64R x.1 ∧ i64R x.2 := i3
  clear e i1 i2 i3
  generalize varsT (zs, 0) = a at *
  obtain ⟨vs, r1, e1⟩ := a
  simp only at *
  subst h1
  have hb1 := byt_rest hb i1'
  obtain ⟨j1, j2⟩ := inv_num r1 hb1 h2
  generalize numT (r1, 0) = a at *
  obtain ⟨pa, r2, e2⟩ := a
  simp only at *
  subst h2
  have hb2 := byt_rest hb1 j1
  obtain ⟨k1, k2⟩ := inv_num r2 hb2 h3
  generalize numT (r2, 0) = a at *
  obtain ⟨re, r3, e3⟩ := a
  simp only at *
  subst h3
  have hb3 := byt_rest hb2 k1
  obtain ⟨l1, -, l2, l3⟩ := inv_count inv_blk stk_blk 0 40 (by omega) r3 hb3 he
  have l1' : r3 = encL [((blksT (r3, 0)).1.length : Int)] ++ (blksT (r3, 0)).1.flatMap encBlk ++ (blksT (r3, 0)).2.1 := l1
  have l2' : ((blksT (r3, 0)).1.length : Int) ≤ 40 := l2
  have l3' : ∀ x ∈ (blksT (r3, 0)).1, blkCnt x = true ∧ x.all insMayB = true := l3
  clear l1 l2 l3
  generalize blksT (r3, 0) = a at *
  obtain ⟨bs, r4, e4⟩ := a
  simp only at *
  unfold numOk at j2 k2
  refine ⟨?_, ?_, ?_⟩
  · unfold encFun
    simp only [List.length_map, zip_fst]
    have e5 : encL [pa, re, (bs.length : Int)] = encL [pa] ++ encL [re] ++ encL [(bs.length : Int)] := by simp [encL]
    rw [e5]
    conv => lhs; rw [i1', j1, k1, l1']
    simp only [List.append_assoc]
  · unfold funCnt
    simp only [List.length_map, Bool.and_eq_true, decide_eq_true_eq, List.all_eq_true]
    exact ⟨by omega, by omega, fun b hb' => (l3' b hb').1⟩
  · unfold funMayB
    simp only [List.length_map, zip_fst, Bool.and_eq_true, decide_eq_true_eq, List.all_eq_true]
    refine ⟨⟨trivial, j2.1, k2.1⟩, fun x hx => (i3' x hx).1, fun b hb' x hx => ?_⟩
    have := (l3' b hb').2
    rw [List.all_eq_true] at this
    exact this x hx
/-- What is decoded has just those bytes. -/
theorem dec_enc {zs : List Int} (hb : Byt (zs, 0)) (h : (decR zs).2 = 0) : encR (decR zs).1 = (zs, 0) := by
  unfold decR at h ⊢
  by_cases he : endE (progT (zs, 0)).2 = 0
  · rw [if_pos he]
    simp only
    unfold endE at he
    split at he
    · cases he
    · rename_i h0
      obtain ⟨i1, i2, i3, i4⟩ := inv_count inv_fun stk_fun 1 8 (by omega) zs hb he
      have i1' : zs = encProg (progT (zs, 0)).1 ++ (progT (zs, 0)).2.1 := i1
      have i2' : (1 : Int) ≤ ((progT (zs, 0)).1.length : Int) := i2
      have i3' : ((progT (zs, 0)).1.length : Int) ≤ 8 := i3
      have i4' : ∀ f ∈ (progT (zs, 0)).1, funCnt f = true ∧ funMayB f = true := i4
      have hr : (progT (zs, 0)).2.1 = [] := by
        by_cases hr : 0 < (progT (zs, 0)).2.1.length
        · exact absurd ⟨he, hr⟩ h0
        · exact List.eq_nil_of_length_eq_zero (by omega)
      rw [hr, List.append_nil] at i1'
      have hc : cntB (progT (zs, 0)).1 = true := by
        unfold cntB
        rw [decide_eq_true (show 1 ≤ (progT (zs, 0)).1.length by omega), decide_eq_true (show (progT (zs, 0)).1.length ≤ 8 by omega), Bool.true_and, Bool.true_and, List.all_eq_true]
        exact fun f hf => (i4' f hf).1
      have hm : (progT (zs, 0)).1.all funMayB = true := by rw [List.all_eq_true]; exact fun f hf => (i4' f hf).2
      unfold encR
      rw [if_pos hc, if_pos hm, ← i1']
  · rw [if_neg he] at h
    exact absurd h he
end Go.Proofs.YtkimocfofihjbaaDoor
namespace Go.Proofs.YtkimocfofihjbaaDoor
open Go.RowKit

def Fwd {α : Type} (T : St → α × St) (en : α → List Int) (ok : α → Prop) : Prop := ∀ v tail, ok v → T (en v ++ tail, 0) = (v, (tail, 0))
theorem fwd_num : Fwd numT (fun v => encL [v]) numOk := fun v tail h => by
  unfold numOk at h
  obtain ⟨m, rfl⟩ : ∃ m : Nat, v = m := ⟨v.toNat, by omega⟩
  simp only [encL_one h.1, Int.toNat_natCast]
  unfold numT
  simp only [if_true]
  rw [rd_put' m tail (by omega)]
  simp
theorem fwd_snum : Fwd snumT (fun v => enc (zz v)) i64R := fun v tail h => by
  have hl := enc_len10 (zz_lt h)
  have e : rd 10 0 0 (enc (zz v) ++ tail) = (zz v, (enc (zz v)).length, 0) := by
    have := zz_lt h
    rw [rd_enc 10 (by omega) tail (zz v) (zz v) 0 0 (Nat.le_refl _) (by omega) (by omega) (by simpa using this)]
    simp
  unfold snumT
  simp only [if_true]
  rw [e]
  simp [unz_zz]
theorem fwd_only (may : Int → Bool) (er : Nat) : Fwd (onlyT may er) (fun v => encL [v]) (fun v => numOk v ∧ may v = true) := fun v tail h => by
  have e := fwd_num v tail h.1
  simp only at e
  unfold onlyT
  simp only [e, if_true, h.2]
theorem fwd_var : Fwd varT encVar (fun kb => varMayB kb = true ∧ i64R kb.1 ∧ i64R kb.2) := fun kb tail h => by
  obtain ⟨k, b⟩ := kb
  obtain ⟨h1, h2, h3⟩ := h
  simp only [varMayB, Bool.and_eq_true] at h1
  unfold i64R at h2 h3
  have hk : numOk k := by
    have := h1.1
    simp [kindB] at this
    unfold numOk; omega
  by_cases h2' : k = 2
  · subst h2'
    have hb : 0 ≤ b := by have := h1.2; simpa [baseB] using this
    have e1 := fwd_only kindB 5 2 (encL [b] ++ tail) ⟨hk, rfl⟩
    have e2 := fwd_num b tail ⟨hb, h3.2⟩
    simp only [encVar, if_true, List.append_assoc]
    unfold varT
    simp only at e1 e2
    simp only [e1, if_true, e2]
  · have hb : b = -1 := by have := h1.2; simpa [baseB, h2'] using this
    subst hb
    have e1 := fwd_only kindB 5 k tail ⟨hk, h1.1⟩
    simp only at e1
    simp only [encVar, if_neg h2', List.append_nil]
    unfold varT
    simp only [e1, if_neg h2']
theorem fwd_many {α : Type} {T : St → α × St} {en : α → List Int} {ok : α → Prop} (h : Fwd T en ok) (l : List α) (tail : List Int) (hl : ∀ x ∈ l, ok x) : ∀ k, k ≤ l.length → manyT T k (l.flatMap en ++ tail, 0) = (l.take k, ((l.drop k).flatMap en ++ tail, 0))
  | 0, _ => by simp [manyT]
  | k + 1, hk => by
    obtain ⟨x, hx⟩ : ∃ x, l[k]? = some x := ⟨_, List.getElem?_eq_getElem (by omega)⟩
    have ih := fwd_many h l tail hl k (by omega)
    have e := h x ((l.drop (k + 1)).flatMap en ++ tail) (hl x (List.mem_of_getElem? hx))
    unfold manyT
    rw [ih]
    simp only [drop_cons hx, List.flatMap_cons, List.append_assoc, e]
    rw [List.take_add_one, hx]; rfl
theorem fwd_all {α : Type} {T : St → α × St} {en : α → List Int} {ok : α → Prop} (h : Fwd T en ok) (l : List α) (tail : List Int) (hl : ∀ x ∈ l, ok x) : manyT T l.length (l.flatMap en ++ tail, 0) = (l, (tail, 0)) := by
  rw [fwd_many h l tail hl l.length (Nat.le_refl _), List.take_of_length_le (Nat.le_refl _), List.drop_of_length_le (Nat.le_refl _)]; rfl
theorem fwd_count {α : Type} {T : St → α × St} {en : α → List Int} {ok : α → Prop} (h : Fwd T en ok) (lo hi : Int) (hh : hi ≤ 100) :
    Fwd (fun s => manyT T (cntT lo hi s).1.toNat (cntT lo hi s).2) (fun l => encL [(l.length : Int)] ++ l.flatMap en) (fun l => lo ≤ (l.length : Int) ∧ (l.length : Int) ≤ hi ∧ ∀ x ∈ l, ok x) := fun l tail hl => by
  obtain ⟨h1, h2, h3⟩ := hl
  have e := fwd_only (limB lo hi) 9 (l.length : Int) (l.flatMap en ++ tail) ⟨by unfold numOk; omega, by simp [limB, h1, h2]⟩
  simp only at e
  unfold cntT
  simp only [List.append_assoc, e, Int.toNat_natCast]
  exact fwd_all h l tail h3
theorem flat_one (l : List Int) : l.flatMap (fun v => encL [v]) = encL l := by
  induction l with
  | nil => rfl
  | cons a l ih => rw [List.flatMap_cons, ih]; simp [encL]
theorem fwd_list : Fwd listT (fun l => encL [(l.length : Int)] ++ encL l) (fun l => (l.length : Int) ≤ 4 ∧ ∀ z ∈ l, numOk z) := fun l tail h => by
  have e := fwd_count fwd_num 0 4 (by omega) l tail ⟨by omega, h.1, h.2⟩
  simp only [flat_one] at e
  exact e

/-- A part that may be put, in range. -/
def okR (x : InsV) (c : Nat) : Prop := if c = 110 then i64R x.n else if c = 76 then (x.args.length : Int) ≤ 4 ∧ ∀ z ∈ x.args, numOk z else numOk (fieldOf c x)
theorem part_fwd {c : Nat} (hc : isLetter c) (r x : InsV) (tail : List Int) (h : okR x c) :
    ∃ y, partT (r, (encPart x c ++ tail, 0)) c = (y, (tail, 0)) ∧ agr (fkey c) y x ∧ (∀ k, k ≠ fkey c → agr k y r) ∧ y.op = r.op := by
  unfold isLetter at hc
  by_cases h1 : c = 110
  · subst h1
    have e := fwd_snum x.n tail (by simpa [okR] using h)
    refine ⟨{ r with n := x.n }, ?_, by simp [fkey, agr], fun k hk => by simp [fkey] at hk; unfold agr; split <;> first | rfl | trivial | exact absurd rfl hk, rfl⟩
    rw [part_n]
    simp only at e
    simp only [show encPart x 110 = enc (zz x.n) from rfl, e]
  · by_cases h2 : c = 76
    · subst h2
      have e := fwd_list x.args tail (by simpa [okR] using h)
      refine ⟨{ r with args := x.args }, ?_, by simp [fkey, agr], fun k hk => by simp [fkey] at hk; unfold agr; split <;> first | rfl | trivial | exact absurd rfl hk, rfl⟩
      rw [part_l]
      simp only at e
      simp only [show encPart x 76 = encL [(x.args.length : Int)] ++ encL x.args from rfl, e]
    · have e := fwd_num (fieldOf c x) tail (by simpa [okR, h1, h2] using h)
      simp only at e
      refine ⟨setF c (fieldOf c x) r, ?_, ?_, fun k hk => ?_, ?_⟩
      · rw [part_num h1 h2]
        have e2 : encPart x c = encL [fieldOf c x] := by unfold encPart; rw [if_neg h1, if_neg h2]
        simp only [e2, e]
      · rcases hc with rfl | rfl | rfl | rfl | rfl | rfl | rfl
        all_goals simp [fkey, fidx, agr, setF, fieldOf] at *
      · rcases hc with rfl | rfl | rfl | rfl | rfl | rfl | rfl
        all_goals simp [fkey, fidx] at hk h1 h2
        all_goals (simp only [setF]; unfold agr; split <;> simp_all)
      · unfold setF; repeat' split
        all_goals rfl
theorem fold_fwd (x : InsV) (tail : List Int) : ∀ (ls : List Nat) (r : InsV), (∀ c ∈ ls, isLetter c) → (ls.map fkey).Nodup → (∀ c ∈ ls, okR x c) →
    ∃ y, ls.foldl partT (r, (ls.flatMap (encPart x) ++ tail, 0)) = (y, (tail, 0)) ∧ (∀ k, k ∈ ls.map fkey → agr k y x) ∧ (∀ k, k ∉ ls.map fkey → agr k y r) ∧ y.op = r.op
  | [], r, _, _, _ => ⟨r, by simp, by simp, fun k _ => agr_refl k r, rfl⟩
  | c :: cs, r, hl, hn, ho => by
    rw [List.map_cons, List.nodup_cons] at hn
    obtain ⟨y, e, g1, g2, g3⟩ := part_fwd (hl c (by simp)) r x (cs.flatMap (encPart x) ++ tail) (ho c (by simp))
    obtain ⟨z, e2, j1, j2, j3⟩ := fold_fwd x tail cs y (fun c' h => hl c' (by simp [h])) hn.2 (fun c' h => ho c' (by simp [h]))
    refine ⟨z, ?_, fun k hk => ?_, fun k hk => ?_, j3.trans g3⟩
    · rw [List.foldl_cons, List.flatMap_cons, List.append_assoc, e, e2]
    · rw [List.map_cons, List.mem_cons] at hk
      by_cases hkc : k ∈ cs.map fkey
      · exact j1 k hkc
      · rcases hk with rfl | hk
        · exact agr_trans (j2 _ hkc) g1
        · exact absurd hk hkc
    · rw [List.map_cons, List.mem_cons, not_or] at hk
      exact agr_trans (j2 k hk.2) (g2 k hk.1)
theorem mayL_inv (x : InsV) : ∀ (ls : List Nat) (r : InsV), (∀ c ∈ ls, isLetter c) → (ls.map fkey).Nodup → (∀ k, k ∈ ls.map fkey → agr k r x) → mayL x ls r = true → (∀ c ∈ ls, okP x c) ∧ (∀ k, k ∉ ls.map fkey → agr k r (bare x.op))
  | [], r, _, _, _, h => by
    simp only [mayL, decide_eq_true_eq] at h
    exact ⟨by simp, fun k _ => by rw [h]; exact agr_refl k _⟩
  | c :: cs, r, hl, hn, ha, h => by
    have hlc := hl c (by simp)
    rw [List.map_cons, List.nodup_cons] at hn
    have hac := ha (fkey c) (by simp)
    have step : ∀ r', (∀ k, k ≠ fkey c → agr k r' r) → (∀ k, k ≠ fkey c → agr k r r') → mayL x cs r' = true → okP x c → (∀ c' ∈ c :: cs, okP x c') ∧ (∀ k, k ∉ (c :: cs).map fkey → agr k r (bare x.op)) := fun r' g1 g1' g2 g3 => by
      obtain ⟨i1, i2⟩ := mayL_inv x cs r' (fun c' h => hl c' (by simp [h])) hn.2 (fun k hk => agr_trans (g1 k (fun e => hn.1 (e ▸ hk))) (ha k (by rw [List.map_cons]; simp [hk]))) g2
      refine ⟨fun c' hc' => ?_, fun k hk => ?_⟩
      · rcases List.mem_cons.1 hc' with rfl | hc'
        · exact g3
        · exact i1 c' hc'
      · rw [List.map_cons, List.mem_cons, not_or] at hk
        exact agr_trans (g1' k hk.1) (i2 k hk.2)
    unfold isLetter at hlc
    rcases hlc with rfl | rfl | rfl | rfl | rfl | rfl | rfl
    all_goals simp only [mayL, if_true, Bool.and_eq_true] at h
    all_goals simp [fkey, fidx, agr] at hac
    all_goals try simp [fieldOf, setF, hac] at h
    all_goals first
      | refine step _ (fun k hk => ?_) (fun k hk => ?_) h.2 ?_
      | refine step _ (fun k hk => ?_) (fun k hk => ?_) h ?_
    all_goals first
      | (simp [fkey, fidx] at hk; unfold agr; split <;> first | rfl | trivial | exact absurd rfl hk)
      | (simp [okP, fieldOf]; exact h.1)
      | (simp [okP]; done)
theorem agr_ext {x y : InsV} (h : ∀ k, agr k x y) (ho : x.op = y.op) : x = y := by
  have h1 := h 1; have h2 := h 2; have h3 := h 3; have h4 := h 4; have h5 := h 5; have h6 := h 6
  obtain ⟨o, d, a, b, n, m, l⟩ := x
  obtain ⟨o', d', a', b', n', m', l'⟩ := y
  simp only [agr] at h1 h2 h3 h4 h5 h6 ho
  subst h1 h2 h3 h4 h5 h6 ho
  rfl
end Go.Proofs.YtkimocfofihjbaaDoor
namespace Go.Proofs.YtkimocfofihjbaaDoor
open Go.RowKit

theorem fwd_ins : Fwd insT encIns (fun x => insMayB x = true ∧ InsRR x ∧ x.args.length ≤ 4) := fun x tail h => by
  obtain ⟨h1, ⟨hr, hra⟩, h4⟩ := h
  simp only [insMayB, Bool.and_eq_true] at h1
  obtain ⟨hp, hm⟩ := h1
  obtain ⟨m1, m2⟩ := mayL_inv x (partsN x.op) x (partsN_letter x.op) (parts_nodup x.op) (fun k _ => agr_refl k x) hm
  have hopn : numOk x.op := by
    have : 0 ≤ x.op := by
      by_cases h0 : x.op < 0
      · unfold partsN at hp; rw [if_pos h0] at hp; cases hp
      · omega
    have := hr.1.2
    unfold numOk; omega
  have hok : ∀ c ∈ partsN x.op, okR x c := fun c hc => by
    have := m1 c hc
    unfold okP at this
    unfold okR
    split
    · exact hr.2.2.2.2.1
    · rename_i h1
      rw [if_neg h1] at this
      split
      · rename_i h2
        rw [if_pos h2] at this
        exact ⟨by omega, fun z hz => ⟨this z hz, (hra z hz).2⟩⟩
      · rename_i h2
        rw [if_neg h2] at this
        exact ⟨this, (fieldOf_R hr c).2⟩
  have e := fwd_only isOpB 5 x.op ((partsN x.op).flatMap (encPart x) ++ tail) ⟨hopn, hp⟩
  obtain ⟨y, e2, j1, j2, j3⟩ := fold_fwd x tail (partsN x.op) (bare x.op) (partsN_letter x.op) (parts_nodup x.op) hok
  have hy : y = x := agr_ext (fun k => by
    by_cases hk : k ∈ (partsN x.op).map fkey
    · exact j1 k hk
    · have a := j2 k hk
      have b := m2 k hk
      unfold agr at *
      split <;> simp_all) j3
  unfold insT encIns
  simp only at e
  simp only [List.append_assoc, e, e2, hy]
def blkOk (b : List InsV) : Prop := (b.length : Int) ≤ 40 ∧ ∀ x ∈ b, insMayB x = true ∧ InsRR x ∧ x.args.length ≤ 4
theorem fwd_blk : Fwd blkT encBlk blkOk := fun b tail h => fwd_count fwd_ins 0 40 (by omega) b tail ⟨by omega, h.1, h.2⟩
def funOk (f : FunV) : Prop := FunR f ∧ funMayB f = true ∧ funFew f
theorem fwd_fun : Fwd funT encFun funOk := fun f tail h => by
  obtain ⟨⟨hp, hr, hk, hb, hx⟩, hm, f1, f2, f3, f4⟩ := h
  simp only [funMayB, Bool.and_eq_true, decide_eq_true_eq, List.all_eq_true] at hm
  obtain ⟨⟨-, m1, m2⟩, m3, m4⟩ := hm
  have hzl : (f.kinds.zip f.base).length = f.kinds.length := by simp; omega
  have e1 := fwd_count fwd_var 0 48 (by omega) (f.kinds.zip f.base) (encL [f.params] ++ (encL [f.result] ++ (encL [(f.blocks.length : Int)] ++ (f.blocks.flatMap encBlk ++ tail)))) ⟨by omega, by omega, fun kb hkb => by
    obtain ⟨a, b⟩ := kb
    have hz := List.of_mem_zip hkb
    exact ⟨m3 _ hkb, hk _ hz.1, hb _ hz.2⟩⟩
  have e2 := fwd_num f.params (encL [f.result] ++ (encL [(f.blocks.length : Int)] ++ (f.blocks.flatMap encBlk ++ tail))) ⟨m1, hp.2⟩
  have e3 := fwd_num f.result (encL [(f.blocks.length : Int)] ++ (f.blocks.flatMap encBlk ++ tail)) ⟨m2, hr.2⟩
  have e4 := fwd_count fwd_blk 0 40 (by omega) f.blocks tail ⟨by omega, by omega, fun b hb' => ⟨by have := (f4 b hb').1; omega, fun x hx' => ⟨m4 b hb' x hx', hx b hb' x hx', (f4 b hb').2 x hx'⟩⟩⟩
  have e5 : encL [f.params, f.result, (f.blocks.length : Int)] = encL [f.params] ++ encL [f.result] ++ encL [(f.blocks.length : Int)] := by simp [encL]
  have e1' : varsT (encFun f ++ tail, 0) = (f.kinds.zip f.base, (encL [f.params] ++ (encL [f.result] ++ (encL [(f.blocks.length : Int)] ++ (f.blocks.flatMap encBlk ++ tail))), 0)) := by
    unfold encFun
    rw [e5]
    simp only [hzl, List.append_assoc] at e1
    simp only [List.append_assoc]
    exact e1
  simp only [List.append_assoc] at e2 e3 e4
  have e4' : blksT (encL [(f.blocks.length : Int)] ++ (f.blocks.flatMap encBlk ++ tail), 0) = (f.blocks, (tail, 0)) := e4
  unfold funT
  simp only [e1', e2, e3, e4']
  congr 1
  obtain ⟨k, b, p, r, bl⟩ := f
  simp only [FunV.mk.injEq, and_true]
  simp only at f2
  exact ⟨List.map_fst_zip (by omega), List.map_snd_zip (by omega)⟩
def progOk (p : List FunV) : Prop := cntB p = true ∧ p.all funMayB = true ∧ ∀ f ∈ p, FunR f
theorem fwd_prog {p : List FunV} (h : progOk p) (tail : List Int) : progT (encProg p ++ tail, 0) = (p, (tail, 0)) := by
  obtain ⟨h1, h2, h3⟩ := h
  obtain ⟨f1, f2⟩ := may_few h1 h2
  have hl : 1 ≤ p.length := by
    simp only [cntB, Bool.and_eq_true, decide_eq_true_eq] at h1
    exact h1.1
  rw [List.all_eq_true] at h2
  exact fwd_count fwd_fun 1 8 (by omega) p tail ⟨by omega, by omega, fun f hf => ⟨h3 f hf, h2 f hf, f2 f hf⟩⟩
theorem encR_ok {p : List FunV} (h : (encR p).2 = 0) : cntB p = true ∧ p.all funMayB = true ∧ (encR p).1 = encProg p := by
  unfold encR at h ⊢
  split
  · rename_i h1
    rw [if_pos h1] at h
    split
    · rename_i h2; exact ⟨h1, h2, rfl⟩
    · rename_i h2; rw [if_neg h2] at h; cases h
  · rename_i h1
    rw [if_neg h1] at h; cases h
/-- What is encoded is decoded as it was; bytes behind it are a fault. -/
theorem enc_dec {p : List FunV} (hR : ∀ f ∈ p, FunR f) (h : (encR p).2 = 0) (more : List Int) : decR ((encR p).1 ++ more) = if more = [] then (p, 0) else ([], 11) := by
  obtain ⟨h1, h2, h3⟩ := encR_ok h
  unfold decR
  rw [h3, fwd_prog ⟨h1, h2, hR⟩ more]
  cases more with
  | nil => simp [endE]
  | cons a l => simp [endE]
theorem enc_inj {p q : List FunV} (hR : ∀ f ∈ p, FunR f) (hS : ∀ f ∈ q, FunR f) (h : (encR p).2 = 0) (h2 : (encR q).2 = 0) : ((encR p).1 = (encR q).1) = (p = q) := by
  rw [eq_iff_iff]
  constructor
  · intro e
    have a := enc_dec hR h []
    have b := enc_dec hS h2 []
    rw [e, b] at a
    simp at a
    exact a.symm
  · intro e; rw [e]

/-! ### A beginning -/
/-- Of bytes that are read without an error a beginning is read alike, or ends too early. -/
def Pre {α : Type} (T : St → α × St) : Prop := ∀ zs ys : List Int, (T (zs ++ ys, 0)).2.2 = 0 → (∃ r, (T (zs ++ ys, 0)).2.1 = r ++ ys ∧ T (zs, 0) = ((T (zs ++ ys, 0)).1, (r, 0))) ∨ (T (zs, 0)).2.2 = 2
theorem rd_pre (most : Nat) : ∀ (zs ys : List Int) (u i : Nat), (rd most u i (zs ++ ys)).2.2 = 0 → ((rd most u i (zs ++ ys)).2.1 ≤ i + zs.length ∧ rd most u i zs = rd most u i (zs ++ ys)) ∨ (rd most u i zs).2.2 = 2
  | [], ys, u, i, h => by
    right
    cases ys with
    | nil => simp only [List.append_nil, rd] at h; split at h <;> simp at h
    | cons y ys =>
      simp only [List.nil_append, rd] at h ⊢
      by_cases h0 : i < most
      · rw [if_pos h0]
      · rw [if_neg h0] at h; simp at h
  | z :: zs, ys, u, i, h => by
    simp only [List.cons_append, rd] at h ⊢
    by_cases h0 : i < most
    · rw [if_pos h0] at h ⊢
      rw [if_pos h0]
      by_cases h1 : 128 ≤ z
      · rw [if_pos h1] at h ⊢
        rw [if_pos h1]
        rcases rd_pre most zs ys _ (i + 1) h with ⟨a, b⟩ | a
        · left; exact ⟨by simp <;> omega, b⟩
        · right; exact a
      · rw [if_neg h1] at h ⊢
        rw [if_neg h1]
        left
        split
        · rename_i h2; rw [if_pos h2] at h; cases h
        · rename_i h2
          rw [if_neg h2] at h
          split
          · rename_i h3; rw [if_pos h3] at h; cases h
          · exact ⟨by simp <;> omega, rfl⟩
    · rw [if_neg h0] at h; simp at h
theorem pre_num : Pre numT := fun zs ys h => by
  unfold numT at h ⊢
  simp only [if_true] at h ⊢
  rcases rd_pre 9 zs ys 0 0 h with ⟨a, b⟩ | a
  · left
    refine ⟨zs.drop (rd 9 0 0 (zs ++ ys)).2.1, ?_, ?_⟩
    · rw [List.drop_append_of_le_length (by omega)]
    · rw [b, h]
  · right; exact a
theorem pre_snum : Pre snumT := fun zs ys h => by
  unfold snumT at h ⊢
  simp only [if_true] at h ⊢
  rcases rd_pre 10 zs ys 0 0 h with ⟨a, b⟩ | a
  · left
    refine ⟨zs.drop (rd 10 0 0 (zs ++ ys)).2.1, ?_, ?_⟩
    · rw [List.drop_append_of_le_length (by omega)]
    · rw [b, h]
  · right; exact a
theorem pre_only (may : Int → Bool) (er : Nat) (her : er ≠ 0) : Pre (onlyT may er) := fun zs ys h => by
  by_cases h0 : (numT (zs ++ ys, 0)).2.2 = 0
  · by_cases hm : may (numT (zs ++ ys, 0)).1 = true
    · have e : onlyT may er (zs ++ ys, 0) = numT (zs ++ ys, 0) := by unfold onlyT; rw [if_pos h0, if_pos hm]
      rw [e]
      rcases pre_num zs ys h0 with ⟨r, e1, e2⟩ | a
      · left
        refine ⟨r, e1, ?_⟩
        unfold onlyT
        rw [e2]
        simp only [if_true, hm]
      · right
        unfold onlyT
        rw [if_neg (by rw [a]; omega)]
        exact a
    · unfold onlyT at h
      rw [if_pos h0, if_neg hm] at h
      exact absurd h her
  · unfold onlyT at h
    rw [if_neg h0] at h
    exact absurd h h0
theorem pre_seq {α β : Type} {A : St → α × St} {G : α → St → β × St} (hA : Pre A) (hG : ∀ a, Pre (G a)) (hs : ∀ a, Stk (G a)) : Pre (fun s => G (A s).1 (A s).2) := fun zs ys h => by
  simp only at h ⊢
  have h0 := (hs _).ok h
  rcases hA zs ys h0 with ⟨r, e1, e2⟩ | a
  · rw [e2]
    generalize A (zs ++ ys, 0) = p at *
    obtain ⟨a, r2, e⟩ := p
    simp only at h h0 e1 ⊢
    subst h0 e1
    exact hG a r ys h
  · right
    rw [hs _ _ (by rw [a]; omega)]
    exact a
theorem pre_map {α β : Type} {T : St → α × St} (h : Pre T) (f : α → β) : Pre (fun s => (f (T s).1, (T s).2)) := fun zs ys he => by
  rcases h zs ys he with ⟨r, e1, e2⟩ | a
  · left; exact ⟨r, e1, by simp only [e2]⟩
  · right; exact a
theorem stk_map {α β : Type} {T : St → α × St} (h : Stk T) (f : α → β) : Stk (fun s => (f (T s).1, (T s).2)) := fun s hs => h s hs
theorem pre_pure {α : Type} (a : α) : Pre (fun s => (a, s)) := fun zs ys h => by
  left; exact ⟨zs, rfl, rfl⟩
theorem stk_pure {α : Type} (a : α) : Stk (fun s => (a, s)) := fun _ _ => rfl
theorem pre_var : Pre varT := by
  have hS : ∀ k : Int, Stk (fun s : St => if k = 2 then ((((2 : Int), (numT s).1), (numT s).2) : (Int × Int) × St) else ((k, (-1 : Int)), s)) := fun k => by
    by_cases h : k = 2
    · simp only [if_pos h]; exact stk_map stk_num (fun v => ((2 : Int), v))
    · simp only [if_neg h]; exact stk_pure _
  have := pre_seq (pre_only kindB 5 (by omega)) (G := fun k s => if k = 2 then ((((2 : Int), (numT s).1), (numT s).2) : (Int × Int) × St) else ((k, (-1 : Int)), s)) (fun k => by
    by_cases h : k = 2
    · simp only [if_pos h]; exact pre_map pre_num (fun v => ((2 : Int), v))
    · simp only [if_neg h]; exact pre_pure _) hS
  exact this
theorem pre_many {α : Type} {T : St → α × St} (h : Pre T) (hs : Stk T) : ∀ n, Pre (manyT T n)
  | 0 => pre_pure []
  | n + 1 => pre_seq (pre_many h hs n) (G := fun l s => (l ++ [(T s).1], (T s).2)) (fun l => pre_map h (fun x => l ++ [x])) (fun l => stk_map hs (fun x => l ++ [x]))
theorem pre_count {α : Type} {T : St → α × St} (h : Pre T) (hs : Stk T) (lo hi : Int) : Pre (fun s => manyT T (cntT lo hi s).1.toNat (cntT lo hi s).2) :=
  pre_seq (pre_only (limB lo hi) 9 (by omega)) (G := fun n s => manyT T n.toNat s) (fun n => pre_many h hs _) (fun n => stk_many hs _)
theorem pre_list : Pre listT := pre_count pre_num stk_num 0 4
theorem pre_part (x : InsV) (c : Nat) : Pre (fun s => partT (x, s) c) := by
  unfold partT
  by_cases h1 : c = 110
  · simp only [if_pos h1]; exact pre_map pre_snum (fun v => { x with n := v })
  · by_cases h2 : c = 76
    · simp only [if_neg h1, if_pos h2]; exact pre_map pre_list (fun v => { x with args := v })
    · simp only [if_neg h1, if_neg h2]; exact pre_map pre_num (fun v => setF c v x)
theorem pre_fold : ∀ (ls : List Nat) (x : InsV), Pre (fun s => ls.foldl partT (x, s))
  | [], x => pre_pure x
  | c :: cs, x => pre_seq (pre_part x c) (G := fun y s => cs.foldl partT (y, s)) (fun y => pre_fold cs y) (fun y s h => stk_fold cs (y, s) h)
theorem pre_ins : Pre insT := pre_seq (pre_only isOpB 5 (by omega)) (G := fun op s => (partsN op).foldl partT (bare op, s)) (fun op => pre_fold _ _) (fun op s h => stk_fold _ (bare op, s) h)
theorem pre_blk : Pre blkT := pre_count pre_ins stk_ins 0 40
theorem pre_vars : Pre varsT := pre_count pre_var stk_var 0 48
theorem pre_blks : Pre blksT := pre_count pre_blk stk_blk 0 40
theorem pre_fun : Pre funT :=
  pre_seq pre_vars (G := fun vs s => ((⟨vs.map (·.1), vs.map (·.2), (numT s).1, (numT (numT s).2).1, (blksT (numT (numT s).2).2).1⟩ : FunV), (blksT (numT (numT s).2).2).2))
    (fun vs => pre_seq pre_num (G := fun pa s => ((⟨vs.map (·.1), vs.map (·.2), pa, (numT s).1, (blksT (numT s).2).1⟩ : FunV), (blksT (numT s).2).2))
      (fun pa => pre_seq pre_num (G := fun re s => ((⟨vs.map (·.1), vs.map (·.2), pa, re, (blksT s).1⟩ : FunV), (blksT s).2))
        (fun re => pre_map pre_blks (fun bs => (⟨vs.map (·.1), vs.map (·.2), pa, re, bs⟩ : FunV)))
        (fun re => stk_map stk_blks (fun bs => (⟨vs.map (·.1), vs.map (·.2), pa, re, bs⟩ : FunV))))
      (fun pa s h => by simp only; rw [stk_num s h, stk_blks s h]))
    (fun vs s h => by simp only; rw [stk_num s h, stk_num s h, stk_blks s h])
theorem pre_prog : Pre progT := pre_count pre_fun stk_fun 1 8
/-- A beginning of a program's bytes ends too early. -/
theorem enc_cut {p : List FunV} (hR : ∀ f ∈ p, FunR f) (h : (encR p).2 = 0) {k : Nat} (hk : k < (encR p).1.length) : decR ((encR p).1.take k) = ([], 2) := by
  obtain ⟨h1, h2, h3⟩ := encR_ok h
  rw [h3] at hk ⊢
  have e := fwd_prog ⟨h1, h2, hR⟩ []
  rw [List.append_nil, ← List.take_append_drop k (encProg p)] at e
  rcases pre_prog ((encProg p).take k) ((encProg p).drop k) (by rw [e]) with ⟨r, a, -⟩ | a
  · rw [e] at a
    simp only at a
    have := congrArg List.length a
    simp at this
    omega
  · unfold decR endE
    rw [if_neg (by rw [if_neg (by rw [a]; omega), a]; omega), if_neg (by rw [a]; omega), a]
end Go.Proofs.YtkimocfofihjbaaDoor
