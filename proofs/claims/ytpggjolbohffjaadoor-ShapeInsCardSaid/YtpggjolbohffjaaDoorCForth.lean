/- Plain mathematics: what is encoded is decoded as it was. No condition. -/
import Derived.Test.YtpggjolbohffjaaDoorCBackI
set_option linter.unusedSimpArgs false
set_option linter.unusedVariables false
namespace Go.Proofs.YtpggjolbohffjaaDoor
open Go.RowKit

def Fwd {α : Type} (T : St → α × St) (en : α → List Int) (ok : α → Prop) : Prop := ∀ v tail, ok v → T (en v ++ tail, 0) = (v, (tail, 0))
theorem fwd_num : Fwd numT (fun v => encL [v]) numOk := fun v tail h => by
  unfold numOk at h
  obtain ⟨m, rfl⟩ : ∃ m : Nat, v = m := ⟨v.toNat, by omega⟩
  simp only [encL_one h.1, Int.toNat_natCast]
  unfold numT
  simp only [if_true]
  rw [rd_put' m tail (by omega)]
  simp
theorem fwd_snum : Fwd snumT (fun v => enc (zz v)) i64R := fun v tail h => by
  have hl := enc_len10 (zz_lt h)
  have e : rd 10 0 0 (enc (zz v) ++ tail) = (zz v, (enc (zz v)).length, 0) := by
    have := zz_lt h
    rw [rd_enc 10 (by omega) tail (zz v) (zz v) 0 0 (Nat.le_refl _) (by omega) (by omega) (by simpa using this)]
    simp
  unfold snumT
  simp only [if_true]
  rw [e]
  simp [unz_zz]
theorem fwd_only (may : Int → Bool) (er : Nat) : Fwd (onlyT may er) (fun v => encL [v]) (fun v => numOk v ∧ may v = true) := fun v tail h => by
  have e := fwd_num v tail h.1
  simp only at e
  unfold onlyT
  simp only [e, if_true, h.2]
theorem fwd_var : Fwd varT encVar (fun kb => varMayB kb = true ∧ i64R kb.1 ∧ i64R kb.2) := fun kb tail h => by
  obtain ⟨k, b⟩ := kb
  obtain ⟨h1, h2, h3⟩ := h
  simp only [varMayB, Bool.and_eq_true] at h1
  unfold i64R at h2 h3
  have hk : numOk k := by
    have := h1.1
    simp [kindB] at this
    unfold numOk; omega
  by_cases h2' : k = 2
  · subst h2'
    have hb : 0 ≤ b := by have := h1.2; simpa [baseB] using this
    have e1 := fwd_only kindB 5 2 (encL [b] ++ tail) ⟨hk, rfl⟩
    have e2 := fwd_num b tail ⟨hb, h3.2⟩
    simp only [encVar, if_true, List.append_assoc]
    unfold varT
    simp only at e1 e2
    simp only [e1, if_true, e2]
  · have hb : b = -1 := by have := h1.2; simpa [baseB, h2'] using this
    subst hb
    have e1 := fwd_only kindB 5 k tail ⟨hk, h1.1⟩
    simp only at e1
    simp only [encVar, if_neg h2', List.append_nil]
    unfold varT
    simp only [e1, if_neg h2']
theorem fwd_many {α : Type} {T : St → α × St} {en : α → List Int} {ok : α → Prop} (h : Fwd T en ok) (l : List α) (tail : List Int) (hl : ∀ x ∈ l, ok x) : ∀ k, k ≤ l.length → manyT T k (l.flatMap en ++ tail, 0) = (l.take k, ((l.drop k).flatMap en ++ tail, 0))
  | 0, _ => by simp [manyT]
  | k + 1, hk => by
    obtain ⟨x, hx⟩ : ∃ x, l[k]? = some x := ⟨_, List.getElem?_eq_getElem (by omega)⟩
    have ih := fwd_many h l tail hl k (by omega)
    have e := h x ((l.drop (k + 1)).flatMap en ++ tail) (hl x (List.mem_of_getElem? hx))
    unfold manyT
    rw [ih]
    simp only [drop_cons hx, List.flatMap_cons, List.append_assoc, e]
    rw [List.take_add_one, hx]; rfl
theorem fwd_all {α : Type} {T : St → α × St} {en : α → List Int} {ok : α → Prop} (h : Fwd T en ok) (l : List α) (tail : List Int) (hl : ∀ x ∈ l, ok x) : manyT T l.length (l.flatMap en ++ tail, 0) = (l, (tail, 0)) := by
  rw [fwd_many h l tail hl l.length (Nat.le_refl _), List.take_of_length_le (Nat.le_refl _), List.drop_of_length_le (Nat.le_refl _)]; rfl
theorem fwd_count {α : Type} {T : St → α × St} {en : α → List Int} {ok : α → Prop} (h : Fwd T en ok) (lo hi : Int) (hh : hi ≤ 100) :
    Fwd (fun s => manyT T (cntT lo hi s).1.toNat (cntT lo hi s).2) (fun l => encL [(l.length : Int)] ++ l.flatMap en) (fun l => lo ≤ (l.length : Int) ∧ (l.length : Int) ≤ hi ∧ ∀ x ∈ l, ok x) := fun l tail hl => by
  obtain ⟨h1, h2, h3⟩ := hl
  have e := fwd_only (limB lo hi) 9 (l.length : Int) (l.flatMap en ++ tail) ⟨by unfold numOk; omega, by simp [limB, h1, h2]⟩
  simp only at e
  unfold cntT
  simp only [List.append_assoc, e, Int.toNat_natCast]
  exact fwd_all h l tail h3
theorem flat_one (l : List Int) : l.flatMap (fun v => encL [v]) = encL l := by
  induction l with
  | nil => rfl
  | cons a l ih => rw [List.flatMap_cons, ih]; simp [encL]
theorem fwd_list : Fwd listT (fun l => encL [(l.length : Int)] ++ encL l) (fun l => (l.length : Int) ≤ 4 ∧ ∀ z ∈ l, numOk z) := fun l tail h => by
  have e := fwd_count fwd_num 0 4 (by omega) l tail ⟨by omega, h.1, h.2⟩
  simp only [flat_one] at e
  exact e

/-- A part that may be put, in range. -/
def okR (x : InsV) (c : Nat) : Prop := if c = 110 then i64R x.n else if c = 76 then (x.args.length : Int) ≤ 4 ∧ ∀ z ∈ x.args, numOk z else numOk (fieldOf c x)
theorem part_fwd {c : Nat} (hc : isLetter c) (r x : InsV) (tail : List Int) (h : okR x c) :
    ∃ y, partT (r, (encPart x c ++ tail, 0)) c = (y, (tail, 0)) ∧ agr (fkey c) y x ∧ (∀ k, k ≠ fkey c → agr k y r) ∧ y.op = r.op := by
  unfold isLetter at hc
  by_cases h1 : c = 110
  · subst h1
    have e := fwd_snum x.n tail (by simpa [okR] using h)
    refine ⟨{ r with n := x.n }, ?_, by simp [fkey, agr], fun k hk => by simp [fkey] at hk; unfold agr; split <;> first | rfl | trivial | exact absurd rfl hk, rfl⟩
    rw [part_n]
    simp only at e
    simp only [show encPart x 110 = enc (zz x.n) from rfl, e]
  · by_cases h2 : c = 76
    · subst h2
      have e := fwd_list x.args tail (by simpa [okR] using h)
      refine ⟨{ r with args := x.args }, ?_, by simp [fkey, agr], fun k hk => by simp [fkey] at hk; unfold agr; split <;> first | rfl | trivial | exact absurd rfl hk, rfl⟩
      rw [part_l]
      simp only at e
      simp only [show encPart x 76 = encL [(x.args.length : Int)] ++ encL x.args from rfl, e]
    · have e := fwd_num (fieldOf c x) tail (by simpa [okR, h1, h2] using h)
      simp only at e
      refine ⟨setF c (fieldOf c x) r, ?_, ?_, fun k hk => ?_, ?_⟩
      · rw [part_num h1 h2]
        have e2 : encPart x c = encL [fieldOf c x] := by unfold encPart; rw [if_neg h1, if_neg h2]
        simp only [e2, e]
      · rcases hc with rfl | rfl | rfl | rfl | rfl | rfl | rfl
        all_goals simp [fkey, fidx, agr, setF, fieldOf] at *
      · rcases hc with rfl | rfl | rfl | rfl | rfl | rfl | rfl
        all_goals simp [fkey, fidx] at hk h1 h2
        all_goals (simp only [setF]; unfold agr; split <;> simp_all)
      · unfold setF; repeat' split
        all_goals rfl
theorem fold_fwd (x : InsV) (tail : List Int) : ∀ (ls : List Nat) (r : InsV), (∀ c ∈ ls, isLetter c) → (ls.map fkey).Nodup → (∀ c ∈ ls, okR x c) →
    ∃ y, ls.foldl partT (r, (ls.flatMap (encPart x) ++ tail, 0)) = (y, (tail, 0)) ∧ (∀ k, k ∈ ls.map fkey → agr k y x) ∧ (∀ k, k ∉ ls.map fkey → agr k y r) ∧ y.op = r.op
  | [], r, _, _, _ => ⟨r, by simp, by simp, fun k _ => agr_refl k r, rfl⟩
  | c :: cs, r, hl, hn, ho => by
    rw [List.map_cons, List.nodup_cons] at hn
    obtain ⟨y, e, g1, g2, g3⟩ := part_fwd (hl c (by simp)) r x (cs.flatMap (encPart x) ++ tail) (ho c (by simp))
    obtain ⟨z, e2, j1, j2, j3⟩ := fold_fwd x tail cs y (fun c' h => hl c' (by simp [h])) hn.2 (fun c' h => ho c' (by simp [h]))
    refine ⟨z, ?_, fun k hk => ?_, fun k hk => ?_, j3.trans g3⟩
    · rw [List.foldl_cons, List.flatMap_cons, List.append_assoc, e, e2]
    · rw [List.map_cons, List.mem_cons] at hk
      by_cases hkc : k ∈ cs.map fkey
      · exact j1 k hkc
      · rcases hk with rfl | hk
        · exact agr_trans (j2 _ hkc) g1
        · exact absurd hk hkc
    · rw [List.map_cons, List.mem_cons, not_or] at hk
      exact agr_trans (j2 k hk.2) (g2 k hk.1)
theorem mayL_inv (x : InsV) : ∀ (ls : List Nat) (r : InsV), (∀ c ∈ ls, isLetter c) → (ls.map fkey).Nodup → (∀ k, k ∈ ls.map fkey → agr k r x) → mayL x ls r = true → (∀ c ∈ ls, okP x c) ∧ (∀ k, k ∉ ls.map fkey → agr k r (bare x.op))
  | [], r, _, _, _, h => by
    simp only [mayL, decide_eq_true_eq] at h
    exact ⟨by simp, fun k _ => by rw [h]; exact agr_refl k _⟩
  | c :: cs, r, hl, hn, ha, h => by
    have hlc := hl c (by simp)
    rw [List.map_cons, List.nodup_cons] at hn
    have hac := ha (fkey c) (by simp)
    have step : ∀ r', (∀ k, k ≠ fkey c → agr k r' r) → (∀ k, k ≠ fkey c → agr k r r') → mayL x cs r' = true → okP x c → (∀ c' ∈ c :: cs, okP x c') ∧ (∀ k, k ∉ (c :: cs).map fkey → agr k r (bare x.op)) := fun r' g1 g1' g2 g3 => by
      obtain ⟨i1, i2⟩ := mayL_inv x cs r' (fun c' h => hl c' (by simp [h])) hn.2 (fun k hk => agr_trans (g1 k (fun e => hn.1 (e ▸ hk))) (ha k (by rw [List.map_cons]; simp [hk]))) g2
      refine ⟨fun c' hc' => ?_, fun k hk => ?_⟩
      · rcases List.mem_cons.1 hc' with rfl | hc'
        · exact g3
        · exact i1 c' hc'
      · rw [List.map_cons, List.mem_cons, not_or] at hk
        exact agr_trans (g1' k hk.1) (i2 k hk.2)
    unfold isLetter at hlc
    rcases hlc with rfl | rfl | rfl | rfl | rfl | rfl | rfl
    all_goals simp only [mayL, if_true, Bool.and_eq_true] at h
    all_goals simp [fkey, fidx, agr] at hac
    all_goals try simp [fieldOf, setF, hac] at h
    all_goals first
      | refine step _ (fun k hk => ?_) (fun k hk => ?_) h.2 ?_
      | refine step _ (fun k hk => ?_) (fun k hk => ?_) h ?_
    all_goals first
      | (simp [fkey, fidx] at hk; unfold agr; split <;> first | rfl | trivial | exact absurd rfl hk)
      | (simp [okP, fieldOf]; exact h.1)
      | (simp [okP]; done)
theorem agr_ext {x y : InsV} (h : ∀ k, agr k x y) (ho : x.op = y.op) : x = y := by
  have h1 := h 1; have h2 := h 2; have h3 := h 3; have h4 := h 4; have h5 := h 5; have h6 := h 6
  obtain ⟨o, d, a, b, n, m, l⟩ := x
  obtain ⟨o', d', a', b', n', m', l'⟩ := y
  simp only [agr] at h1 h2 h3 h4 h5 h6 ho
  subst h1 h2 h3 h4 h5 h6 ho
  rfl
end Go.Proofs.YtpggjolbohffjaaDoor
