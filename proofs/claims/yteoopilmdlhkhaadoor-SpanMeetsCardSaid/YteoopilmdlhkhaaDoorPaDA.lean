/- Layer 13, mathematics: critical edges, and blocks whose edges are split one by one. No condition. -/
import Derived.Test.YteoopilmdlhkhaaDoorPaNK
set_option linter.unusedSimpArgs false
set_option linter.unusedVariables false
namespace Go.Proofs.YteoopilmdlhkhaaDoor
open Go.RowKit

def critB (f : FunV) (e : Int × Int) : Bool := decide (2 ≤ (nxt f e.1.toNat).length) && decide (2 ≤ (prevN f e.2).length)
/-- The critical edges. -/
def critN (f : FunV) : List (Int × Int) := (edgesN f).filter (critB f)
theorem mem_critN {f : FunV} {e : Int × Int} : e ∈ critN f ↔ e ∈ edgesN f ∧ 2 ≤ (nxt f e.1.toNat).length ∧ 2 ≤ (prevN f e.2).length := by
  unfold critN critB
  rw [List.mem_filter, Bool.and_eq_true, decide_eq_true_eq, decide_eq_true_eq]
theorem edgesN_mem {f : FunV} {e : Int × Int} (h : e ∈ edgesN f) : ∃ a : Nat, e.1 = (a : Int) ∧ a < f.blocks.length ∧ e.2 ∈ nxt f a := by
  unfold edgesN edgesTo at h
  simp only [List.mem_flatMap, List.mem_map, List.mem_range] at h
  obtain ⟨i, hi, u, hu, rfl⟩ := h
  exact ⟨i, rfl, hi, hu⟩
theorem edgesTo_succ (f : FunV) (k : Nat) : edgesTo f (k + 1) = edgesTo f k ++ (nxt f k).map (fun v => ((k : Int), v)) := by
  unfold edgesTo
  rw [List.range_succ, List.flatMap_append]
  simp
theorem edgesTo_nodup (f : FunV) (k : Nat) : (edgesTo f k).Nodup := by
  induction k with
  | zero => simp [edgesTo]
  | succ k ih =>
    rw [edgesTo_succ, List.nodup_append]
    refine ⟨ih, ?_, ?_⟩
    · exact List.pairwise_map.2 ((nxt_nodup f k).imp fun h e => h (by injection e))
    · intro a ha b hb e
      subst e
      unfold edgesTo at ha
      simp only [List.mem_flatMap, List.mem_map, List.mem_range] at ha hb
      obtain ⟨i, hi, u, -, rfl⟩ := ha
      obtain ⟨v, -, e⟩ := hb
      injection e with e1 _
      omega
theorem critN_nodup (f : FunV) : (critN f).Nodup := (edgesTo_nodup f _).filter _
theorem nextL_two {x : InsV} (h : 2 ≤ (nextL x).length) : x.op = 22 ∧ x.n ≠ x.m ∧ nextL x = [min x.n x.m, max x.n x.m] := by
  unfold nextL at h ⊢
  split at h
  · simp at h
  · rename_i h1
    rw [if_neg h1]
    split at h
    · rename_i h2
      rw [if_pos h2]
      exact ⟨h2, fun e => h1 (.inr ⟨h2, e⟩), rfl⟩
    · simp at h
theorem nextL_mem {x : InsV} {t : Int} (h : 2 ≤ (nextL x).length) : t ∈ nextL x ↔ t = x.n ∨ t = x.m := by
  obtain ⟨-, -, e⟩ := nextL_two h
  rw [e]
  simp only [List.mem_cons, List.not_mem_nil, or_false]
  omega

/-- A branch that led to t leads to m. -/
def bendI (x : InsV) (t m : Int) : InsV := if x.n = t then { x with n := m } else { x with m := m }
def bendB (l : List InsV) (t m : Int) : List InsV := match l[l.length - 1]? with | some x => l.set (l.length - 1) (bendI x t m) | none => l
def jumpI (t : Int) : InsV := ⟨21, 0, 0, 0, t, 0, []⟩
def splitStep (bs : List (List InsV)) (e : Int × Int) : List (List InsV) := bs.set e.1.toNat (bendB (bs.getD e.1.toNat []) e.2 (bs.length : Int)) ++ [[jumpI e.2]]
def splitBs (bs : List (List InsV)) (es : List (Int × Int)) : List (List InsV) := es.foldl splitStep bs
theorem splitBs_snoc {bs : List (List InsV)} {es : List (Int × Int)} {k : Nat} {e : Int × Int} (h : es[k]? = some e) : splitBs bs (es.take (k + 1)) = splitStep (splitBs bs (es.take k)) e := by
  unfold splitBs
  rw [List.take_add_one, h, List.foldl_append]
  rfl
def splitF (f : FunV) : FunV := { f with blocks := splitBs f.blocks (critN f) }
/-- The first number of an edge that is split, else the block itself. -/
def tgt (L : Nat) (es : List (Int × Int)) (b : Nat) (t : Int) : Int := if ((b : Int), t) ∈ es then ((L + es.idxOf ((b : Int), t) : Nat) : Int) else t
def tgI (L : Nat) (es : List (Int × Int)) (b : Nat) (x : InsV) : InsV := { x with n := tgt L es b x.n, m := tgt L es b x.m }
def bentB (L : Nat) (es : List (Int × Int)) (b : Nat) (l : List InsV) : List InsV := match l[l.length - 1]? with | some x => l.set (l.length - 1) (tgI L es b x) | none => l
theorem tgt_nil (L b : Nat) (t : Int) : tgt L [] b t = t := by unfold tgt; rw [if_neg (by simp)]
theorem bentB_len (L : Nat) (es : List (Int × Int)) (b : Nat) (l : List InsV) : (bentB L es b l).length = l.length := by unfold bentB; split <;> simp
theorem bentB_last {L : Nat} {es : List (Int × Int)} {b : Nat} {l : List InsV} {x : InsV} (h : l[l.length - 1]? = some x) : (bentB L es b l)[l.length - 1]? = some (tgI L es b x) := by
  unfold bentB
  rw [h]
  have := (List.getElem?_eq_some_iff.1 h).1
  simp [List.getElem?_set, this]
theorem bentB_old {L : Nat} {es : List (Int × Int)} {b : Nat} {l : List InsV} {i : Nat} (h : i + 1 < l.length) : (bentB L es b l)[i]? = l[i]? := by
  unfold bentB
  split
  · rw [List.getElem?_set, if_neg (by omega)]
  · rfl
theorem bentB_nil (L b : Nat) (l : List InsV) : bentB L [] b l = l := by
  unfold bentB
  split
  · rename_i x h
    have e : tgI L [] b x = x := by unfold tgI; rw [tgt_nil, tgt_nil]
    rw [e]
    refine List.ext_getElem? fun i => ?_
    rw [List.getElem?_set]
    split
    · rename_i hi
      subst hi
      rw [h]
      have := (List.getElem?_eq_some_iff.1 h).1
      simp [this]
    · rfl
  · rfl
theorem idx_app {es : List (Int × Int)} {e y : Int × Int} (h : y ∈ es) : (es ++ [e]).idxOf y = es.idxOf y := by rw [List.idxOf_append, if_pos h]
theorem idx_new {es : List (Int × Int)} {e : Int × Int} (h : e ∉ es) : (es ++ [e]).idxOf e = es.length := by
  rw [List.idxOf_append, if_neg h]
  simp
theorem tgt_app {L : Nat} {es : List (Int × Int)} {e : Int × Int} {b : Nat} {t : Int} (h : ((b : Int), t) ≠ e) : tgt L (es ++ [e]) b t = tgt L es b t := by
  unfold tgt
  by_cases hm : ((b : Int), t) ∈ es
  · rw [if_pos hm, if_pos (List.mem_append_left _ hm), idx_app hm]
  · rw [if_neg hm, if_neg (by simp [hm, h])]
theorem tgt_new {L : Nat} {es : List (Int × Int)} {b : Nat} {t : Int} (h : ((b : Int), t) ∉ es) : tgt L (es ++ [((b : Int), t)]) b t = ((L + es.length : Nat) : Int) := by
  unfold tgt
  rw [if_pos (by simp), idx_new h]
theorem tgt_not {L : Nat} {es : List (Int × Int)} {b : Nat} {t : Int} (h : ((b : Int), t) ∉ es) : tgt L es b t = t := by
  unfold tgt
  rw [if_neg h]
/-- The blocks when k of the edges es are split. -/
structure SpI (f : FunV) (es : List (Int × Int)) (k : Nat) (bs : List (List InsV)) : Prop where
  len : bs.length = f.blocks.length + k
  new : ∀ (j : Nat) (e : Int × Int), j < k → es[j]? = some e → bs[f.blocks.length + j]? = some [jumpI e.2]
  old : ∀ (b : Nat) (l : List InsV), f.blocks[b]? = some l → bs[b]? = some (bentB f.blocks.length (es.take k) b l)
theorem SpI.start (f : FunV) (es : List (Int × Int)) : SpI f es 0 f.blocks := ⟨rfl, fun j e h => by omega, fun b l h => by rw [List.take_zero, bentB_nil]; exact h⟩
/-- What a critical edge says of its block. -/
theorem crit_last {f : FunV} {e : Int × Int} (h : e ∈ critN f) : ∃ (a : Nat) (l : List InsV) (x : InsV), e.1 = (a : Int) ∧ f.blocks[a]? = some l ∧ l[l.length - 1]? = some x ∧ x.op = 22 ∧ x.n ≠ x.m ∧ (e.2 = x.n ∨ e.2 = x.m) := by
  obtain ⟨h1, h2, -⟩ := mem_critN.1 h
  obtain ⟨a, ha, hal, hm⟩ := edgesN_mem h1
  rw [ha, Int.toNat_natCast] at h2
  obtain ⟨l, hl⟩ : ∃ l, f.blocks[a]? = some l := ⟨_, List.getElem?_eq_getElem hal⟩
  cases hx : l[l.length - 1]? with
  | none =>
    have h0 : l.length = 0 := by
      have := List.getElem?_eq_none_iff.1 hx
      omega
    rw [nxt_none hl h0] at hm
    cases hm
  | some x =>
    have hlt := (List.getElem?_eq_some_iff.1 hx).1
    have e := nxt_last hl (mp := l.length - 1) (by omega) hx
    rw [e] at h2 hm
    obtain ⟨k1, k2, -⟩ := nextL_two h2
    exact ⟨a, l, x, ha, hl, hx, k1, k2, (nextL_mem h2).1 hm⟩
theorem SpI.step {f : FunV} {k : Nat} {bs : List (List InsV)} {e : Int × Int} (hok : FlowOk f) (h : SpI f (critN f) k bs) (he : (critN f)[k]? = some e) : SpI f (critN f) (k + 1) (splitStep bs e) := by
  have hmem := List.mem_of_getElem? he
  obtain ⟨a, l, x, ha, hl, hx, h22, hnm, ht⟩ := crit_last hmem
  have hal := (List.getElem?_eq_some_iff.1 hl).1
  have htk : (critN f).take (k + 1) = (critN f).take k ++ [e] := by rw [List.take_add_one, he]; rfl
  have hlen : ((critN f).take k).length = k := by
    have := (List.getElem?_eq_some_iff.1 he).1
    rw [List.length_take]; omega
  have hno : e ∉ (critN f).take k := by
    have hn : ((critN f).take (k + 1)).Nodup := (critN_nodup f).sublist (List.take_sublist _ _)
    rw [htk, List.nodup_append] at hn
    exact fun hc => hn.2.2 e hc e (by simp) rfl
  have hr : 0 ≤ e.2 ∧ e.2 < (f.blocks.length : Int) := by
    obtain ⟨a', ha', -, hm⟩ := edgesN_mem (mem_critN.1 hmem).1
    exact hok.2.2 a' e.2 hm
  obtain ⟨e1, t⟩ := e
  simp only at ha ht hr
  subst ha
  have hbs := h.len
  have hba := h.old a l hl
  have hx2 := bentB_last (L := f.blocks.length) (es := (critN f).take k) (b := a) hx
  have hl2 := bentB_len f.blocks.length ((critN f).take k) a l
  have hxl := (List.getElem?_eq_some_iff.1 hx).1
  have key : bendB (bentB f.blocks.length ((critN f).take k) a l) t (bs.length : Int) = bentB f.blocks.length ((critN f).take (k + 1)) a l := by
    refine List.ext_getElem? fun i => ?_
    unfold bendB
    rw [hl2, hx2]
    simp only
    rw [List.getElem?_set, hl2]
    by_cases hi : l.length - 1 = i
    · subst hi
      rw [if_pos rfl, if_pos hxl, bentB_last hx]
      congr 1
      rw [htk]
      unfold bendI tgI
      simp only
      by_cases h1 : t = x.n
      · subst h1
        rw [tgt_not hno, if_pos rfl, tgt_new hno, hlen, tgt_app (fun e => hnm (by injection e with _ e2; exact e2.symm)), hbs]
      · have h2 : t = x.m := ht.resolve_left h1
        subst h2
        have h3 : ¬ tgt f.blocks.length ((critN f).take k) a x.n = x.m := by
          unfold tgt
          split
          · omega
          · exact fun e => h1 e.symm
        rw [if_neg h3, tgt_new hno, hlen, tgt_app (fun e => h1 (by injection e with _ e2; exact e2.symm)), hbs]
    · rw [if_neg hi]
      by_cases hi2 : i + 1 < l.length
      · rw [bentB_old hi2, bentB_old hi2]
      · rw [List.getElem?_eq_none (by rw [hl2]; omega), List.getElem?_eq_none (by rw [bentB_len]; omega)]
  have hsl : (bs.set a (bendB (bs.getD a []) t (bs.length : Int))).length = bs.length := List.length_set
  refine ⟨?_, fun j e' hj he' => ?_, fun b l' hl' => ?_⟩
  · unfold splitStep
    simp only [Int.toNat_natCast, List.length_append, List.length_set, List.length_singleton]
    omega
  · unfold splitStep
    simp only [Int.toNat_natCast]
    by_cases hjk : j = k
    · subst hjk
      rw [he] at he'
      injection he' with he'
      subst he'
      rw [List.getElem?_append_right (by rw [hsl]; omega), hsl, hbs]
      simp
    · rw [List.getElem?_append_left (by rw [hsl]; omega), List.getElem?_set, if_neg (by omega)]
      exact h.new j e' (by omega) he'
  · have hbl := (List.getElem?_eq_some_iff.1 hl').1
    unfold splitStep
    simp only [Int.toNat_natCast]
    rw [List.getElem?_append_left (by rw [hsl]; omega), List.getElem?_set]
    by_cases hab : a = b
    · subst hab
      rw [hl] at hl'
      injection hl' with hl'
      subst hl'
      rw [if_pos rfl, if_pos (by omega)]
      congr 1
      rw [show bs.getD a [] = bentB f.blocks.length ((critN f).take k) a l by simp [List.getD, hba]]
      exact key
    · rw [if_neg hab, h.old b l' hl', htk]
      congr 1
      unfold bentB
      split
      · rename_i y hy
        congr 1
        unfold tgI
        rw [tgt_app (fun e => hab (by injection e with e1 _; omega)), tgt_app (fun e => hab (by injection e with e1 _; omega))]
      · rfl
theorem SpI.to {f : FunV} (hok : FlowOk f) : ∀ k, k ≤ (critN f).length → SpI f (critN f) k (splitBs f.blocks ((critN f).take k)) := by
  intro k
  induction k with
  | zero => intro _; exact SpI.start f _
  | succ k ih =>
    intro hk
    obtain ⟨e, he⟩ : ∃ e, (critN f)[k]? = some e := ⟨_, List.getElem?_eq_getElem hk⟩
    rw [splitBs_snoc he]
    exact (ih (by omega)).step hok he
theorem SpI.all {f : FunV} (hok : FlowOk f) : SpI f (critN f) (critN f).length (splitF f).blocks := by
  have h := SpI.to hok (critN f).length (Nat.le_refl _)
  rw [List.take_length] at h
  exact h
end Go.Proofs.YteoopilmdlhkhaaDoor
