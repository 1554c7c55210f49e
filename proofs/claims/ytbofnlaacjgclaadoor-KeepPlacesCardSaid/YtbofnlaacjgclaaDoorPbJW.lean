/- Layer 11, mathematics: the document's walk: what a list of instructions says of a variable, what the marks of the walk tell. No condition. -/
import Derived.Test.YtbofnlaacjgclaaDoorPbJS
set_option linter.unusedSimpArgs false
set_option linter.unusedVariables false
namespace Go.Proofs.YtbofnlaacjgclaaDoor
open Go.RowKit

/-- What a list of instructions says of v first: it asks for it, it sets it, or nothing. -/
def scanV (v : Int) : List InsV → Option Bool
  | [] => none
  | x :: l => if v ∈ usesL x then some true else if hasB4 x.op 68 = true ∧ x.d = v then some false else scanV v l
theorem scanV_cases (v : Nat) (hv : v < 4096) (l : List InsV) : (scanV (v : Int) l = some true ∧ hasB (thrS l []) (v : Int) = true) ∨ (scanV (v : Int) l = some false ∧ hasB (thrS l []) (v : Int) = false ∧ setB l v) ∨ (scanV (v : Int) l = none ∧ hasB (thrS l []) (v : Int) = false ∧ ¬ setB l v) := by
  have h0 : SetOk [] := ⟨by simp, fun x hx => by cases hx⟩
  induction l with
  | nil => exact .inr (.inr ⟨rfl, by simp [thrS, hasB], fun ⟨x, hx, _⟩ => by cases hx⟩)
  | cons x l ih =>
    have hi := insS_has (x := x) (thrS_ok (l := l) h0).2 v
    have ht : thrS (x :: l) [] = insS x (thrS l []) := rfl
    rw [← ht] at hi
    unfold scanV
    by_cases hu : (v : Int) ∈ usesL x
    · rw [if_pos hu]
      exact .inl ⟨rfl, hi.2 (.inr ⟨hu, hv⟩)⟩
    · rw [if_neg hu]
      by_cases hd : hasB4 x.op 68 = true ∧ x.d = (v : Int)
      · rw [if_pos hd]
        refine .inr (.inl ⟨rfl, ?_, x, List.mem_cons_self, hd⟩)
        refine Bool.eq_false_iff.2 fun h => ?_
        rcases hi.1 h with ⟨h1, -⟩ | ⟨h1, -⟩
        · exact h1 hd
        · exact hu h1
      · rw [if_neg hd]
        rcases ih with ⟨h1, h2⟩ | ⟨h1, h2, h3⟩ | ⟨h1, h2, h3⟩
        · exact .inl ⟨h1, hi.2 (.inl ⟨hd, h2⟩)⟩
        · refine .inr (.inl ⟨h1, Bool.eq_false_iff.2 fun h => ?_, ?_⟩)
          · rcases hi.1 h with ⟨-, h4⟩ | ⟨h4, -⟩
            · rw [h2] at h4; cases h4
            · exact hu h4
          · obtain ⟨y, hy, h4⟩ := h3
            exact ⟨y, List.mem_cons_of_mem _ hy, h4⟩
        · refine .inr (.inr ⟨h1, Bool.eq_false_iff.2 fun h => ?_, ?_⟩)
          · rcases hi.1 h with ⟨-, h4⟩ | ⟨h4, -⟩
            · rw [h2] at h4; cases h4
            · exact hu h4
          · rintro ⟨y, hy, h4⟩
            rcases List.mem_cons.1 hy with rfl | hy
            · exact hd h4
            · exact h3 ⟨y, hy, h4⟩
/-- v is live ahead of l, which ends block b. -/
def LvA (f : FunV) (v b : Nat) (l : List InsV) : Prop := scanV (v : Int) l = some true ∨ (scanV (v : Int) l = none ∧ ∃ z ∈ nxt f b, Lv f z.toNat v)
theorem LvA.thr {f : FunV} {v b : Nat} (hv : v < 4096) {l : List InsV} {t : List Nat} (ht : JnS f (nxt f b) t) : hasB (thrS l t) (v : Int) = true ↔ LvA f v b l := by
  rw [thrS_has l ht.ok, ht.has]
  unfold LvA
  rcases scanV_cases v hv l with ⟨h1, h2⟩ | ⟨h1, h2, h3⟩ | ⟨h1, h2, h3⟩
  · simp [h1, h2]
  · simp [h1, h2, h3]
  · simp [h1, h2, h3]
theorem LvA.lv {f : FunV} {v b : Nat} (hv : v < 4096) (hok : FlowOk f) (hb : b < f.blocks.length) (h : LvA f v b (codeOf f b)) : Lv f b v := by
  rcases scanV_cases v hv (codeOf f b) with ⟨h1, h2⟩ | ⟨h1, h2, h3⟩ | ⟨h1, h2, h3⟩
  · exact Lv.here hb h2
  · rcases h with h | ⟨h, -⟩ <;> rw [h1] at h <;> cases h
  · rcases h with h | ⟨h, z, hz, hl⟩
    · rw [h1] at h; cases h
    · have hr := hok.2.2 b z hz
      exact Lv.on hb (c := z.toNat) (by omega) (by rw [show ((z.toNat : Nat) : Int) = z by omega]; exact hz) hl h3
/-- By the marks m, nothing is found from l (the end of block b) on. -/
def AtV (f : FunV) (v : Nat) (m : List Bool) (b : Nat) (l : List InsV) : Prop := scanV (v : Int) l ≠ some true ∧ (scanV (v : Int) l = none → ∀ z ∈ nxt f b, metB m z = true)
theorem AtV.mono {f : FunV} {v : Nat} {m m' : List Bool} {b : Nat} {l : List InsV} (h : AtV f v m b l) (hm : ∀ z, metB m z = true → metB m' z = true) : AtV f v m' b l := ⟨h.1, fun h1 z hz => hm z (h.2 h1 z hz)⟩
/-- What the walk leaves: its answer r, its marks m'. -/
structure FromP (f : FunV) (v b : Nat) (l : List InsV) (m : List Bool) (r : Bool) (m' : List Bool) : Prop where
  len : m'.length = m.length
  more : ∀ z, metB m z = true → metB m' z = true
  cnt : m'.count false ≤ m.count false
  yes : r = true → LvA f v b l
  no : r = false → AtV f v m' b l ∧ ∀ c : Nat, metB m' (c : Int) = true → metB m (c : Int) = false → AtV f v m' c (codeOf f c)
/-- While the blocks nx that come next are gone through. -/
structure WF (f : FunV) (v : Nat) (m0 : List Bool) (nx : List Int) (k : Nat) (mk : List Bool) : Prop where
  len : mk.length = m0.length
  more : ∀ z, metB m0 z = true → metB mk z = true
  cnt : mk.count false ≤ m0.count false
  done : ∀ z ∈ nx.take k, metB mk z = true
  clo : ∀ c : Nat, metB mk (c : Int) = true → metB m0 (c : Int) = false → AtV f v mk c (codeOf f c)
theorem WF.start (f : FunV) (v : Nat) (m : List Bool) (nx : List Int) : WF f v m nx 0 m := ⟨rfl, fun _ h => h, Nat.le_refl _, fun z hz => (by simp at hz), fun c h1 h2 => (by rw [h1] at h2; cases h2)⟩
theorem WF.skip {f : FunV} {v : Nat} {m0 mk : List Bool} {nx : List Int} {k : Nat} {n : Int} (h : WF f v m0 nx k mk) (hn : nx[k]? = some n) (hm : metB mk n = true) : WF f v m0 nx (k + 1) mk :=
  ⟨h.len, h.more, h.cnt, fun z hz => by
    rw [take_snoc hn, List.mem_append] at hz
    rcases hz with hz | hz
    · exact h.done z hz
    · simp at hz; subst hz; exact hm, h.clo⟩
theorem metB_set {m : List Bool} {n : Nat} (hn : n < m.length) (z : Int) (hz : 0 ≤ z) : metB (m.set n true) z = true ↔ (metB m z = true ∨ z = (n : Int)) := by
  unfold metB
  simp only [List.getD, List.getElem?_set]
  by_cases h : n = z.toNat
  · rw [if_pos h]
    have : z = (n : Int) := by omega
    simp [hn, this]
  · rw [if_neg h]
    have : z ≠ (n : Int) := by omega
    simp [this]
theorem metB_more {m : List Bool} {n : Nat} {z : Int} (h : metB m z = true) : metB (m.set n true) z = true := by
  unfold metB at h ⊢
  simp only [List.getD, List.getElem?_set] at h ⊢
  split
  · rename_i e
    split
    · rfl
    · rename_i hn
      rw [List.getElem?_eq_none (by omega)] at h
      simp at h
  · exact h
theorem count_set {m : List Bool} {n : Nat} (hn : n < m.length) (h : metB m (n : Int) = false) : (m.set n true).count false + 1 = m.count false := count_meet (m := m) (c := (n : Int)) (by simpa using hn) h
theorem WF.call {f : FunV} {v : Nat} {m0 mk m2 : List Bool} {nx : List Int} {k n : Nat} {r : Bool} (h : WF f v m0 nx k mk) (hn : nx[k]? = some (n : Int)) (hl : n < mk.length) (hm : metB mk (n : Int) = false) (hf : FromP f v n (codeOf f n) (mk.set n true) r m2) (hr : r = false) : WF f v m0 nx (k + 1) m2 := by
  obtain ⟨a1, a2⟩ := hf.no hr
  have hc := count_set hl hm
  have hmono : ∀ z, metB mk z = true → metB m2 z = true := fun z hz => hf.more z (metB_more hz)
  have hnm : metB m2 (n : Int) = true := hf.more _ ((metB_set hl _ (by omega)).2 (.inr rfl))
  refine ⟨by rw [hf.len, List.length_set, h.len], fun z hz => hmono z (h.more z hz), by have := hf.cnt; have := h.cnt; omega, fun z hz => ?_, fun c h1 h2 => ?_⟩
  · rw [take_snoc hn, List.mem_append] at hz
    rcases hz with hz | hz
    · exact hmono z (h.done z hz)
    · simp at hz; subst hz; exact hnm
  · cases hq : metB (mk.set n true) (c : Int) with
    | false => exact a2 c h1 hq
    | true =>
      rcases (metB_set hl _ (by omega)).1 hq with h3 | h3
      · exact (h.clo c h3 h2).mono hmono
      · obtain rfl : c = n := by omega
        exact a1
theorem WF.yes {f : FunV} {v b : Nat} {m0 mk m2 : List Bool} {l : List InsV} {k n : Nat} {r : Bool} (hv : v < 4096) (hok : FlowOk f) (h : WF f v m0 (nxt f b) k mk) (hn : (nxt f b)[k]? = some (n : Int)) (hl : n < mk.length) (hm : metB mk (n : Int) = false) (hs : scanV (v : Int) l = none) (hf : FromP f v n (codeOf f n) (mk.set n true) r m2) (hr : r = true) : FromP f v b l m0 true m2 := by
  have hc := count_set hl hm
  have hr2 := hok.2.2 b (n : Int) (List.mem_of_getElem? hn)
  refine ⟨by rw [hf.len, List.length_set, h.len], fun z hz => hf.more z (metB_more (h.more z hz)), by have := hf.cnt; have := h.cnt; omega, fun _ => .inr ⟨hs, (n : Int), List.mem_of_getElem? hn, ?_⟩, fun e => by cases e⟩
  rw [Int.toNat_natCast]
  exact (hf.yes hr).lv hv hok (by omega)
theorem WF.end {f : FunV} {v b : Nat} {m0 mk : List Bool} {l : List InsV} {k : Nat} (h : WF f v m0 (nxt f b) k mk) (hk : (nxt f b).length ≤ k) (hs : scanV (v : Int) l = none) : FromP f v b l m0 false mk :=
  ⟨h.len, h.more, h.cnt, fun e => (by cases e), fun _ => ⟨⟨by rw [hs]; simp, fun _ z hz => h.done z (by rw [List.take_of_length_le hk]; exact hz)⟩, h.clo⟩⟩
theorem FromP.found {f : FunV} {v b : Nat} {l : List InsV} {m : List Bool} (hs : scanV (v : Int) l = some true) : FromP f v b l m true m := ⟨rfl, fun _ h => h, Nat.le_refl _, fun _ => .inl hs, fun e => (by cases e)⟩
theorem FromP.set {f : FunV} {v b : Nat} {l : List InsV} {m : List Bool} (hs : scanV (v : Int) l = some false) : FromP f v b l m false m := ⟨rfl, fun _ h => h, Nat.le_refl _, fun e => (by cases e), fun _ => ⟨⟨(by rw [hs]; simp), fun h => (by rw [hs] at h; cases h)⟩, fun c h1 h2 => (by rw [h1] at h2; cases h2)⟩⟩
theorem metB_none (n : Nat) (z : Int) : metB (List.replicate n false) z = false := by
  unfold metB
  simp only [List.getD, List.getElem?_replicate]
  split <;> rfl
/-- The whole walk, begun without marks. -/
theorem FromP.all {f : FunV} {v b : Nat} {l : List InsV} {n : Nat} {r : Bool} {m' : List Bool} (hv : v < 4096) (hok : FlowOk f) (h : FromP f v b l (List.replicate n false) r m') : r = true ↔ LvA f v b l := by
  refine ⟨h.yes, fun hl => ?_⟩
  cases r with
  | true => rfl
  | false =>
    exfalso
    obtain ⟨⟨a1, a2⟩, a3⟩ := h.no rfl
    have hno : ∀ c : Nat, Lv f c v → ¬ metB m' (c : Int) = true := fun c hc => hc (fun c => ¬ metB m' (c : Int) = true)
      (fun b _ h1 hm => by
        obtain ⟨k1, -⟩ := a3 b hm (metB_none _ _)
        rcases scanV_cases v hv (codeOf f b) with ⟨h2, -⟩ | ⟨-, h2, -⟩ | ⟨-, h2, -⟩
        · exact k1 h2
        · rw [h2] at h1; cases h1
        · rw [h2] at h1; cases h1)
      (fun b c _ _ he hp hs hm => by
        obtain ⟨k1, k2⟩ := a3 b hm (metB_none _ _)
        rcases scanV_cases v hv (codeOf f b) with ⟨h2, -⟩ | ⟨-, -, h2⟩ | ⟨h2, -, -⟩
        · exact k1 h2
        · exact hs h2
        · exact hp (k2 h2 _ he))
    rcases hl with hl | ⟨hl, z, hz, hlv⟩
    · exact a1 hl
    · have := hok.2.2 b z hz
      have h5 := hno z.toNat hlv
      rw [show ((z.toNat : Nat) : Int) = z by omega] at h5
      exact h5 (a2 hl z hz)
theorem scanV_drop {v : Int} {l : List InsV} {k : Nat} {x : InsV} (hx : l[k]? = some x) : scanV v (l.drop k) = if v ∈ usesL x then some true else if hasB4 x.op 68 = true ∧ x.d = v then some false else scanV v (l.drop (k + 1)) := by
  have hl := (List.getElem?_eq_some_iff.1 hx).1
  rw [List.drop_eq_getElem_cons hl, (List.getElem?_eq_some_iff.1 hx).2]
  rfl
/-- What is live is a variable. -/
theorem lv_var {p : List FunV} {f : FunV} {b v : Nat} (hmay : ∀ l ∈ f.blocks, ∀ x ∈ l, mayB4 p f x = true) (hk : f.kinds.length ≤ 48) (h : Lv f b v) : v < f.kinds.length := by
  have h0 : SetOk [] := ⟨by simp, fun x hx => by cases hx⟩
  have key : ∀ l : List InsV, (∀ x ∈ l, mayB4 p f x = true) → hasB (thrS l []) (v : Int) = true → v < f.kinds.length := by
    intro l
    induction l with
    | nil => intro _ h; simp [thrS, hasB] at h
    | cons x l ih =>
      intro hm h
      rcases (insS_has (x := x) (thrS_ok (l := l) h0).2 v).1 h with ⟨-, h1⟩ | ⟨h1, -⟩
      · exact ih (fun y hy => hm y (List.mem_cons_of_mem _ hy)) h1
      · have := inVar_nn ((may_parts (hm x List.mem_cons_self)).2.2.2.1 _ h1)
        omega
  refine h (fun _ => v < f.kinds.length) (fun b hb h1 => ?_) (fun b c _ _ _ h1 _ => h1)
  obtain ⟨l, hl⟩ : ∃ l, f.blocks[b]? = some l := ⟨_, List.getElem?_eq_getElem hb⟩
  refine key l (hmay l (List.mem_of_getElem? hl)) ?_
  unfold codeOf at h1
  rw [hl] at h1
  exact h1
theorem lvA_var {p : List FunV} {f : FunV} {b v : Nat} (hmay : ∀ l ∈ f.blocks, ∀ x ∈ l, mayB4 p f x = true) (hk : f.kinds.length ≤ 48) {l : List InsV} (hl : ∀ x ∈ l, mayB4 p f x = true) (h : LvA f v b l) : v < f.kinds.length := by
  rcases h with h | ⟨-, z, -, h⟩
  · induction l with
    | nil => cases h
    | cons x l ih =>
      unfold scanV at h
      split at h
      · rename_i hu
        have := inVar_nn ((may_parts (hl x List.mem_cons_self)).2.2.2.1 _ hu)
        omega
      · split at h
        · cases h
        · exact ih (fun y hy => hl y (List.mem_cons_of_mem _ hy)) h
  · exact lv_var hmay hk h
end Go.Proofs.YtbofnlaacjgclaaDoor
