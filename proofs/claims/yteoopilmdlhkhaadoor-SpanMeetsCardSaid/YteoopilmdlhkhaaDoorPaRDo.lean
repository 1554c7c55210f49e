/- Texts of several names, of which only what the statement needs is kept. -/
import Derived.Test.YteoopilmdlhkhaaDoorPaMD
import Derived.Test.YteoopilmdlhkhaaDoorPaMC
import Derived.Test.YteoopilmdlhkhaaDoorPaSW
import Derived.Deep.AppendLies
/- The mathematics of the reader's early end: behind the first error nothing is read: each of the reading functions keeps the state. -/
set_option linter.unusedSimpArgs false
set_option linter.unusedVariables false
namespace Go.Proofs.YteoopilmdlhkhaaDoor
open Go.RowKit

/-- Keeps a state with an error. -/
def KeepE {α : Type} (f : St → α × St) : Prop := ∀ s : St, s.2 ≠ 0 → (f s).2 = s
/-- Behind an error many more read nothing. -/
theorem many_stop {α : Type} {f : St → α × St} (hf : KeepE f) {s : St} {k : Nat} (h : (manyT f k s).2.2 ≠ 0) : ∀ n, k ≤ n → (manyT f n s).2 = (manyT f k s).2 := fun n hn => by
  induction n with
  | zero => have : k = 0 := by omega
            subst this; rfl
  | succ n ih =>
    by_cases hk : k = n + 1
    · subst hk; rfl
    · have e := ih (by omega)
      rw [manyT_st, e, hf _ h]
end Go.Proofs.YteoopilmdlhkhaaDoor

/- The mathematics of the reference's Decode: loops that stop at the first error: what they leave is what the whole reading leaves, and where no error came, its value. -/
set_option linter.unusedSimpArgs false
set_option linter.unusedVariables false
namespace Go.Proofs.YteoopilmdlhkhaaDoor
open Go.RowKit

/-- An answer of a reading function: the state is its own, the value where no error came. -/
def AnsT {α : Type} (r : α × St) (x : α) (t : St) : Prop := t = r.2 ∧ (t.2 = 0 → x = r.1)
/-- j rounds of a reading under way. -/
def UpTo {α : Type} (f : St → α × St) (j : Nat) (s : St) (l : List α) (t : St) : Prop := l.length = j ∧ AnsT (manyT f j s) l t
section
variable {α : Type} {f : St → α × St} {j m : Nat} {s t t' : St} {l : List α} {x : α}
theorem KeepE.zero (hf : KeepE f) (h : (f t).2.2 = 0) : t.2 = 0 := by
  apply Classical.byContradiction
  intro hn
  rw [hf t hn] at h
  exact hn h
theorem UpTo.zero (f : St → α × St) (s : St) : UpTo f 0 s [] s := ⟨rfl, rfl, fun _ => rfl⟩
theorem UpTo.step (h : UpTo f j s l t) (hf : KeepE f) (hx : AnsT (f t) x t') : UpTo f (j + 1) s (l ++ [x]) t' := by
  obtain ⟨h1, rfl, h3⟩ := h
  obtain ⟨rfl, h4⟩ := hx
  refine ⟨by simp [h1], rfl, fun he => ?_⟩
  rw [manyT_ls, h3 (hf.zero he), h4 he]
theorem UpTo.stop (h : UpTo f j s l t) (hf : KeepE f) (hj : j ≤ m) (he : j = m ∨ t.2 ≠ 0) : AnsT (manyT f m s) l t := by
  obtain ⟨h1, h2, h3⟩ := h
  rcases he with rfl | he
  · exact ⟨h2, h3⟩
  · exact ⟨by rw [h2]; exact (many_stop hf (by rw [← h2]; exact he) m hj).symm, fun h => absurd h he⟩
end
end Go.Proofs.YteoopilmdlhkhaaDoor

/- The reference's instruction under way, in memory: its cells, its own list, the reader. -/
set_option linter.unusedSimpArgs false
set_option linter.unusedVariables false
namespace Go.Proofs.YteoopilmdlhkhaaDoor
open Go.RowKit

/-- An own list stays when only the block g changes and new ones come. -/
theorem Ow.read {w w1 : World} {base g : Nat} {e : TypeId} {k : IntKind} {v : Value} {zs : List Int} (h : Ow w base e k v zs) (hr : Read g w w1) (hg : v.ownBlock ≠ some g) : Ow w1 base e k v zs := by
  refine ⟨h.1, ?_⟩
  rcases h.2 with h2 | ⟨b, cap, cur, hv, hb, hh, r⟩
  · exact .inl h2
  · refine .inr ⟨b, cap, cur, hv, hb, (hr.block b (Array.getElem?_eq_some_iff.1 hh).1 (fun e => hg ?_)).trans hh, r⟩
    subst e
    subst hv
    rfl
end Go.Proofs.YteoopilmdlhkhaaDoor

/- The contract of the statements' fixed fact. Condition: the table of parts reads as listed. -/
set_option linter.unusedSimpArgs false
set_option linter.unusedVariables false
namespace Go.Proofs.YteoopilmdlhkhaaDoor
open Go.RowKit

def P0 : FunV := ⟨[0], [-1], 0, 0, [[⟨1, 0, 0, 0, 5, 0, []⟩, ⟨23, 0, 0, 0, 0, 0, []⟩]]⟩
end Go.Proofs.YteoopilmdlhkhaaDoor

/- The reference's ins, its mathematics: what the operation's number leaves; the instruction under way when a letter is laid, when a number is put behind its list. No condition. -/
set_option linter.unusedSimpArgs false
set_option linter.unusedVariables false
namespace Go.Proofs.YteoopilmdlhkhaaDoor
open Go.RowKit

/-- Block b holds things of type T. -/
def TB (w : World) (T : TypeId) (b : Nat) : Prop := ∃ c fz, w.heap[b]? = some (.cells c T fz)
theorem TB.set {w : World} {T : TypeId} {b h j : Nat} {v : Value} (t : TB w T b) (hb : b ≠ h) : TB (w.setCell ⟨h, j, none⟩ v) T b := by
  obtain ⟨c, fz, e⟩ := t
  exact ⟨c, fz, (heap_setCell_other w ⟨h, j, none⟩ b v hb).trans e⟩
end Go.Proofs.YteoopilmdlhkhaaDoor

/- Own lists of structs in memory: things of sz cells each, laid by c. No condition. -/
set_option linter.unusedSimpArgs false
set_option linter.unusedVariables false
namespace Go.Proofs.YteoopilmdlhkhaaDoor
open Go.RowKit

/-- The slice value v is the call's own, from block base on, of things of type T: those of l. -/
def OwC {β : Type} (c : β → List Value) (T : TypeId) (sz : Nat) (w : World) (base : Nat) (v : Value) (l : List β) : Prop := w.ownsRow base T sz v l.length (l.flatMap c)
theorem flat_at {β : Type} {c : β → List Value} {sz : Nat} : ∀ (l : List β) (j i : Nat) (y : β), (∀ y ∈ l, (c y).length = sz) → l[j]? = some y → i < sz → (l.flatMap c)[j * sz + i]? = (c y)[i]?
  | [], j, i, y, _, h, _ => by simp at h
  | x :: l, 0, i, y, hc, h, hi => by
    simp at h
    subst h
    rw [List.flatMap_cons, Nat.zero_mul, Nat.zero_add, List.getElem?_append_left (by rw [hc x List.mem_cons_self]; exact hi)]
  | x :: l, j + 1, i, y, hc, h, hi => by
    have h1 := hc x List.mem_cons_self
    rw [List.flatMap_cons, List.getElem?_append_right (by rw [h1, Nat.succ_mul]; omega), h1, show (j + 1) * sz + i - sz = j * sz + i by rw [Nat.succ_mul]; omega]
    exact flat_at l j i y (fun y hy => hc y (List.mem_cons_of_mem _ hy)) (by simpa using h) hi
section
variable {β : Type} {c : β → List Value} {T : TypeId} {sz : Nat} {w w' : World} {base : Nat} {v : Value} {l : List β}
theorem OwC.nil (w : World) (base : Nat) : OwC c T sz w base (.slice none 0 0) [] := World.ownsRow_nil _ _ _ _
theorem OwC.kept (h : OwC c T sz w base v l) (hk : ∀ g, v.ownBlock = some g → w'.heap[g]? = w.heap[g]?) : OwC c T sz w' base v l := by
  refine ⟨h.1, ?_⟩
  rcases h.2 with h2 | ⟨g, cap, cur, hv, hg, hh, r⟩
  · exact .inl h2
  · exact .inr ⟨g, cap, cur, hv, hg, (hk g (by rw [hv]; rfl)).trans hh, r⟩
theorem OwC.lt (h : OwC c T sz w base v l) : ∀ k, v.ownBlock = some k → base ≤ k ∧ k < w.heap.size := World.ownsRow.lt h
theorem OwC.row (h : OwC c T sz w base v l) : ∀ g, v.ownBlock = some g → TB w T g := fun g hg => by
  rcases h.2 with ⟨rfl, -⟩ | ⟨g', cap, cur, rfl, -, hh, -⟩
  · cases hg
  · simp [Value.ownBlock] at hg
    subst hg
    exact ⟨cur, _, hh⟩
theorem OwC.sl (h : OwC c T sz w base v l) : ∃ A cp, v = .slice A l.length cp ∧ l.length ≤ cp ∧ cp ≤ maxLen := by
  rcases h.2 with ⟨rfl, h0⟩ | ⟨g, cap, cur, rfl, hg, hh, hnc, hcm, -⟩
  · exact ⟨none, 0, by rw [h0], by omega, by simp [maxLen]⟩
  · exact ⟨_, _, rfl, hnc, hcm⟩
/-- As a slice of the things that its cells hold. -/
theorem OwC.vec {α : Type} {P : Nat → Nat → α → Prop} {S : Nat → Prop} {xs : List α} (h : OwC c T sz w base v l) (hc : ∀ y ∈ l, (c y).length = sz) (hl : xs.length = l.length)
    (hS : ∀ b, v.ownBlock = some b → S b) (hP : ∀ (b o j : Nat) (x : α) (y : β), xs[j]? = some x → l[j]? = some y → (∀ (i : Nat) (u : Value), (c y)[i]? = some u → w.cell? ⟨b, o + i, none⟩ = some u) → P b o x) : Vec sz P S v xs := by
  have h0 := h
  rcases h.2 with ⟨rfl, e⟩ | ⟨g, cap, cur, rfl, hg, hh, hnc, hcm, hsz, htake⟩
  · have hx : xs = [] := List.eq_nil_of_length_eq_zero (by omega)
    subst hx
    exact Vec.nil _ _ _
  · refine ⟨some ⟨g, 0, none⟩, cap, by rw [hl], by omega, by simpa [maxLen] using hcm, fun hp => ⟨g, 0, rfl, hS g rfl, fun j x hx => ?_⟩⟩
    have hj : j < l.length := by rw [← hl]; exact (List.getElem?_eq_some_iff.1 hx).1
    obtain ⟨y, hy⟩ : ∃ y, l[j]? = some y := ⟨_, List.getElem?_eq_getElem hj⟩
    refine hP g _ j x y hx hy (fun i u hu => ?_)
    have hi : i < sz := by
      have := (List.getElem?_eq_some_iff.1 hu).1
      rw [hc y (List.mem_of_getElem? hy)] at this
      exact this
    have hlt : j * sz + i < l.length * sz := by
      have : (j + 1) * sz ≤ l.length * sz := Nat.mul_le_mul_right _ (by omega)
      rw [Nat.succ_mul] at this
      omega
    rw [Nat.zero_add, World.ownsRow.cellAt h0 _ hlt, flat_at l j i y hc hy hi]
    exact hu
end
theorem TB.keep {w w' : World} {T : TypeId} {b : Nat} (t : TB w T b) (h : w'.heap[b]? = w.heap[b]?) : TB w' T b := by
  obtain ⟨c, fz, e⟩ := t
  exact ⟨c, fz, h.trans e⟩
theorem TB.one {w : World} {T T' : TypeId} {b : Nat} (t : TB w T b) (t' : TB w T' b) : T = T' := by
  obtain ⟨c, fz, e⟩ := t
  obtain ⟨c', fz', e'⟩ := t'
  rw [e] at e'
  injection e' with e'
  injection e' with _ h _
theorem TB.lt {w : World} {T : TypeId} {b : Nat} (t : TB w T b) : b < w.heap.size := by
  obtain ⟨c, fz, e⟩ := t
  exact (Array.getElem?_eq_some_iff.1 e).1
theorem Box.tb {w : World} {h : Nat} {cs : Array Value} {T : TypeId} (b : Box w h cs T) : TB w T h := ⟨cs, _, b⟩
/-- A block of another type is not the own one's. -/
theorem OwC.apart {β : Type} {c : β → List Value} {T T' : TypeId} {sz : Nat} {w : World} {base b : Nat} {v : Value} {l : List β} (h : OwC c T sz w base v l) (t : TB w T' b) (hT : T ≠ T') : v.ownBlock ≠ some b := fun e => hT ((h.row b e).one t)
def insC (p : InsV × Value) : List Value := [.int .i64 p.1.op, .int .i64 p.1.d, .int .i64 p.1.a, .int .i64 p.1.b, .int .i64 p.1.n, .int .i64 p.1.m, p.2]
def blkC (p : List InsV × Value) : List Value := [p.2]
section
variable {w : World} {S : Nat → Prop} {base : Nat} {v : Value}
theorem codes_vec {l : List (InsV × Value)} (h : OwC insC 28 7 w base v l) (hl : ∀ p ∈ l, InsI w S p.2 p.1) (hS : ∀ b, v.ownBlock = some b → S b) : InssV w S v (l.map (·.1)) :=
  h.vec (fun _ _ => rfl) (by simp) hS fun b o j x y hx hy hc => by
    rw [List.getElem?_map, hy] at hx
    simp at hx
    subst hx
    exact ⟨y.2, ⟨hc 0 _ rfl, hc 1 _ rfl, hc 2 _ rfl, hc 3 _ rfl, hc 4 _ rfl, hc 5 _ rfl, hc 6 _ rfl⟩, hl y (List.mem_of_getElem? hy)⟩
theorem blks_vec {l : List (List InsV × Value)} (h : OwC blkC 31 1 w base v l) (hl : ∀ p ∈ l, InssV w S p.2 p.1) (hS : ∀ b, v.ownBlock = some b → S b) : BlksV w S v (l.map (·.1)) :=
  h.vec (fun _ _ => rfl) (by simp) hS fun b o j x y hx hy hc => by
    rw [List.getElem?_map, hy] at hx
    simp at hx
    subst hx
    exact ⟨y.2, hc 0 _ rfl, hl y (List.mem_of_getElem? hy)⟩
theorem ints_vec {zs : List Int} (h : Ow w base 3 .i64 v zs) (hR : ∀ z ∈ zs, i64R z) (hS : ∀ b, v.ownBlock = some b → S b) : IntsV w S v zs := by
  obtain ⟨A, c, rfl, hc, hm, hs⟩ := h.sl
  refine ⟨A, c, rfl, hc, by simpa [maxLen] using hm, fun hp => ?_⟩
  obtain ⟨b, o, rfl, hb, hcell⟩ := hs hp
  refine ⟨b, o, rfl, hS b rfl, fun j x hj => ⟨?_, hR x (List.mem_of_getElem? hj)⟩⟩
  rw [Nat.mul_one, hcell j (List.getElem?_eq_some_iff.1 hj).1]
  simp [List.getD, hj]
end
/-- What is finished: made since H, and none of the blocks under way (M). -/
def Fin' (w : World) (H : Nat) (M : Nat → Prop) (b : Nat) : Prop := H ≤ b ∧ b < w.heap.size ∧ ¬ M b
/-- All blocks but those of M are as they were: what is finished stays. -/
theorem Fin'.same {w w' : World} {H : Nat} {M : Nat → Prop} (hk : ∀ b, b < w.heap.size → ¬ M b → w'.heap[b]? = w.heap[b]?) : Same' (Fin' w H M) w w' := fun b o hb => World.cell?_of_block (a := ⟨b, o, none⟩) (hk b hb.2.1 hb.2.2)
theorem Fin'.move {w w' : World} {H : Nat} {M M' : Nat → Prop} (hz : w.heap.size ≤ w'.heap.size) (hM : ∀ b, b < w.heap.size → M' b → M b) : ∀ b, Fin' w H M b → Fin' w' H M' b := fun b hb => ⟨hb.1, by have := hb.2.1; omega, fun hm => hb.2.2 (hM b hb.2.1 hm)⟩
end Go.Proofs.YteoopilmdlhkhaaDoor
