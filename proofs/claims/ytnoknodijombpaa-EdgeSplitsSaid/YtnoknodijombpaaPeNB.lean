/- Plain mathematics: a walk over blocks, as a relation; it has one outcome; the same walk with a list of what isn't left yet. Condition: what comes next is there. -/
import Derived.Test.YtnoknodijombpaaPeNA
import Derived.Test.YtnoknodijombpaaPeMD
import Derived.Deep.RegionLaw
import Derived.Deep.RegionHeld3
import Derived.Deep.DrawnRows
import Derived.BigQuiet
import Derived.BigRegion
import Derived.Deep.LoopGhost
set_option linter.unusedSimpArgs false
set_option linter.unusedVariables false
namespace Go.Proofs.Ytnoknodijombpaa

def metB (m : List Bool) (c : Int) : Bool := m.getD c.toNat false
def meet (m : List Bool) (c : Int) : List Bool := m.set c.toNat true
inductive Dfs (f : FunV) : List Int → List Bool → List Int → List Bool → List Int → Prop
  | nil (m l) : Dfs f [] m l m l
  | old {c cs m l m' l'} : metB m c = true → Dfs f cs m l m' l' → Dfs f (c :: cs) m l m' l'
  | new {c cs m l m1 l1 m' l'} : metB m c = false → Dfs f (nxt f c.toNat) (meet m c) l m1 l1 → Dfs f cs m1 (l1 ++ [c]) m' l' → Dfs f (c :: cs) m l m' l'
theorem Dfs.one {f : FunV} {cs : List Int} {m : List Bool} {l : List Int} {m1 m2 : List Bool} {l1 l2 : List Int} (h1 : Dfs f cs m l m1 l1) : Dfs f cs m l m2 l2 → m1 = m2 ∧ l1 = l2 := by
  induction h1 generalizing m2 l2 with
  | nil m l => intro h2; cases h2; exact ⟨rfl, rfl⟩
  | old hm _ ih =>
    intro h2
    cases h2 with
    | old _ h => exact ih h
    | new hf _ _ => rw [hm] at hf; cases hf
  | new hm _ _ ih1 ih2 =>
    intro h2
    cases h2 with
    | old hf _ => rw [hm] at hf; cases hf
    | new _ ha hb =>
      obtain ⟨rfl, rfl⟩ := ih1 ha
      exact ih2 hb
/-- The same walk under way: what isn't left yet (the last one on top) comes to its end so. -/
inductive FinS (f : FunV) : List (Int × List Int) → List Bool → List Int → List Bool → List Int → Prop
  | done (m l) : FinS f [] m l m l
  | go {b nx st m l m1 l1 m' l'} : Dfs f nx m l m1 l1 → FinS f st m1 (l1 ++ [b]) m' l' → FinS f ((b, nx) :: st) m l m' l'
theorem FinS.pop {f : FunV} {b : Int} {st m l m' l'} (h : FinS f ((b, []) :: st) m l m' l') : FinS f st m (l ++ [b]) m' l' := by
  cases h with
  | go h1 h2 => cases h1; exact h2
theorem FinS.old {f : FunV} {b c : Int} {cs : List Int} {st m l m' l'} (h : FinS f ((b, c :: cs) :: st) m l m' l') (hm : metB m c = true) : FinS f ((b, cs) :: st) m l m' l' := by
  cases h with
  | go h1 h2 =>
    cases h1 with
    | old _ h => exact .go h h2
    | new hf _ _ => rw [hm] at hf; cases hf
theorem FinS.new {f : FunV} {b c : Int} {cs : List Int} {st m l m' l'} (h : FinS f ((b, c :: cs) :: st) m l m' l') (hm : metB m c = false) : FinS f ((c, nxt f c.toNat) :: (b, cs) :: st) (meet m c) l m' l' := by
  cases h with
  | go h1 h2 =>
    cases h1 with
    | old hf _ => rw [hm] at hf; cases hf
    | new _ ha hb => exact .go ha (.go hb h2)
/-- A walk from block c on. -/
theorem FinS.start {f : FunV} {c : Int} {m l m' l'} (h : Dfs f [c] m l m' l') (hm : metB m c = false) : FinS f [(c, nxt f c.toNat)] (meet m c) l m' l' := by
  cases h with
  | old hf _ => rw [hm] at hf; cases hf
  | new _ ha hb => cases hb; exact .go ha (.done _ _)
end Go.Proofs.Ytnoknodijombpaa
namespace Go.Proofs.Ytnoknodijombpaa
open Go.RowKit

def vCells (os : List (Int × Value)) : List Value := os.flatMap (fun p => [Value.int .i64 p.1, p.2])
theorem vCells_len (os : List (Int × Value)) : (vCells os).length = os.length * 2 := by
  induction os with
  | nil => rfl
  | cons p es ih => simp only [vCells, List.flatMap_cons, List.length_append, List.length_cons] at *; simp at *; omega
theorem vCells_app (os : List (Int × Value)) (p : Int × Value) : vCells (os ++ [p]) = vCells os ++ [Value.int .i64 p.1, p.2] := by simp [vCells]
/-- The slice value v is the call's own, from block 'base' on, and holds the visits os. -/
def OwV (w : World) (base : Nat) (v : Value) (os : List (Int × Value)) : Prop := w.ownsRow base 106 2 v os.length (vCells os)
section
variable {w w' : World} {base : Nat} {v : Value} {os : List (Int × Value)}
theorem OwV.nil (w : World) (base : Nat) : OwV w base (.slice none 0 0) [] := World.ownsRow_nil _ _ _ _
theorem OwV.kept (h : OwV w base v os) (hk : ∀ g, v.ownBlock = some g → w'.heap[g]? = w.heap[g]?) : OwV w' base v os := by
  refine ⟨h.1, ?_⟩
  rcases h.2 with h2 | ⟨g, cap, cur, hv, hg, hh, r⟩
  · exact .inl h2
  · exact .inr ⟨g, cap, cur, hv, hg, (hk g (by rw [hv]; rfl)).trans hh, r⟩
theorem OwV.lt (h : OwV w base v os) : ∀ k, v.ownBlock = some k → base ≤ k ∧ k < w.heap.size := World.ownsRow.lt h
theorem OwV.row (h : OwV w base v os) : ∀ g, v.ownBlock = some g → ∃ c, w.heap[g]? = some (.cells c 106 (0, 0)) := fun g hg => by
  rcases h.2 with ⟨rfl, -⟩ | ⟨g', cap, cur, rfl, -, hh, -⟩
  · cases hg
  · simp [Value.ownBlock] at hg
    subst hg
    exact ⟨cur, hh⟩
theorem Ow.kept' {e : TypeId} {k : IntKind} {zs : List Int} (h : Ow w base e k v zs) (hk : ∀ g, v.ownBlock = some g → w'.heap[g]? = w.heap[g]?) : Ow w' base e k v zs := by
  refine ⟨h.1, ?_⟩
  rcases h.2 with h2 | ⟨g, cap, cur, hv, hg, hh, r⟩
  · exact .inl h2
  · exact .inr ⟨g, cap, cur, hv, hg, (hk g (by rw [hv]; rfl)).trans hh, r⟩
theorem Ow.row' {e : TypeId} {k : IntKind} {zs : List Int} (h : Ow w base e k v zs) : ∀ g, v.ownBlock = some g → base ≤ g ∧ g < w.heap.size ∧ ∃ c, w.heap[g]? = some (.cells c e (0, 0)) := fun g hg => by
  rcases h.2 with ⟨rfl, -⟩ | ⟨g', cap, cur, rfl, hb, hh, -⟩
  · cases hg
  · simp [Value.ownBlock] at hg
    subst hg
    exact ⟨hb, (Array.getElem?_eq_some_iff.1 hh).1, cur, hh⟩
theorem OwV.pop {b : Int} {x : Value} {g n cap : Nat} (h : OwV w base (.slice (some ⟨g, 0, none⟩) n cap) (os ++ [(b, x)])) : OwV w base (.slice (some ⟨g, 0, none⟩) os.length cap) os := by
  have hl : (os ++ [(b, x)]).length = os.length + 1 := by simp
  unfold OwV at *
  rw [hl] at h
  rcases h.2 with ⟨h0, -⟩ | ⟨g', cap', cur, hv, hg, hh, hnc, hcm, hsz, htake⟩
  · cases h0
  · injection hv with h1 h2 h3
    injection h1 with h1
    injection h1 with h1
    subst h1; subst h2; subst h3
    refine ⟨vCells_len os, .inr ⟨_, _, cur, rfl, hg, hh, by omega, hcm, hsz, ?_⟩⟩
    have e : cur.toList.take (os.length * 2) = (cur.toList.take ((os.length + 1) * 2)).take (os.length * 2) := by rw [List.take_take, Nat.min_eq_left (by omega)]
    rw [e, htake, vCells_app, List.take_append_of_le_length (by rw [vCells_len]; exact Nat.le_refl _), List.take_of_length_le (by rw [vCells_len]; exact Nat.le_refl _)]
end
def Mut (hw bm : Nat) (vo vl : Value) (b : Nat) : Prop := b = hw ∨ b = bm ∨ vo.ownBlock = some b ∨ vl.ownBlock = some b
def VisOk (w : World) (M : Nat → Prop) (p : Int × Value) (q : Int × List Int) : Prop := p.1 = q.1 ∧ ∃ A c, p.2 = .slice A q.2.length c ∧ q.2.length ≤ c ∧ c ≤ 2 ∧ Sl w w.heap.size .i64 A q.2 ∧ ∀ b o, A = some ⟨b, o, none⟩ → 0 < q.2.length → ¬ M b
theorem VisOk.move {w w' : World} {M M' : Nat → Prop} {p : Int × Value} {q : Int × List Int} (h : VisOk w M p q) (hs : w.heap.size ≤ w'.heap.size) (hk : ∀ b, b < w.heap.size → ¬ M b → w'.heap[b]? = w.heap[b]?) (hM : ∀ b, b < w.heap.size → M' b → M b) : VisOk w' M' p q := by
  obtain ⟨h1, A, c, h2, h3, h4, h5, h6⟩ := h
  refine ⟨h1, A, c, h2, h3, h4, fun hp => ?_, fun b o hA hp hm => ?_⟩
  · obtain ⟨b, o, e, hb, hc⟩ := h5 hp
    exact ⟨b, o, e, by omega, fun j hj => (World.cell?_of_block (a := ⟨b, o + j, none⟩) (hk b hb (h6 b o e hp))).trans (hc j hj)⟩
  · obtain ⟨b', o', e, hb, -⟩ := h5 hp
    rw [hA] at e
    injection e with e
    injection e with e1 e2
    subst e1
    exact h6 b o hA hp (hM b hb hm)
structure WalkP (w : World) (base hw bm n : Nat) (fk fb : Value) (fp fr : Int) (fs : Value) (m : List Bool) (os : List (Int × List Int)) (l : List Int) (vo vl : Value) (ov : List (Int × Value)) : Prop where
  box : Box w hw #[fk, fb, .int .i64 fp, .int .i64 fr, fs, .slice (some ⟨bm, 0, none⟩) n n, vo, vl] 102
  met : Box w bm (m.map Value.bool).toArray 4
  len : m.length = n
  opn : OwV w base vo ov
  lft : Ow w base 3 .i64 vl l
  vlen : ov.length = os.length
  vis : ∀ (i : Nat) p q, ov[i]? = some p → os[i]? = some q → VisOk w (Mut hw bm vo vl) p q
  hb : base ≤ hw ∧ base ≤ bm
section
variable {w w' : World} {base hw bm n : Nat} {fk fb fs vo vl : Value} {fp fr : Int} {m : List Bool} {os : List (Int × List Int)} {l : List Int} {ov : List (Int × Value)}
theorem Box.apart {w : World} {h g : Nat} {cs ds : Array Value} {T U : TypeId} (b : Box w h cs T) (c : w.heap[g]? = some (.cells ds U (0, 0))) (hT : T ≠ U) : h ≠ g := fun e => by
  subst e
  have := b.symm.trans c
  injection this with this
  injection this with _ h2
  exact hT h2
theorem WalkP.ne (h : WalkP w base hw bm n fk fb fp fr fs m os l vo vl ov) : hw ≠ bm ∧ vo.ownBlock ≠ some hw ∧ vo.ownBlock ≠ some bm ∧ vl.ownBlock ≠ some hw ∧ vl.ownBlock ≠ some bm ∧ ∀ g, vo.ownBlock = some g → vl.ownBlock ≠ some g := by
  refine ⟨h.box.apart h.met (by decide), fun e => ?_, fun e => ?_, fun e => ?_, fun e => ?_, fun g e1 e2 => ?_⟩
  · obtain ⟨c, hc⟩ := h.opn.row _ e; exact h.box.apart hc (by decide) rfl
  · obtain ⟨c, hc⟩ := h.opn.row _ e; exact h.met.apart hc (by decide) rfl
  · obtain ⟨-, -, c, hc⟩ := h.lft.row' _ e; exact h.box.apart hc (by decide) rfl
  · obtain ⟨-, -, c, hc⟩ := h.lft.row' _ e; exact h.met.apart hc (by decide) rfl
  · obtain ⟨c, hc⟩ := h.opn.row _ e1
    obtain ⟨-, -, d, hd⟩ := h.lft.row' _ e2
    exact Box.apart (cs := c) hc hd (by decide) rfl
theorem WalkP.below (h : WalkP w base hw bm n fk fb fp fr fs m os l vo vl ov) (hb : Below w.heap.size w w') : WalkP w' base hw bm n fk fb fp fr fs m os l vo vl ov where
  box := h.box.below hb
  met := h.met.below hb
  len := h.len
  opn := h.opn.kept fun g hg => hb.block g (h.opn.lt g hg).2
  lft := h.lft.kept' fun g hg => hb.block g (h.lft.row' g hg).2.1
  vlen := h.vlen
  vis := fun i p q hp hq => (h.vis i p q hp hq).move hb.size (fun b hlt _ => hb.block b hlt) (fun _ _ h => h)
  hb := h.hb
end
end Go.Proofs.Ytnoknodijombpaa
namespace Go.Proofs.Ytnoknodijombpaa
open Go.RowKit
attribute [local go_sem ↓] Go.wp_at_zero Go.wp_at_succ

theorem OwV.sl {w : World} {base : Nat} {v : Value} {os : List (Int × Value)} (h : OwV w base v os) : ∃ A c, v = .slice A os.length c ∧ os.length ≤ c ∧ c ≤ maxLen := by
  rcases h.2 with ⟨rfl, h0⟩ | ⟨g, cap, cur, rfl, hg, hh, hnc, hcm, hsz, htake⟩
  · exact ⟨none, 0, by rw [h0], by omega, by simp [maxLen]⟩
  · exact ⟨_, _, rfl, hnc, hcm⟩
section
variable {w w4 w5 : World} {base hw bm n : Nat} {fk fb fs vo vl v5 x : Value} {fp fr c : Int} {m : List Bool} {os : List (Int × List Int)} {l nx : List Int} {ov : List (Int × Value)}
end
end Go.Proofs.Ytnoknodijombpaa
namespace Go.Proofs.Ytnoknodijombpaa
open Go.RowKit

section
variable {w w4 w5 : World} {base hw bm n : Nat} {fk fb fs vo vl v5 x y : Value} {fp fr b : Int} {m : List Bool} {os : List (Int × List Int)} {l nx cs : List Int} {ov : List (Int × Value)} {g no cap : Nat}
theorem WalkP.left (h : WalkP w base hw bm n fk fb fp fr fs m os l vo vl ov) (hb4 : Below w.heap.size w w4) (hg : w4.grownBy w5 vl.ownBlock) (ho : Ow w5 base 3 .i64 v5 (l ++ [b])) (hv5 : v5.ownBlock = vl.ownBlock ∨ ∃ g, v5.ownBlock = some g ∧ w.heap.size ≤ g) :
    WalkP (w5.setCell ⟨hw, 7, none⟩ v5) base hw bm n fk fb fp fr fs m os (l ++ [b]) vo v5 ov := by
  obtain ⟨n1, n2, n3, n4, n5, n6⟩ := h.ne
  have hwl := h.box.lt
  have hbl := h.met.lt
  have k5 : ∀ b, b < w.heap.size → vl.ownBlock ≠ some b → w5.heap[b]? = w.heap[b]? := fun b hb hn => (hg.block b (by have := hb4.size; omega) (fun e => hn e.symm)).trans (hb4.block b hb)
  have hv6 : ∀ b, b < w.heap.size → v5.ownBlock = some b → vl.ownBlock = some b := fun b hb e => by
    rcases hv5 with h5 | ⟨g, h5, h6⟩
    · rw [← h5]; exact e
    · rw [h5] at e; injection e with e; omega
  have kS : ∀ b, b < w.heap.size → b ≠ hw → vl.ownBlock ≠ some b → (w5.setCell ⟨hw, 7, none⟩ v5).heap[b]? = w.heap[b]? := fun b hb h1 h2 => (heap_setCell_other _ _ _ _ h1).trans (k5 b hb h2)
  have hsz : w.heap.size ≤ (w5.setCell ⟨hw, 7, none⟩ v5).heap.size := by rw [World.size_setCell]; have := hb4.size; have := hg.size; omega
  refine ⟨?_, (kS bm hbl (fun e => n1 e.symm) n5).trans h.met, h.len, h.opn.kept fun g hgv => kS g (h.opn.lt g hgv).2 (fun e => n2 (by rw [hgv, e])) (n6 g hgv), ho.kept' fun g hgv => heap_setCell_other _ _ _ _ (fun e => ?_), h.vlen, fun i p q hp hq => (h.vis i p q hp hq).move hsz (fun b hlt hm => kS b hlt (fun e => hm (.inl e)) (fun e => hm (.inr (.inr (.inr e))))) (fun b hlt hm => ?_), h.hb⟩
  · have hb5 : Box w5 hw _ _ := (k5 hw hwl n4).trans h.box
    have := hb5.set 7 v5
    simpa using this
  · subst e
    exact n4 (hv6 _ hwl hgv)
  · rcases hm with hm | hm | hm | hm
    · exact .inl hm
    · exact .inr (.inl hm)
    · exact .inr (.inr (.inl hm))
    · exact .inr (.inr (.inr (hv6 b hlt hm)))
theorem WalkP.drop (h : WalkP w base hw bm n fk fb fp fr fs m (os ++ [(b, nx)]) l (.slice (some ⟨g, 0, none⟩) no cap) vl (ov ++ [(b, x)])) :
    WalkP (w.setCell ⟨hw, 6, none⟩ (.slice (some ⟨g, 0, none⟩) ov.length cap)) base hw bm n fk fb fp fr fs m os l (.slice (some ⟨g, 0, none⟩) ov.length cap) vl ov := by
  obtain ⟨n1, n2, n3, n4, n5, n6⟩ := h.ne
  have hvl : ov.length = os.length := by have := h.vlen; simp at this; exact this
  have kS : ∀ b, b ≠ hw → (w.setCell ⟨hw, 6, none⟩ (.slice (some ⟨g, 0, none⟩) ov.length cap)).heap[b]? = w.heap[b]? := fun b h1 => heap_setCell_other _ _ _ _ h1
  refine ⟨?_, (kS bm (fun e => n1 e.symm)).trans h.met, h.len, h.opn.pop.kept fun g' hgv => kS g' (fun e => n2 (by rw [← e]; exact hgv)), h.lft.kept' fun g hgv => kS g (fun e => n4 (by rw [hgv, e])), hvl, fun i p q hp hq => ?_, h.hb⟩
  · have := h.box.set 6 (.slice (some ⟨g, 0, none⟩) ov.length cap)
    simpa using this
  · have hi := (List.getElem?_eq_some_iff.1 hp).1
    exact (h.vis i p q (by rw [List.getElem?_append_left hi]; exact hp) (by rw [List.getElem?_append_left (by omega)]; exact hq)).move (by rw [World.size_setCell]; exact Nat.le_refl _) (fun b hlt hm => kS b (fun e => hm (.inl e))) (fun b hlt hm => hm)
end
end Go.Proofs.Ytnoknodijombpaa
namespace Go.Proofs.Ytnoknodijombpaa
open Go.RowKit
attribute [local go_sem ↓] Go.wp_at_zero Go.wp_at_succ

end Go.Proofs.Ytnoknodijombpaa
namespace Go.Proofs.Ytnoknodijombpaa
open Go.RowKit
attribute [local go_sem ↓] Go.wp_at_zero Go.wp_at_succ

end Go.Proofs.Ytnoknodijombpaa
namespace Go.Proofs.Ytnoknodijombpaa
open Go.RowKit

end Go.Proofs.Ytnoknodijombpaa
namespace Go.Proofs.Ytnoknodijombpaa
open Go.RowKit

section
variable {w w' : World} {base : Nat} {e : TypeId} {k : IntKind} {zs : List Int}
theorem Ow.blk {A : Option Addr} {n c : Nat} (h : Ow w base e k (.slice A n c) zs) (hp : 0 < zs.length) :
    ∃ g, A = some ⟨g, 0, none⟩ ∧ base ≤ g ∧ g < w.heap.size ∧ (∀ j x, zs[j]? = some x → w.cell? ⟨g, j, none⟩ = some (.int k x)) ∧ (∀ j, w.frozen? ⟨g, j, none⟩ = false) := by
  obtain ⟨h1, h2⟩ := h
  rcases h2 with ⟨h2, h0⟩ | ⟨g, cap, cur, hv, hg, hh, hnc, hcm, hsz, htake⟩
  · omega
  · injection hv with hA hn hc
    subst hA
    subst hn
    subst hc
    have hO : w.ownsRow base e 1 (.slice (some ⟨g, 0, none⟩) zs.length c) zs.length (zs.map (Value.int k)) := ⟨h1, .inr ⟨g, c, cur, rfl, hg, hh, hnc, hcm, hsz, htake⟩⟩
    refine ⟨g, rfl, hg, (Array.getElem?_eq_some_iff.1 hh).1, fun j x hx => ?_, fun j => World.ownsRow.frozenAt hO j⟩
    have hj : j < zs.length := (List.getElem?_eq_some_iff.1 hx).1
    rw [World.ownsRow.cellAt hO j (by omega), List.getElem?_map, hx]; rfl
end
/-- k elements from both ends have changed places. -/
def RevAt (zs : List Int) (k : Nat) (ys : List Int) : Prop := ys.length = zs.length ∧ ∀ t, t < zs.length → ys[t]? = if t < k ∨ zs.length ≤ t + k then zs[zs.length - 1 - t]? else zs[t]?
theorem RevAt.zero (zs : List Int) : RevAt zs 0 zs := ⟨rfl, fun t ht => by rw [if_neg (by omega)]⟩
theorem RevAt.step {zs ys : List Int} {k : Nat} {a b : Int} (h : RevAt zs k ys) (hk : 2 * k + 1 < zs.length) (ha : ys[k]? = some a) (hb : ys[zs.length - 1 - k]? = some b) : RevAt zs (k + 1) ((ys.set k b).set (zs.length - 1 - k) a) := by
  obtain ⟨h1, h2⟩ := h
  have a2 := h2 k (by omega)
  have b2 := h2 (zs.length - 1 - k) (by omega)
  rw [if_neg (by omega)] at a2 b2
  refine ⟨by simp [h1], fun t ht => ?_⟩
  by_cases e2 : t = zs.length - 1 - k
  · subst e2
    rw [List.getElem?_set_self (by simp [h1]; omega), if_pos (by omega)]
    have : zs.length - 1 - (zs.length - 1 - k) = k := by omega
    rw [this, ← a2, ha]
  · rw [List.getElem?_set_ne (by omega)]
    by_cases e1 : t = k
    · subst e1
      rw [List.getElem?_set_self (by omega), if_pos (by omega), ← b2, hb]
    · rw [List.getElem?_set_ne (by omega), h2 t ht]
      by_cases e3 : t < k ∨ zs.length ≤ t + k
      · rw [if_pos e3, if_pos (by omega)]
      · rw [if_neg e3, if_neg (by omega)]
theorem RevAt.done {zs ys : List Int} {k : Nat} (h : RevAt zs k ys) (hk : zs.length ≤ 2 * k + 1) : ys = zs.reverse := by
  obtain ⟨h1, h2⟩ := h
  apply List.ext_getElem?
  intro t
  by_cases ht : t < zs.length
  · rw [h2 t ht, List.getElem?_reverse ht]
    by_cases e : t < k ∨ zs.length ≤ t + k
    · rw [if_pos e]
    · rw [if_neg e]
      congr 1
      omega
  · rw [List.getElem?_eq_none (by omega), List.getElem?_eq_none (by simp; omega)]
theorem RevAt.lt {zs ys : List Int} {k : Nat} (h : RevAt zs k ys) : ys.length = zs.length := h.1
/-- The order of a walk: what it leaves, from behind. -/
def OrderOf (f : FunV) (l : List Int) : Prop := ∃ mF lF, Dfs f [0] (List.replicate f.blocks.length false) [] mF lF ∧ l = lF.reverse
theorem OrderOf.one {f : FunV} {l l' : List Int} (h : OrderOf f l) (h' : OrderOf f l') : l = l' := by
  obtain ⟨m, x, h1, rfl⟩ := h
  obtain ⟨m', x', h2, rfl⟩ := h'
  rw [(h1.one h2).2]
end Go.Proofs.Ytnoknodijombpaa
