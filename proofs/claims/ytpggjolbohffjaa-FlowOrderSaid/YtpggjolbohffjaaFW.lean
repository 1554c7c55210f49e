/- The walk under way in memory: what is met, what isn't left yet, what was left; what each store and append makes of it. No condition. -/
import Derived.Test.YtpggjolbohffjaaFJ
import Derived.Test.YtpggjolbohffjaaFD
import Derived.Deep.RegionLaw
import Derived.Deep.RegionHeld3
set_option linter.unusedSimpArgs false
set_option linter.unusedVariables false
namespace Go.Proofs.Ytpggjolbohffjaa
open Go.RowKit

def vCells (os : List (Int × Value)) : List Value := os.flatMap (fun p => [Value.int .i64 p.1, p.2])
theorem vCells_len (os : List (Int × Value)) : (vCells os).length = os.length * 2 := by
  induction os with
  | nil => rfl
  | cons p es ih => simp only [vCells, List.flatMap_cons, List.length_append, List.length_cons] at *; simp at *; omega
theorem vCells_app (os : List (Int × Value)) (p : Int × Value) : vCells (os ++ [p]) = vCells os ++ [Value.int .i64 p.1, p.2] := by simp [vCells]
theorem vCells_last (os : List (Int × Value)) (p : Int × Value) : (vCells (os ++ [p]))[os.length * 2]? = some (.int .i64 p.1) ∧ (vCells (os ++ [p]))[os.length * 2 + 1]? = some p.2 := by
  have h := vCells_len os
  rw [vCells_app]
  constructor
  · rw [List.getElem?_append_right (by omega), h]; simp
  · rw [List.getElem?_append_right (by omega), h]; simp
theorem vCells_set (os : List (Int × Value)) (p : Int × Value) (v : Value) : (vCells (os ++ [p])).set (os.length * 2 + 1) v = vCells (os ++ [(p.1, v)]) := by
  have h := vCells_len os
  rw [vCells_app, vCells_app, List.set_append_right (s := vCells os) _ _ (by omega), h]
  have e : os.length * 2 + 1 - os.length * 2 = 1 := by omega
  rw [e]
  rfl
/-- The slice value v is the call's own, from block 'base' on, and holds the visits os. -/
def OwV (w : World) (base : Nat) (v : Value) (os : List (Int × Value)) : Prop := w.ownsRow base 88 2 v os.length (vCells os)
section
variable {w w' : World} {base : Nat} {v : Value} {os : List (Int × Value)}
theorem OwV.nil (w : World) (base : Nat) : OwV w base (.slice none 0 0) [] := World.ownsRow_nil _ _ _ _
theorem OwV.kept (h : OwV w base v os) (hk : ∀ g, v.ownBlock = some g → w'.heap[g]? = w.heap[g]?) : OwV w' base v os := by
  refine ⟨h.1, ?_⟩
  rcases h.2 with h2 | ⟨g, cap, cur, hv, hg, hh, r⟩
  · exact .inl h2
  · exact .inr ⟨g, cap, cur, hv, hg, (hk g (by rw [hv]; rfl)).trans hh, r⟩
theorem OwV.lt (h : OwV w base v os) : ∀ k, v.ownBlock = some k → base ≤ k ∧ k < w.heap.size := World.ownsRow.lt h
theorem OwV.row (h : OwV w base v os) : ∀ g, v.ownBlock = some g → ∃ c, w.heap[g]? = some (.cells c 88 (0, 0)) := fun g hg => by
  rcases h.2 with ⟨rfl, -⟩ | ⟨g', cap, cur, rfl, -, hh, -⟩
  · cases hg
  · simp [Value.ownBlock] at hg
    subst hg
    exact ⟨cur, hh⟩
theorem Ow.kept' {e : TypeId} {k : IntKind} {zs : List Int} (h : Ow w base e k v zs) (hk : ∀ g, v.ownBlock = some g → w'.heap[g]? = w.heap[g]?) : Ow w' base e k v zs := by
  refine ⟨h.1, ?_⟩
  rcases h.2 with h2 | ⟨g, cap, cur, hv, hg, hh, r⟩
  · exact .inl h2
  · exact .inr ⟨g, cap, cur, hv, hg, (hk g (by rw [hv]; rfl)).trans hh, r⟩
theorem Ow.row' {e : TypeId} {k : IntKind} {zs : List Int} (h : Ow w base e k v zs) : ∀ g, v.ownBlock = some g → base ≤ g ∧ g < w.heap.size ∧ ∃ c, w.heap[g]? = some (.cells c e (0, 0)) := fun g hg => by
  rcases h.2 with ⟨rfl, -⟩ | ⟨g', cap, cur, rfl, hb, hh, -⟩
  · cases hg
  · simp [Value.ownBlock] at hg
    subst hg
    exact ⟨hb, (Array.getElem?_eq_some_iff.1 hh).1, cur, hh⟩
/-- What is on top: its block, and that its cells may be read and written. -/
theorem OwV.top {b : Int} {x : Value} (h : OwV w base v (os ++ [(b, x)])) : ∃ g cap, v = .slice (some ⟨g, 0, none⟩) (os.length + 1) cap ∧ os.length + 1 ≤ cap ∧ cap ≤ maxLen ∧ base ≤ g ∧ g < w.heap.size ∧
    w.cell? ⟨g, os.length * 2, none⟩ = some (.int .i64 b) ∧ w.cell? ⟨g, os.length * 2 + 1, none⟩ = some x ∧ w.frozen? ⟨g, os.length * 2 + 1, none⟩ = false := by
  have hl : (os ++ [(b, x)]).length = os.length + 1 := by simp
  have h' := h
  unfold OwV at h'
  rw [hl] at h'
  rcases h'.2 with ⟨-, h0⟩ | ⟨g, cap, cur, rfl, hg, hh, hnc, hcm, hsz, htake⟩
  · omega
  · have hv := vCells_last os (b, x)
    refine ⟨g, cap, rfl, hnc, hcm, hg, (Array.getElem?_eq_some_iff.1 hh).1, ?_, ?_, ?_⟩
    · rw [World.ownsRow.cellAt h' _ (by omega)]; exact hv.1
    · rw [World.ownsRow.cellAt h' _ (by omega)]; exact hv.2
    · simp [World.frozen?, hh]
theorem OwV.setTop {b : Int} {x y : Value} {g n cap : Nat} (h : OwV w base (.slice (some ⟨g, 0, none⟩) n cap) (os ++ [(b, x)])) : OwV (w.setCell ⟨g, os.length * 2 + 1, none⟩ y) base (.slice (some ⟨g, 0, none⟩) n cap) (os ++ [(b, y)]) := by
  have hl : ∀ z : Value, (os ++ [(b, z)]).length = os.length + 1 := fun z => by simp
  unfold OwV at *
  rw [hl] at *
  rcases h.2 with ⟨h0, -⟩ | ⟨g', cap', cur, hv, hg, hh, hnc, hcm, hsz, htake⟩
  · cases h0
  · injection hv with h1 h2 h3
    injection h1 with h1
    injection h1 with h1
    subst h1; subst h2; subst h3
    refine ⟨by rw [vCells_len, hl], .inr ⟨_, _, cur.setIfInBounds (os.length * 2 + 1) y, rfl, hg, heap_setCell_same w _ _ cur _ y hh, hnc, hcm, by simpa using hsz, ?_⟩⟩
    rw [← vCells_set os (b, x) y, ← htake, Array.toList_setIfInBounds, List.take_set]
theorem OwV.pop {b : Int} {x : Value} {g n cap : Nat} (h : OwV w base (.slice (some ⟨g, 0, none⟩) n cap) (os ++ [(b, x)])) : OwV w base (.slice (some ⟨g, 0, none⟩) os.length cap) os := by
  have hl : (os ++ [(b, x)]).length = os.length + 1 := by simp
  unfold OwV at *
  rw [hl] at h
  rcases h.2 with ⟨h0, -⟩ | ⟨g', cap', cur, hv, hg, hh, hnc, hcm, hsz, htake⟩
  · cases h0
  · injection hv with h1 h2 h3
    injection h1 with h1
    injection h1 with h1
    subst h1; subst h2; subst h3
    refine ⟨vCells_len os, .inr ⟨_, _, cur, rfl, hg, hh, by omega, hcm, hsz, ?_⟩⟩
    have e : cur.toList.take (os.length * 2) = (cur.toList.take ((os.length + 1) * 2)).take (os.length * 2) := by rw [List.take_take, Nat.min_eq_left (by omega)]
    rw [e, htake, vCells_app, List.take_append_of_le_length (by rw [vCells_len]; exact Nat.le_refl _), List.take_of_length_le (by rw [vCells_len]; exact Nat.le_refl _)]
end
theorem info_visit : (Try.prog.info? 88).map (fun i => (i.zero, i.size, i.bytes)) = some (some (.agg #[.int .i64 0, .slice none 0 0]), 2, 32) := by kernel_rfl
/-- append(v, visit{y1, y2}) at a step of a region that draws its order, v the call's own. -/
theorem step_append_visit {P : Program} (w : World) {ops : Array Oper} {o : Oper} {a : Act} {K : Act → World → Prop} {Q : Exit → Act → World → Prop} {E : Prop} (hgd : o.guard = none) (s x : Operand) (t : TypeId)
    (ho : o.op = .call { callee := .builtin .append, args := #[s, x], argTypes := #[t, t] })
    (base : Nat) (i : TypeInfo) (z : Value) (ht : P.underlying t = some (.slice 88)) (hi : P.info? 88 = some i) (hz : i.zero = some z)
    (hsize : i.size = 2) (hby : i.bytes = 32) (hzs : z.cells.size = 2)
    (v : Value) (os : List (Int × Value)) (hs : a.eval s = v) (hown : OwV w base v os) (y1 : Int) (y2 : Value) (h1 : y2.oneCell' = true) (H : Nat) (hH : Box w H #[.int .i64 y1, y2] 88)
    (hx : a.eval x = .slice (some ⟨H, 0, none⟩) 1 1)
    (hroom : os.length < 1000000) (hbase : base ≤ w.heap.size)
    (h : ∀ g cap w', OwV w' base (.slice (some ⟨g, 0, none⟩) (os.length + 1) cap) (os ++ [(y1, y2)]) → w.grownBy w' v.ownBlock → (v.ownBlock = some g ∨ g = w.heap.size) → g < w'.heap.size → K (a.put o.dst (.slice (some ⟨g, 0, none⟩) (os.length + 1) cap)) w') :
    if Region.wanted o (yielded ops a.tmps) = true then Oper.wp P o a w K Q else E :=
  step_append_lies w hgd s x t ho base 88 i z 2 32 ht hi hz hsize hby hzs (by omega) v os.length (vCells os) hs hown ⟨H, 0, none⟩ 1 1 [.int .i64 y1, y2] hx rfl
    (World.news_of_block hH) (by intro u hu; simp at hu; rcases hu with rfl | rfl; rfl; exact h1) (by omega) (by simp only [maxLen]; omega) (by omega) hbase w.heap.size rfl
    fun g cap w' h2 h3 h4 h5 => h g cap w' (by unfold OwV; rw [vCells_app, List.length_append]; exact h2) h3 h4 h5

def Mut (hw bm : Nat) (vo vl : Value) (b : Nat) : Prop := b = hw ∨ b = bm ∨ vo.ownBlock = some b ∨ vl.ownBlock = some b
def VisOk (w : World) (M : Nat → Prop) (p : Int × Value) (q : Int × List Int) : Prop := p.1 = q.1 ∧ ∃ A c, p.2 = .slice A q.2.length c ∧ q.2.length ≤ c ∧ c ≤ 2 ∧ Sl w w.heap.size .i64 A q.2 ∧ ∀ b o, A = some ⟨b, o, none⟩ → 0 < q.2.length → ¬ M b
theorem VisOk.move {w w' : World} {M M' : Nat → Prop} {p : Int × Value} {q : Int × List Int} (h : VisOk w M p q) (hs : w.heap.size ≤ w'.heap.size) (hk : ∀ b, b < w.heap.size → ¬ M b → w'.heap[b]? = w.heap[b]?) (hM : ∀ b, b < w.heap.size → M' b → M b) : VisOk w' M' p q := by
  obtain ⟨h1, A, c, h2, h3, h4, h5, h6⟩ := h
  refine ⟨h1, A, c, h2, h3, h4, fun hp => ?_, fun b o hA hp hm => ?_⟩
  · obtain ⟨b, o, e, hb, hc⟩ := h5 hp
    exact ⟨b, o, e, by omega, fun j hj => (World.cell?_of_block (a := ⟨b, o + j, none⟩) (hk b hb (h6 b o e hp))).trans (hc j hj)⟩
  · obtain ⟨b', o', e, hb, -⟩ := h5 hp
    rw [hA] at e
    injection e with e
    injection e with e1 e2
    subst e1
    exact h6 b o hA hp (hM b hb hm)
structure WalkP (w : World) (base hw bm n : Nat) (fk fb : Value) (fp fr : Int) (fs : Value) (m : List Bool) (os : List (Int × List Int)) (l : List Int) (vo vl : Value) (ov : List (Int × Value)) : Prop where
  box : Box w hw #[fk, fb, .int .i64 fp, .int .i64 fr, fs, .slice (some ⟨bm, 0, none⟩) n n, vo, vl] 68
  met : Box w bm (m.map Value.bool).toArray 4
  len : m.length = n
  opn : OwV w base vo ov
  lft : Ow w base 3 .i64 vl l
  vlen : ov.length = os.length
  vis : ∀ (i : Nat) p q, ov[i]? = some p → os[i]? = some q → VisOk w (Mut hw bm vo vl) p q
  hb : base ≤ hw ∧ base ≤ bm
section
variable {w w' : World} {base hw bm n : Nat} {fk fb fs vo vl : Value} {fp fr : Int} {m : List Bool} {os : List (Int × List Int)} {l : List Int} {ov : List (Int × Value)}
theorem Box.apart {w : World} {h g : Nat} {cs ds : Array Value} {T U : TypeId} (b : Box w h cs T) (c : w.heap[g]? = some (.cells ds U (0, 0))) (hT : T ≠ U) : h ≠ g := fun e => by
  subst e
  have := b.symm.trans c
  injection this with this
  injection this with _ h2
  exact hT h2
theorem WalkP.ne (h : WalkP w base hw bm n fk fb fp fr fs m os l vo vl ov) : hw ≠ bm ∧ vo.ownBlock ≠ some hw ∧ vo.ownBlock ≠ some bm ∧ vl.ownBlock ≠ some hw ∧ vl.ownBlock ≠ some bm ∧ ∀ g, vo.ownBlock = some g → vl.ownBlock ≠ some g := by
  refine ⟨h.box.apart h.met (by decide), fun e => ?_, fun e => ?_, fun e => ?_, fun e => ?_, fun g e1 e2 => ?_⟩
  · obtain ⟨c, hc⟩ := h.opn.row _ e; exact h.box.apart hc (by decide) rfl
  · obtain ⟨c, hc⟩ := h.opn.row _ e; exact h.met.apart hc (by decide) rfl
  · obtain ⟨-, -, c, hc⟩ := h.lft.row' _ e; exact h.box.apart hc (by decide) rfl
  · obtain ⟨-, -, c, hc⟩ := h.lft.row' _ e; exact h.met.apart hc (by decide) rfl
  · obtain ⟨c, hc⟩ := h.opn.row _ e1
    obtain ⟨-, -, d, hd⟩ := h.lft.row' _ e2
    exact Box.apart (cs := c) hc hd (by decide) rfl
theorem WalkP.below (h : WalkP w base hw bm n fk fb fp fr fs m os l vo vl ov) (hb : Below w.heap.size w w') : WalkP w' base hw bm n fk fb fp fr fs m os l vo vl ov where
  box := h.box.below hb
  met := h.met.below hb
  len := h.len
  opn := h.opn.kept fun g hg => hb.block g (h.opn.lt g hg).2
  lft := h.lft.kept' fun g hg => hb.block g (h.lft.row' g hg).2.1
  vlen := h.vlen
  vis := fun i p q hp hq => (h.vis i p q hp hq).move hb.size (fun b hlt _ => hb.block b hlt) (fun _ _ h => h)
  hb := h.hb
/-- A block is met. -/
theorem WalkP.mark (h : WalkP w base hw bm n fk fb fp fr fs m os l vo vl ov) (c : Nat) : WalkP (w.setCell ⟨bm, c, none⟩ (.bool true)) base hw bm n fk fb fp fr fs (m.set c true) os l vo vl ov := by
  obtain ⟨n1, n2, n3, n4, n5, n6⟩ := h.ne
  refine ⟨h.box.other n1, ?_, by simpa using h.len, h.opn.kept fun g hg => heap_setCell_other _ _ _ _ (fun e => n3 (by rw [hg]; exact congrArg some e)), h.lft.kept' fun g hg => heap_setCell_other _ _ _ _ (fun e => n5 (by rw [hg]; exact congrArg some e)), h.vlen,
    fun i p q hp hq => (h.vis i p q hp hq).move (by rw [World.size_setCell]; exact Nat.le_refl _) (fun b hlt hm => heap_setCell_other _ _ _ _ (fun e => hm (.inr (.inl e)))) (fun _ _ h => h), h.hb⟩
  have := h.met.set c (.bool true)
  simpa [List.map_set] using this
end
end Go.Proofs.Ytpggjolbohffjaa
