/- The walk under way in memory: what is met, what isn't left yet, what was left; what each store and append makes of it. No condition. -/
import Derived.Test.YtkpikgakphdjjaaFM
import Derived.Test.YtkpikgakphdjjaaFD
import Derived.Deep.RegionLaw
import Derived.Deep.RegionHeld3
import Derived.Deep.DrawnRows
set_option linter.unusedSimpArgs false
set_option linter.unusedVariables false
namespace Go.Proofs.Ytkpikgakphdjjaa
open Go.RowKit

def vCells (os : List (Int × Value)) : List Value := os.flatMap (fun p => [Value.int .i64 p.1, p.2])
theorem vCells_len (os : List (Int × Value)) : (vCells os).length = os.length * 2 := by
  induction os with
  | nil => rfl
  | cons p es ih => simp only [vCells, List.flatMap_cons, List.length_append, List.length_cons] at *; simp at *; omega
theorem vCells_app (os : List (Int × Value)) (p : Int × Value) : vCells (os ++ [p]) = vCells os ++ [Value.int .i64 p.1, p.2] := by simp [vCells]
theorem vCells_last (os : List (Int × Value)) (p : Int × Value) : (vCells (os ++ [p]))[os.length * 2]? = some (.int .i64 p.1) ∧ (vCells (os ++ [p]))[os.length * 2 + 1]? = some p.2 := by
  have h := vCells_len os
  rw [vCells_app]
  constructor
  · rw [List.getElem?_append_right (by omega), h]; simp
  · rw [List.getElem?_append_right (by omega), h]; simp
theorem vCells_set (os : List (Int × Value)) (p : Int × Value) (v : Value) : (vCells (os ++ [p])).set (os.length * 2 + 1) v = vCells (os ++ [(p.1, v)]) := by
  have h := vCells_len os
  rw [vCells_app, vCells_app, List.set_append_right (s := vCells os) _ _ (by omega), h]
  have e : os.length * 2 + 1 - os.length * 2 = 1 := by omega
  rw [e]
  rfl
/-- The slice value v is the call's own, from block 'base' on, and holds the visits os. -/
def OwV (w : World) (base : Nat) (v : Value) (os : List (Int × Value)) : Prop := w.ownsRow base 99 2 v os.length (vCells os)
section
variable {w w' : World} {base : Nat} {v : Value} {os : List (Int × Value)}
theorem OwV.nil (w : World) (base : Nat) : OwV w base (.slice none 0 0) [] := World.ownsRow_nil _ _ _ _
theorem OwV.kept (h : OwV w base v os) (hk : ∀ g, v.ownBlock = some g → w'.heap[g]? = w.heap[g]?) : OwV w' base v os := by
  refine ⟨h.1, ?_⟩
  rcases h.2 with h2 | ⟨g, cap, cur, hv, hg, hh, r⟩
  · exact .inl h2
  · exact .inr ⟨g, cap, cur, hv, hg, (hk g (by rw [hv]; rfl)).trans hh, r⟩
theorem OwV.lt (h : OwV w base v os) : ∀ k, v.ownBlock = some k → base ≤ k ∧ k < w.heap.size := World.ownsRow.lt h
theorem OwV.row (h : OwV w base v os) : ∀ g, v.ownBlock = some g → ∃ c, w.heap[g]? = some (.cells c 99 (0, 0)) := fun g hg => by
  rcases h.2 with ⟨rfl, -⟩ | ⟨g', cap, cur, rfl, -, hh, -⟩
  · cases hg
  · simp [Value.ownBlock] at hg
    subst hg
    exact ⟨cur, hh⟩
theorem Ow.kept' {e : TypeId} {k : IntKind} {zs : List Int} (h : Ow w base e k v zs) (hk : ∀ g, v.ownBlock = some g → w'.heap[g]? = w.heap[g]?) : Ow w' base e k v zs := by
  refine ⟨h.1, ?_⟩
  rcases h.2 with h2 | ⟨g, cap, cur, hv, hg, hh, r⟩
  · exact .inl h2
  · exact .inr ⟨g, cap, cur, hv, hg, (hk g (by rw [hv]; rfl)).trans hh, r⟩
theorem Ow.row' {e : TypeId} {k : IntKind} {zs : List Int} (h : Ow w base e k v zs) : ∀ g, v.ownBlock = some g → base ≤ g ∧ g < w.heap.size ∧ ∃ c, w.heap[g]? = some (.cells c e (0, 0)) := fun g hg => by
  rcases h.2 with ⟨rfl, -⟩ | ⟨g', cap, cur, rfl, hb, hh, -⟩
  · cases hg
  · simp [Value.ownBlock] at hg
    subst hg
    exact ⟨hb, (Array.getElem?_eq_some_iff.1 hh).1, cur, hh⟩
/-- What is on top: its block, and that its cells may be read and written. -/
theorem OwV.top {b : Int} {x : Value} (h : OwV w base v (os ++ [(b, x)])) : ∃ g cap, v = .slice (some ⟨g, 0, none⟩) (os.length + 1) cap ∧ os.length + 1 ≤ cap ∧ cap ≤ maxLen ∧ base ≤ g ∧ g < w.heap.size ∧
    w.cell? ⟨g, os.length * 2, none⟩ = some (.int .i64 b) ∧ w.cell? ⟨g, os.length * 2 + 1, none⟩ = some x ∧ w.frozen? ⟨g, os.length * 2 + 1, none⟩ = false := by
  have hl : (os ++ [(b, x)]).length = os.length + 1 := by simp
  have h' := h
  unfold OwV at h'
  rw [hl] at h'
  rcases h'.2 with ⟨-, h0⟩ | ⟨g, cap, cur, rfl, hg, hh, hnc, hcm, hsz, htake⟩
  · omega
  · have hv := vCells_last os (b, x)
    refine ⟨g, cap, rfl, hnc, hcm, hg, (Array.getElem?_eq_some_iff.1 hh).1, ?_, ?_, ?_⟩
    · rw [World.ownsRow.cellAt h' _ (by omega)]; exact hv.1
    · rw [World.ownsRow.cellAt h' _ (by omega)]; exact hv.2
    · simp [World.frozen?, hh]
theorem OwV.setTop {b : Int} {x y : Value} {g n cap : Nat} (h : OwV w base (.slice (some ⟨g, 0, none⟩) n cap) (os ++ [(b, x)])) : OwV (w.setCell ⟨g, os.length * 2 + 1, none⟩ y) base (.slice (some ⟨g, 0, none⟩) n cap) (os ++ [(b, y)]) := by
  have hl : ∀ z : Value, (os ++ [(b, z)]).length = os.length + 1 := fun z => by simp
  unfold OwV at *
  rw [hl] at *
  rcases h.2 with ⟨h0, -⟩ | ⟨g', cap', cur, hv, hg, hh, hnc, hcm, hsz, htake⟩
  · cases h0
  · injection hv with h1 h2 h3
    injection h1 with h1
    injection h1 with h1
    subst h1; subst h2; subst h3
    refine ⟨by rw [vCells_len, hl], .inr ⟨_, _, cur.setIfInBounds (os.length * 2 + 1) y, rfl, hg, heap_setCell_same w _ _ cur _ y hh, hnc, hcm, by simpa using hsz, ?_⟩⟩
    rw [← vCells_set os (b, x) y, ← htake, Array.toList_setIfInBounds, List.take_set]
theorem OwV.pop {b : Int} {x : Value} {g n cap : Nat} (h : OwV w base (.slice (some ⟨g, 0, none⟩) n cap) (os ++ [(b, x)])) : OwV w base (.slice (some ⟨g, 0, none⟩) os.length cap) os := by
  have hl : (os ++ [(b, x)]).length = os.length + 1 := by simp
  unfold OwV at *
  rw [hl] at h
  rcases h.2 with ⟨h0, -⟩ | ⟨g', cap', cur, hv, hg, hh, hnc, hcm, hsz, htake⟩
  · cases h0
  · injection hv with h1 h2 h3
    injection h1 with h1
    injection h1 with h1
    subst h1; subst h2; subst h3
    refine ⟨vCells_len os, .inr ⟨_, _, cur, rfl, hg, hh, by omega, hcm, hsz, ?_⟩⟩
    have e : cur.toList.take (os.length * 2) = (cur.toList.take ((os.length + 1) * 2)).take (os.length * 2) := by rw [List.take_take, Nat.min_eq_left (by omega)]
    rw [e, htake, vCells_app, List.take_append_of_le_length (by rw [vCells_len]; exact Nat.le_refl _), List.take_of_length_le (by rw [vCells_len]; exact Nat.le_refl _)]
end
theorem info_visit : (Try.prog.info? 99).map (fun i => (i.zero, i.size, i.bytes)) = some (some (.agg #[.int .i64 0, .slice none 0 0]), 2, 32) := by kernel_rfl
/-- append(v, visit{y1, y2}) at a step of a region that draws its order, v the call's own. -/
theorem step_append_visit {P : Program} (w : World) {ops : Array Oper} {o : Oper} {a : Act} {K : Act → World → Prop} {Q : Exit → Act → World → Prop} {E : Prop} (hgd : o.guard = none) (s x : Operand) (t : TypeId)
    (ho : o.op = .call { callee := .builtin .append, args := #[s, x], argTypes := #[t, t] })
    (base : Nat) (i : TypeInfo) (z : Value) (ht : P.underlying t = some (.slice 99)) (hi : P.info? 99 = some i) (hz : i.zero = some z)
    (hsize : i.size = 2) (hby : i.bytes = 32) (hzs : z.cells.size = 2)
    (v : Value) (os : List (Int × Value)) (hs : a.eval s = v) (hown : OwV w base v os) (y1 : Int) (y2 : Value) (h1 : y2.oneCell' = true) (H : Nat) (hH : Box w H #[.int .i64 y1, y2] 99)
    (hx : a.eval x = .slice (some ⟨H, 0, none⟩) 1 1)
    (hroom : os.length < 1000000) (hbase : base ≤ w.heap.size)
    (h : ∀ g cap w', OwV w' base (.slice (some ⟨g, 0, none⟩) (os.length + 1) cap) (os ++ [(y1, y2)]) → w.grownBy w' v.ownBlock → (v.ownBlock = some g ∨ g = w.heap.size) → g < w'.heap.size → K (a.put o.dst (.slice (some ⟨g, 0, none⟩) (os.length + 1) cap)) w') :
    if Region.wanted o (yielded ops a.tmps) = true then Oper.wp P o a w K Q else E :=
  step_append_lies w hgd s x t ho base 99 i z 2 32 ht hi hz hsize hby hzs (by omega) v os.length (vCells os) hs hown ⟨H, 0, none⟩ 1 1 [.int .i64 y1, y2] hx rfl
    (World.news_of_block hH) (by intro u hu; simp at hu; rcases hu with rfl | rfl; rfl; exact h1) (by omega) (by simp only [maxLen]; omega) (by omega) hbase w.heap.size rfl
    fun g cap w' h2 h3 h4 h5 => h g cap w' (by unfold OwV; rw [vCells_app, List.length_append]; exact h2) h3 h4 h5

def Mut (hw bm : Nat) (vo vl : Value) (b : Nat) : Prop := b = hw ∨ b = bm ∨ vo.ownBlock = some b ∨ vl.ownBlock = some b
def VisOk (w : World) (M : Nat → Prop) (p : Int × Value) (q : Int × List Int) : Prop := p.1 = q.1 ∧ ∃ A c, p.2 = .slice A q.2.length c ∧ q.2.length ≤ c ∧ c ≤ 2 ∧ Sl w w.heap.size .i64 A q.2 ∧ ∀ b o, A = some ⟨b, o, none⟩ → 0 < q.2.length → ¬ M b
theorem VisOk.move {w w' : World} {M M' : Nat → Prop} {p : Int × Value} {q : Int × List Int} (h : VisOk w M p q) (hs : w.heap.size ≤ w'.heap.size) (hk : ∀ b, b < w.heap.size → ¬ M b → w'.heap[b]? = w.heap[b]?) (hM : ∀ b, b < w.heap.size → M' b → M b) : VisOk w' M' p q := by
  obtain ⟨h1, A, c, h2, h3, h4, h5, h6⟩ := h
  refine ⟨h1, A, c, h2, h3, h4, fun hp => ?_, fun b o hA hp hm => ?_⟩
  · obtain ⟨b, o, e, hb, hc⟩ := h5 hp
    exact ⟨b, o, e, by omega, fun j hj => (World.cell?_of_block (a := ⟨b, o + j, none⟩) (hk b hb (h6 b o e hp))).trans (hc j hj)⟩
  · obtain ⟨b', o', e, hb, -⟩ := h5 hp
    rw [hA] at e
    injection e with e
    injection e with e1 e2
    subst e1
    exact h6 b o hA hp (hM b hb hm)
structure WalkP (w : World) (base hw bm n : Nat) (fk fb : Value) (fp fr : Int) (fs : Value) (m : List Bool) (os : List (Int × List Int)) (l : List Int) (vo vl : Value) (ov : List (Int × Value)) : Prop where
  box : Box w hw #[fk, fb, .int .i64 fp, .int .i64 fr, fs, .slice (some ⟨bm, 0, none⟩) n n, vo, vl] 73
  met : Box w bm (m.map Value.bool).toArray 4
  len : m.length = n
  opn : OwV w base vo ov
  lft : Ow w base 3 .i64 vl l
  vlen : ov.length = os.length
  vis : ∀ (i : Nat) p q, ov[i]? = some p → os[i]? = some q → VisOk w (Mut hw bm vo vl) p q
  hb : base ≤ hw ∧ base ≤ bm
section
variable {w w' : World} {base hw bm n : Nat} {fk fb fs vo vl : Value} {fp fr : Int} {m : List Bool} {os : List (Int × List Int)} {l : List Int} {ov : List (Int × Value)}
theorem Box.apart {w : World} {h g : Nat} {cs ds : Array Value} {T U : TypeId} (b : Box w h cs T) (c : w.heap[g]? = some (.cells ds U (0, 0))) (hT : T ≠ U) : h ≠ g := fun e => by
  subst e
  have := b.symm.trans c
  injection this with this
  injection this with _ h2
  exact hT h2
theorem WalkP.ne (h : WalkP w base hw bm n fk fb fp fr fs m os l vo vl ov) : hw ≠ bm ∧ vo.ownBlock ≠ some hw ∧ vo.ownBlock ≠ some bm ∧ vl.ownBlock ≠ some hw ∧ vl.ownBlock ≠ some bm ∧ ∀ g, vo.ownBlock = some g → vl.ownBlock ≠ some g := by
  refine ⟨h.box.apart h.met (by decide), fun e => ?_, fun e => ?_, fun e => ?_, fun e => ?_, fun g e1 e2 => ?_⟩
  · obtain ⟨c, hc⟩ := h.opn.row _ e; exact h.box.apart hc (by decide) rfl
  · obtain ⟨c, hc⟩ := h.opn.row _ e; exact h.met.apart hc (by decide) rfl
  · obtain ⟨-, -, c, hc⟩ := h.lft.row' _ e; exact h.box.apart hc (by decide) rfl
  · obtain ⟨-, -, c, hc⟩ := h.lft.row' _ e; exact h.met.apart hc (by decide) rfl
  · obtain ⟨c, hc⟩ := h.opn.row _ e1
    obtain ⟨-, -, d, hd⟩ := h.lft.row' _ e2
    exact Box.apart (cs := c) hc hd (by decide) rfl
theorem WalkP.below (h : WalkP w base hw bm n fk fb fp fr fs m os l vo vl ov) (hb : Below w.heap.size w w') : WalkP w' base hw bm n fk fb fp fr fs m os l vo vl ov where
  box := h.box.below hb
  met := h.met.below hb
  len := h.len
  opn := h.opn.kept fun g hg => hb.block g (h.opn.lt g hg).2
  lft := h.lft.kept' fun g hg => hb.block g (h.lft.row' g hg).2.1
  vlen := h.vlen
  vis := fun i p q hp hq => (h.vis i p q hp hq).move hb.size (fun b hlt _ => hb.block b hlt) (fun _ _ h => h)
  hb := h.hb
/-- A block is met. -/
theorem WalkP.mark (h : WalkP w base hw bm n fk fb fp fr fs m os l vo vl ov) (c : Nat) : WalkP (w.setCell ⟨bm, c, none⟩ (.bool true)) base hw bm n fk fb fp fr fs (m.set c true) os l vo vl ov := by
  obtain ⟨n1, n2, n3, n4, n5, n6⟩ := h.ne
  refine ⟨h.box.other n1, ?_, by simpa using h.len, h.opn.kept fun g hg => heap_setCell_other _ _ _ _ (fun e => n3 (by rw [hg]; exact congrArg some e)), h.lft.kept' fun g hg => heap_setCell_other _ _ _ _ (fun e => n5 (by rw [hg]; exact congrArg some e)), h.vlen,
    fun i p q hp hq => (h.vis i p q hp hq).move (by rw [World.size_setCell]; exact Nat.le_refl _) (fun b hlt hm => heap_setCell_other _ _ _ _ (fun e => hm (.inr (.inl e)))) (fun _ _ h => h), h.hb⟩
  have := h.met.set c (.bool true)
  simpa [List.map_set] using this
end
end Go.Proofs.Ytkpikgakphdjjaa
namespace Go.Proofs.Ytkpikgakphdjjaa
open Go.RowKit
attribute [local go_sem ↓] Go.wp_at_zero Go.wp_at_succ

theorem OwV.sl {w : World} {base : Nat} {v : Value} {os : List (Int × Value)} (h : OwV w base v os) : ∃ A c, v = .slice A os.length c ∧ os.length ≤ c ∧ c ≤ maxLen := by
  rcases h.2 with ⟨rfl, h0⟩ | ⟨g, cap, cur, rfl, hg, hh, hnc, hcm, hsz, htake⟩
  · exact ⟨none, 0, by rw [h0], by omega, by simp [maxLen]⟩
  · exact ⟨_, _, rfl, hnc, hcm⟩
section
variable {w w4 w5 : World} {base hw bm n : Nat} {fk fb fs vo vl v5 x : Value} {fp fr c : Int} {m : List Bool} {os : List (Int × List Int)} {l nx : List Int} {ov : List (Int × Value)}
theorem WalkP.push (h : WalkP w base hw bm n fk fb fp fr fs m os l vo vl ov) (hb4 : Below w.heap.size w w4) (hg : w4.grownBy w5 vo.ownBlock) (ho : OwV w5 base v5 (ov ++ [(c, x)])) (hv5 : v5.ownBlock = vo.ownBlock ∨ ∃ g, v5.ownBlock = some g ∧ w.heap.size ≤ g)
    (hx : VisOk w (Mut hw bm vo vl) (c, x) (c, nx)) : WalkP (w5.setCell ⟨hw, 6, none⟩ v5) base hw bm n fk fb fp fr fs m (os ++ [(c, nx)]) l v5 vl (ov ++ [(c, x)]) := by
  obtain ⟨n1, n2, n3, n4, n5, n6⟩ := h.ne
  have hwl := h.box.lt
  have hbl := h.met.lt
  have k5 : ∀ b, b < w.heap.size → vo.ownBlock ≠ some b → w5.heap[b]? = w.heap[b]? := fun b hb hn => (hg.block b (by have := hb4.size; omega) (fun e => hn e.symm)).trans (hb4.block b hb)
  have hv6 : ∀ b, b < w.heap.size → v5.ownBlock = some b → vo.ownBlock = some b := fun b hb e => by
    rcases hv5 with h5 | ⟨g, h5, h6⟩
    · rw [← h5]; exact e
    · rw [h5] at e; injection e with e; omega
  have kS : ∀ b, b < w.heap.size → b ≠ hw → vo.ownBlock ≠ some b → (w5.setCell ⟨hw, 6, none⟩ v5).heap[b]? = w.heap[b]? := fun b hb h1 h2 => (heap_setCell_other _ _ _ _ h1).trans (k5 b hb h2)
  have hsz : w.heap.size ≤ (w5.setCell ⟨hw, 6, none⟩ v5).heap.size := by rw [World.size_setCell]; have := hb4.size; have := hg.size; omega
  have hmv : ∀ p q, VisOk w (Mut hw bm vo vl) p q → VisOk (w5.setCell ⟨hw, 6, none⟩ v5) (Mut hw bm v5 vl) p q := fun p q hpq => hpq.move hsz (fun b hlt hm => kS b hlt (fun e => hm (.inl e)) (fun e => hm (.inr (.inr (.inl e))))) (fun b hlt hm => by
    rcases hm with hm | hm | hm | hm
    · exact .inl hm
    · exact .inr (.inl hm)
    · exact .inr (.inr (.inl (hv6 b hlt hm)))
    · exact .inr (.inr (.inr hm)))
  refine ⟨?_, (kS bm hbl (fun e => n1 e.symm) n3).trans h.met, h.len, ho.kept fun g hgv => heap_setCell_other _ _ _ _ (fun e => ?_), h.lft.kept' fun g hgv => kS g (h.lft.row' g hgv).2.1 (fun e => n4 (by rw [hgv, e])) (fun e => n6 g e hgv), by simp [h.vlen], fun i p q hp hq => ?_, h.hb⟩
  · have hb5 : Box w5 hw _ _ := (k5 hw hwl n2).trans h.box
    have := hb5.set 6 v5
    simpa using this
  · subst e
    exact n2 (hv6 _ hwl hgv)
  · by_cases hi : i < ov.length
    · rw [List.getElem?_append_left hi] at hp
      rw [List.getElem?_append_left (by rw [← h.vlen]; exact hi)] at hq
      exact hmv p q (h.vis i p q hp hq)
    · have hil : i = ov.length := by
        have := (List.getElem?_eq_some_iff.1 hp).1
        simp at this; omega
      subst hil
      rw [List.getElem?_append_right (Nat.le_refl _)] at hp
      rw [h.vlen, List.getElem?_append_right (Nat.le_refl _)] at hq
      simp at hp hq
      subst hp; subst hq
      exact hmv _ _ hx
end
set_option maxHeartbeats 1000000 in
set_option maxRecDepth 100000 in
theorem enter_any (f : FunV) (base hw bm : Nat) (fk fb fs vo vl : Value) (m : List Bool) (os : List (Int × List Int)) (l : List Int) (ov : List (Int × Value)) (c : Nat) (w : World) (B : Nat) (hB : B ≤ base) (hbase : base ≤ w.heap.size)
    (hi : FunI w (· < B) fk fb fs f) (hok : FlowOk f) (hc : c < f.blocks.length) (hW : WalkP w base hw bm f.blocks.length fk fb f.params f.result fs m os l vo vl ov) (hol : os.length < 1000) :
    Calls Try.prog 50 #[.pointer (some ⟨hw, 0, none⟩), .int .i64 (c : Int)] w fun e w' => e = .returned (.tuple #[]) ∧ (∃ vo' ov', WalkP w' base hw bm f.blocks.length fk fb f.params f.result fs (m.set c true) (os ++ [((c : Int), nxt f c)]) l vo' vl ov') ∧ Below base w w' := by
  have hbd := hW.hb
  obtain ⟨i0, hi0, hz0, hz1, hz2⟩ := info_parts info_visit
  have hM := hW.mark c
  have hb1 : Below base w (w.setCell ⟨bm, c, none⟩ (.bool true)) := (Below.refl _ _).setCell (p := ⟨bm, c, none⟩) hbd.2 _
  have hs1 : (w.setCell ⟨bm, c, none⟩ (.bool true)).heap.size = w.heap.size := World.size_setCell _ _ _
  have HNX := hide (fun (W : World) (hb : Below base w W) => (show Calls Try.prog 43 #[.agg #[fk, fb, .int .i64 f.params, .int .i64 f.result, fs], .int .i64 (c : Int)] W fun e w' => ∃ A c', e = .returned (.slice A (nxt f c).length c') ∧ Sl w' w'.heap.size .i64 A (nxt f c) ∧ (nxt f c).length ≤ c' ∧ c' ≤ 2 ∧ (∀ b o, A = some ⟨b, o, none⟩ → W.heap.size ≤ b) ∧ Below W.heap.size W w' by
    have h := fnextN_any fk fb fs f (c : Int) W B (by have := hb.size; omega) (hi.keep (Same'.of_below (hb.mono hB)) (fun _ h => h)) hok
    rw [nxtI_nat hc] at h
    exact h))
  have hmc : (m.map Value.bool).toArray[c]? = some (.bool (m.getD c false)) := by
    have : c < m.length := by rw [hW.len]; exact hc
    simp [List.getD, this]
  have e1 := (hW.met.cell c hmc).1
  have e2 := (hW.met.cell c hmc).2
  have b5 := (hW.box.cell 5 (v := .slice (some ⟨bm, 0, none⟩) f.blocks.length f.blocks.length) rfl).1
  obtain ⟨Ak, ck, rfl, -, -⟩ := hi.1.open'
  obtain ⟨Ab, cb, rfl, -, -⟩ := hi.2.1.open'
  obtain ⟨As, cs, rfl, -, -⟩ := hi.2.2.1.open'
  have hvl := hW.vlen
  have hblen := hok.1
  have hnl := nxt_len f c
  obtain ⟨nx, hnx⟩ : ∃ nx, nxt f c = nx := ⟨_, rfl⟩
  rw [hnx] at HNX hnl ⊢
  obtain ⟨nl, hnl'⟩ : ∃ nl, nx.length = nl := ⟨_, rfl⟩
  have HNL := hide hnl'
  rw [hnl'] at HNX hnl
  have HI := hide hi0
  have HM := hide hM
  have HB1 := hide hb1
  obtain ⟨Ao, co, rfl, -, -⟩ := hM.opn.sl
  obtain ⟨no, hno⟩ : ∃ no, ov.length = no := ⟨_, rfl⟩
  have HNO := hide hno
  rw [hno] at HM
  have HBH := hide (show base ≤ hw ∧ base ≤ bm from hbd)
  have hwl := hW.box.lt
  have hbl := hW.met.lt
  have hci : (0 : Int) ≤ (c : Int) := by omega
  generalize f.blocks.length = n at *
  have hcn : (c : Int) < (n : Int) := by omega
  generalize m.getD c false = mb at *
  generalize f.kinds.length = lk, f.base.length = lb, f.params = fp, f.result = fr at *
  have HOL := hide (show ov.length < 1000 by rw [hvl]; exact hol)
  clear hi hok hW hM hb1 hi0 hnx hnl' hno hmc hvl hol
  go_enter Try.func50, Try.ntmps50
  go_upto_region 1 with (fail)
  obtain ⟨w1, hw1⟩ : ∃ w1, w1 = w.setCell ⟨bm, c, none⟩ (.bool true) := ⟨_, rfl⟩
  rw [← hw1] at HM HB1 hs1 ⊢
  clear hw1 e1 e2 b5
  have bx := HM.out.box
  have x0 := (bx.cell 0 (v := .slice Ak lk ck) rfl).1
  have x1 := (bx.cell 1 (v := .slice Ab lb cb) rfl).1
  have x2 := (bx.cell 2 (v := .int .i64 fp) rfl).1
  have x3 := (bx.cell 3 (v := .int .i64 fr) rfl).1
  have x4 := (bx.cell 4 (v := .slice As n cs) rfl).1
  have x6 := (bx.cell 6 (v := .slice Ao no co) rfl).1
  have hwl1 : hw < w1.heap.size := by omega
  have HBX := hide bx
  have hbs1 : base ≤ w1.heap.size := by omega
  clear bx hbase hwl hbl hs1
  go_region_law
    (first
      | (refine step_append_visit (w3.alloc (.cells #[.int .i64 (c : Int), .slice A3 nl c3] 99)) (by rfl) _ _ _ (by rfl) base i0 _ Try.underlying71 HI.out hz0 hz1 hz2 rfl (.slice Ao no co) ov (by rfl) ((HM.out.opn.kept (fun g hg => HB3.out.block g (HM.out.opn.lt g hg).2)).kept (fun g hg => Below.heap_alloc _ _ _ (by have := (HM.out.opn.lt g hg).2; omega))) (c : Int) (.slice A3 nl c3) rfl w3.heap.size (Box.new w3 _ _) (by rfl) (by have := HOL.out; omega) (by simp only [World.size_alloc]; omega) ?_; intro g5 cap5 w5 ho5 hg5 hv5 hl5; have y6 := (hg5.cell_far ⟨hw, 6, none⟩ (by simp; omega) (Ne.symm hne)).trans ((World.cell?_alloc_lt w3 _ ⟨hw, 6, none⟩ (by simp; omega)).trans z6); have y6f := (hg5.frozen_far ⟨hw, 6, none⟩ (by simp; omega) (Ne.symm hne)).trans ((World.frozen?_of_block (a := ⟨hw, 6, none⟩) (w := w3) (Below.heap_alloc w3 _ hw (by omega))).trans z6f))
      | (rw [if_pos (by rfl)]; go_simp; go_at_call 43; refine (HNX.out (w1.drewN 1) (below_drewN HB1.out 1)).mono ?_; rintro e w3 ⟨A3, c3, rfl, hs3, hl3, hm3, hn3, hb0⟩; have hb3 : Below w1.heap.size w1 w3 := ⟨hb0.os, hb0.tape, hb0.output, hb0.size, hb0.block⟩; have hz3 := hb3.size; have hwl3 : hw < w3.heap.size := (by omega); have bx3 := HBX.out.below hb3; have z6 := (bx3.cell 6 (v := .slice Ao no co) rfl).1; have z6f := (bx3.cell 6 (v := .slice Ao no co) rfl).2; have hne := HM.out.ne.2.1; have HB3 := hide hb3; have HS3 := hide hs3; have HN3 := hide (show ∀ b o, A3 = some ⟨b, o, none⟩ → w1.heap.size ≤ b from hn3); clear hb0 hb3 bx3 hs3 hn3))
  all_goals
    have HVO := hide (show VisOk w3 (Mut hw bm (.slice Ao no co) vl) ((c : Int), .slice A3 nl c3) ((c : Int), nx) from ⟨rfl, A3, c3, by rw [HNL.out], by rw [HNL.out]; exact hl3, hm3, HS3.out, fun b o hA _ hm => by
      have h1 := HN3.out b o hA
      have h2 := HM.out.box.lt
      have h3 := HM.out.met.lt
      rcases hm with hm | hm | hm | hm
      · omega
      · omega
      · have := (HM.out.opn.lt b hm).2; omega
      · have := (HM.out.lft.row' b hm).2.1; omega⟩)
    have HE := hide ((HM.out.below HB3.out).push ((Below.refl _ _).alloc (Nat.le_refl _) _) hg5 ho5 (by
      rcases hv5 with h | h
      · exact .inl (by rw [h]; rfl)
      · exact .inr ⟨g5, rfl, by rw [h, World.size_alloc]; omega⟩) HVO.out)
    have HBF := hide ((((HB1.out.trans (HB3.out.mono hbs1)).alloc (by omega) (.cells #[.int .i64 (c : Int), .slice A3 nl c3] 99)).grown hg5 (by simp only [World.size_alloc]; omega) (fun k hk => (HM.out.opn.lt k hk).1)).setCell (p := ⟨hw, 6, none⟩) HBH.out.1 (.slice (some ⟨g5, 0, none⟩) (ov.length + 1) cap5))
    go_end0
    exact ⟨rfl, ⟨_, _, HE.out⟩, HBF.out⟩
end Go.Proofs.Ytkpikgakphdjjaa
namespace Go.Proofs.Ytkpikgakphdjjaa
open Go.RowKit

section
variable {w w4 w5 : World} {base hw bm n : Nat} {fk fb fs vo vl v5 x y : Value} {fp fr b : Int} {m : List Bool} {os : List (Int × List Int)} {l nx cs : List Int} {ov : List (Int × Value)} {g no cap : Nat}
theorem WalkP.left (h : WalkP w base hw bm n fk fb fp fr fs m os l vo vl ov) (hb4 : Below w.heap.size w w4) (hg : w4.grownBy w5 vl.ownBlock) (ho : Ow w5 base 3 .i64 v5 (l ++ [b])) (hv5 : v5.ownBlock = vl.ownBlock ∨ ∃ g, v5.ownBlock = some g ∧ w.heap.size ≤ g) :
    WalkP (w5.setCell ⟨hw, 7, none⟩ v5) base hw bm n fk fb fp fr fs m os (l ++ [b]) vo v5 ov := by
  obtain ⟨n1, n2, n3, n4, n5, n6⟩ := h.ne
  have hwl := h.box.lt
  have hbl := h.met.lt
  have k5 : ∀ b, b < w.heap.size → vl.ownBlock ≠ some b → w5.heap[b]? = w.heap[b]? := fun b hb hn => (hg.block b (by have := hb4.size; omega) (fun e => hn e.symm)).trans (hb4.block b hb)
  have hv6 : ∀ b, b < w.heap.size → v5.ownBlock = some b → vl.ownBlock = some b := fun b hb e => by
    rcases hv5 with h5 | ⟨g, h5, h6⟩
    · rw [← h5]; exact e
    · rw [h5] at e; injection e with e; omega
  have kS : ∀ b, b < w.heap.size → b ≠ hw → vl.ownBlock ≠ some b → (w5.setCell ⟨hw, 7, none⟩ v5).heap[b]? = w.heap[b]? := fun b hb h1 h2 => (heap_setCell_other _ _ _ _ h1).trans (k5 b hb h2)
  have hsz : w.heap.size ≤ (w5.setCell ⟨hw, 7, none⟩ v5).heap.size := by rw [World.size_setCell]; have := hb4.size; have := hg.size; omega
  refine ⟨?_, (kS bm hbl (fun e => n1 e.symm) n5).trans h.met, h.len, h.opn.kept fun g hgv => kS g (h.opn.lt g hgv).2 (fun e => n2 (by rw [hgv, e])) (n6 g hgv), ho.kept' fun g hgv => heap_setCell_other _ _ _ _ (fun e => ?_), h.vlen, fun i p q hp hq => (h.vis i p q hp hq).move hsz (fun b hlt hm => kS b hlt (fun e => hm (.inl e)) (fun e => hm (.inr (.inr (.inr e))))) (fun b hlt hm => ?_), h.hb⟩
  · have hb5 : Box w5 hw _ _ := (k5 hw hwl n4).trans h.box
    have := hb5.set 7 v5
    simpa using this
  · subst e
    exact n4 (hv6 _ hwl hgv)
  · rcases hm with hm | hm | hm | hm
    · exact .inl hm
    · exact .inr (.inl hm)
    · exact .inr (.inr (.inl hm))
    · exact .inr (.inr (.inr (hv6 b hlt hm)))
theorem WalkP.drop (h : WalkP w base hw bm n fk fb fp fr fs m (os ++ [(b, nx)]) l (.slice (some ⟨g, 0, none⟩) no cap) vl (ov ++ [(b, x)])) :
    WalkP (w.setCell ⟨hw, 6, none⟩ (.slice (some ⟨g, 0, none⟩) ov.length cap)) base hw bm n fk fb fp fr fs m os l (.slice (some ⟨g, 0, none⟩) ov.length cap) vl ov := by
  obtain ⟨n1, n2, n3, n4, n5, n6⟩ := h.ne
  have hvl : ov.length = os.length := by have := h.vlen; simp at this; exact this
  have kS : ∀ b, b ≠ hw → (w.setCell ⟨hw, 6, none⟩ (.slice (some ⟨g, 0, none⟩) ov.length cap)).heap[b]? = w.heap[b]? := fun b h1 => heap_setCell_other _ _ _ _ h1
  refine ⟨?_, (kS bm (fun e => n1 e.symm)).trans h.met, h.len, h.opn.pop.kept fun g' hgv => kS g' (fun e => n2 (by rw [← e]; exact hgv)), h.lft.kept' fun g hgv => kS g (fun e => n4 (by rw [hgv, e])), hvl, fun i p q hp hq => ?_, h.hb⟩
  · have := h.box.set 6 (.slice (some ⟨g, 0, none⟩) ov.length cap)
    simpa using this
  · have hi := (List.getElem?_eq_some_iff.1 hp).1
    exact (h.vis i p q (by rw [List.getElem?_append_left hi]; exact hp) (by rw [List.getElem?_append_left (by omega)]; exact hq)).move (by rw [World.size_setCell]; exact Nat.le_refl _) (fun b hlt hm => kS b (fun e => hm (.inl e))) (fun b hlt hm => hm)
theorem WalkP.later (h : WalkP w base hw bm n fk fb fp fr fs m (os ++ [(b, nx)]) l (.slice (some ⟨g, 0, none⟩) no cap) vl (ov ++ [(b, x)])) (hy : VisOk w (Mut hw bm (.slice (some ⟨g, 0, none⟩) no cap) vl) (b, y) (b, cs)) :
    WalkP (w.setCell ⟨g, ov.length * 2 + 1, none⟩ y) base hw bm n fk fb fp fr fs m (os ++ [(b, cs)]) l (.slice (some ⟨g, 0, none⟩) no cap) vl (ov ++ [(b, y)]) := by
  obtain ⟨n1, n2, n3, n4, n5, n6⟩ := h.ne
  have hvl : ov.length = os.length := by have := h.vlen; simp at this; exact this
  have kS : ∀ b, b ≠ g → (w.setCell ⟨g, ov.length * 2 + 1, none⟩ y).heap[b]? = w.heap[b]? := fun b h1 => heap_setCell_other _ _ _ _ h1
  have hmv : ∀ p q, VisOk w (Mut hw bm (.slice (some ⟨g, 0, none⟩) no cap) vl) p q → VisOk (w.setCell ⟨g, ov.length * 2 + 1, none⟩ y) (Mut hw bm (.slice (some ⟨g, 0, none⟩) no cap) vl) p q := fun p q hpq =>
    hpq.move (by rw [World.size_setCell]; exact Nat.le_refl _) (fun b hlt hm => kS b (fun e => hm (.inr (.inr (.inl (by rw [e]; rfl)))))) (fun b hlt hm => hm)
  refine ⟨(kS hw (fun e => n2 (by rw [e]; rfl))).trans h.box, (kS bm (fun e => n3 (by rw [e]; rfl))).trans h.met, h.len, h.opn.setTop, h.lft.kept' fun g' hgv => kS g' (fun e => n6 g rfl (by rw [← e]; exact hgv)), by simp [hvl], fun i p q hp hq => ?_, h.hb⟩
  by_cases hi : i < ov.length
  · rw [List.getElem?_append_left hi] at hp
    rw [List.getElem?_append_left (by omega)] at hq
    exact hmv p q (h.vis i p q (by rw [List.getElem?_append_left hi]; exact hp) (by rw [List.getElem?_append_left (by omega)]; exact hq))
  · have hil : i = ov.length := by
      have := (List.getElem?_eq_some_iff.1 hp).1
      simp at this; omega
    subst hil
    rw [List.getElem?_append_right (Nat.le_refl _)] at hp
    rw [hvl, List.getElem?_append_right (Nat.le_refl _)] at hq
    simp at hp hq
    subst hp; subst hq
    exact hmv _ _ hy
/-- What is on top. -/
theorem WalkP.top (h : WalkP w base hw bm n fk fb fp fr fs m (os ++ [(b, nx)]) l vo vl ov) : ∃ ov0 A c g cap, ov = ov0 ++ [(b, .slice A nx.length c)] ∧ vo = .slice (some ⟨g, 0, none⟩) (ov0.length + 1) cap ∧ ov0.length = os.length ∧ ov0.length + 1 ≤ cap ∧ cap ≤ maxLen ∧
    base ≤ g ∧ g < w.heap.size ∧ w.cell? ⟨g, ov0.length * 2, none⟩ = some (.int .i64 b) ∧ w.cell? ⟨g, ov0.length * 2 + 1, none⟩ = some (.slice A nx.length c) ∧ w.frozen? ⟨g, ov0.length * 2 + 1, none⟩ = false ∧
    nx.length ≤ c ∧ c ≤ 2 ∧ Sl w w.heap.size .i64 A nx ∧ ∀ b o, A = some ⟨b, o, none⟩ → 0 < nx.length → ¬ Mut hw bm vo vl b := by
  have hvl := h.vlen
  simp only [List.length_append, List.length_singleton] at hvl
  obtain ⟨ov0, p, rfl⟩ : ∃ ov0 p, ov = ov0 ++ [p] := by
    refine ⟨ov.dropLast, ov.getLast (fun e => by rw [e] at hvl; simp at hvl), ?_⟩
    rw [List.dropLast_concat_getLast]
  have hl : ov0.length = os.length := by simp at hvl; exact hvl
  obtain ⟨h1, A, c, h2, h3, h4, h5, h6⟩ := h.vis ov0.length p (b, nx) (by simp) (by rw [hl]; simp)
  obtain ⟨p1, p2⟩ := p
  simp only at h1 h2
  subst h1
  subst h2
  obtain ⟨g, cap, rfl, q1, q2, q3, q4, q5, q6, q7⟩ := h.opn.top
  exact ⟨ov0, A, c, g, cap, rfl, rfl, hl, q1, q2, q3, q4, q5, q6, q7, h3, h4, h5, h6⟩
end
end Go.Proofs.Ytkpikgakphdjjaa
