/- Texts of several names, of which only what the statement needs is kept. -/
import Derived.Test.YtnoknodijombpaaPgYX
import Derived.Laws.CopyOwn
import Derived.Laws.Rows
/- The tree of next aboves in memory: what its methods has and meet answer. Conditions: its two blocks hold a list of next aboves, and the turns. -/
set_option linter.unusedSimpArgs false
set_option linter.unusedVariables false
namespace Go.Proofs.Ytnoknodijombpaa
open Go.RowKit

def AbW (w : World) (ga : Nat) (A : List Int) : Prop := Box w ga ((A.map (Value.int .i64)).toArray) 3
theorem AbW.cell {w : World} {ga b : Nat} {A : List Int} (h : AbW w ga A) (hb : b < A.length) : w.cell? ⟨ga, b, none⟩ = some (.int .i64 (A.getD b (-1))) ∧ w.frozen? ⟨ga, b, none⟩ = false :=
  Box.cell h b (by simp [List.getD, hb])
theorem AbW.set {w : World} {ga : Nat} {A : List Int} (h : AbW w ga A) (b : Nat) (r : Int) : AbW (w.setCell ⟨ga, b, none⟩ (.int .i64 r)) ga (A.set b r) := by
  have := Box.set h b (.int .i64 r)
  unfold AbW
  rw [List.map_set]
  simpa using this
theorem AbW.below {w w' : World} {ga : Nat} {A : List Int} (h : AbW w ga A) (hb : Below w.heap.size w w') : AbW w' ga A := Box.below h hb
def TnW (w : World) (gt n : Nat) (tn : Nat → Nat) : Prop := Box w gt (((List.range n).map (fun b : Nat => Value.int .i64 ((tn b : Nat) : Int))).toArray) 3
theorem TnW.cell {w : World} {gt n b : Nat} {tn : Nat → Nat} (h : TnW w gt n tn) (hb : b < n) : w.cell? ⟨gt, b, none⟩ = some (.int .i64 ((tn b : Nat) : Int)) ∧ w.frozen? ⟨gt, b, none⟩ = false :=
  Box.cell h b (by simp [hb])
theorem TnW.below {w w' : World} {gt n : Nat} {tn : Nat → Nat} (h : TnW w gt n tn) (hb : Below w.heap.size w w') : TnW w' gt n tn := Box.below h hb
end Go.Proofs.Ytnoknodijombpaa
namespace Go.Proofs.Ytnoknodijombpaa
open Go.RowKit

end Go.Proofs.Ytnoknodijombpaa
namespace Go.Proofs.Ytnoknodijombpaa
open Go.RowKit

/-- What comes ahead of each node, in memory: a slice of slices, apart from block ga. -/
def PvW (w : World) (gp n ga : Nat) (pv : Nat → List Int) : Prop :=
  gp < w.heap.size ∧ gp ≠ ga ∧ ∀ b, b < n → ∃ A c, w.cell? ⟨gp, b, none⟩ = some (.slice A (pv b).length c) ∧ (pv b).length ≤ c ∧ c ≤ 9223372036854775807 ∧ Sl w w.heap.size .i64 A (pv b) ∧ (∀ be o, A = some ⟨be, o, none⟩ → be ≠ ga)
theorem But.of_below {w w' : World} {g : Nat} (h : Below w.heap.size w w') : But g w w' := ⟨h.os, h.tape, h.output, h.size, fun k hk _ => h.block k hk⟩
theorem But.trans {w w1 w2 : World} {g : Nat} (h : But g w w1) (h2 : But g w1 w2) : But g w w2 :=
  ⟨h2.os.trans h.os, h2.tape.trans h.tape, h2.output.trans h.output, Nat.le_trans h.size h2.size, fun k hk hg => (h2.block k (Nat.lt_of_lt_of_le hk h.size) hg).trans (h.block k hk hg)⟩
/-- What a pass has done, k steps on. -/
structure PsI (n : Nat) (tn : Nat → Nat) (R : Nat → Prop) (pv : Nat → List Int) (D : Nat → Nat → Prop) (m : Nat) (A : List Int) (k : Nat) (mv : Bool) (A' : List Int) : Prop where
  gi : GI n tn R pv D (max k 1) A'
  no : mv = false → A' = A ∧ ∀ b, R b → b ≠ 0 → tn b < k → joinA tn A (pv b) (A.getD b (-1))
  yes : mv = true → farA m tn A' < farA m tn A
section
variable {n m : Nat} {tn : Nat → Nat} {R : Nat → Prop} {pv : Nat → List Int} {D : Nat → Nat → Prop} {A A' : List Int} {k b : Nat} {mv : Bool}
theorem PsI.first (g : Gr n m tn R pv D) (h : PsI n tn R pv D m A 0 mv A') : PsI n tn R pv D m A 1 mv A' :=
  ⟨h.gi, fun e => ⟨(h.no e).1, fun b hR h0 hl => absurd (g.inj _ _ hR g.z (by rw [g.tz]; omega)) h0⟩, h.yes⟩
theorem PsI.move {r : Int} (g : Gr n m tn R pv D) (h : PsI n tn R pv D m A k mv A') (hR : R b) (h0 : b ≠ 0) (hk : tn b = k) (h1 : 1 ≤ k) (hj : joinA tn A' (pv b) r) (hne : r ≠ A'.getD b (-1)) : PsI n tn R pv D m A (k + 1) true (A'.set b r) := by
  have hgi := h.gi
  rw [show max k 1 = k by omega] at hgi
  have hp := hgi.put g hR h0 hk hj
  have hl := hgi.less g hR h0 hk hj hne
  refine ⟨by rw [show max (k + 1) 1 = k + 1 by omega]; exact hp, fun e => by simp at e, fun _ => ?_⟩
  cases mv with
  | true => have := h.yes rfl; omega
  | false => rw [(h.no rfl).1] at hl; rw [(h.no rfl).1]; exact hl
theorem PsI.rest (g : Gr n m tn R pv D) (h : PsI n tn R pv D m A m false A') (h1 : 1 ≤ m) : Rest n tn R pv D A' := by
  obtain ⟨e1, e2⟩ := h.no rfl
  refine ⟨h.gi.again g (by omega), h.gi.all g (by omega), fun b hR h0 => ?_⟩
  have := e2 b hR h0 (g.rn b hR).2
  rw [← e1] at this
  exact this
end
end Go.Proofs.Ytnoknodijombpaa

/- What comes ahead of each block, in memory: the slice of slices that dom's comes makes. Condition: the function is one of a program that may be. -/
set_option linter.unusedSimpArgs false
set_option linter.unusedVariables false
namespace Go.Proofs.Ytnoknodijombpaa
open Go.RowKit

/-- Slices that grow, in memory, each in a block of its own. -/
def CmW (w2 : World) (gp n : Nat) (es : List (Int × Int)) (k : Nat) (vs : List Value) (wr : World) : Prop :=
  vs.length = n ∧ Box wr gp vs.toArray 27 ∧ (∀ (b : Nat) (v : Value), vs[b]? = some v → Ow wr w2.heap.size 3 .i64 v (selTo es b k)) ∧
  (∀ (b c : Nat) (v u : Value) (g : Nat), b ≠ c → vs[b]? = some v → vs[c]? = some u → v.ownBlock = some g → u.ownBlock ≠ some g) ∧ But gp w2 wr
theorem CmW.start {w2 : World} {gp n : Nat} {es : List (Int × Int)} (h : Box w2 gp (List.replicate n (Value.slice none 0 0)).toArray 27) : CmW w2 gp n es 0 (List.replicate n (Value.slice none 0 0)) w2 := by
  refine ⟨by simp, h, fun b v hv => ?_, fun b c v u g _ hv _ hg => ?_, But.refl _ _⟩
  · have : v = .slice none 0 0 := by rw [List.getElem?_replicate] at hv; split at hv <;> simp_all
    subst this
    have : selTo es b 0 = [] := by simp [selTo]
    rw [this]
    exact Ow.nil _ _ _ _
  · have : v = .slice none 0 0 := by rw [List.getElem?_replicate] at hv; split at hv <;> simp_all
    subst this
    cases hg
theorem CmW.far {w2 wr : World} {gp n k b : Nat} {es : List (Int × Int)} {vs : List Value} {v : Value} (h : CmW w2 gp n es k vs wr) (hv : vs[b]? = some v) : v.ownBlock ≠ some gp := (h.2.2.1 b v hv).apart h.2.1 (by decide)
theorem CmW.step {w2 wr w4 w5 : World} {gp n k yb : Nat} {ya : Int} {es : List (Int × Int)} {vs : List Value} {v v5 : Value} (h : CmW w2 gp n es k vs wr) (hv : vs[yb]? = some v) (hy : es[k]? = some (ya, (yb : Int)))
    (hb4 : Below wr.heap.size wr w4) (hg : w4.grownBy w5 v.ownBlock) (ho : Ow w5 w2.heap.size 3 .i64 v5 (selTo es yb k ++ [ya])) (hv5 : v5.ownBlock = v.ownBlock ∨ ∃ g, v5.ownBlock = some g ∧ wr.heap.size ≤ g) :
    CmW w2 gp n es (k + 1) (vs.set yb v5) (w5.setCell ⟨gp, yb, none⟩ v5) := by
  obtain ⟨h1, h2, h3, h4, h5⟩ := h
  have hfar := (h3 yb v hv).apart h2 (by decide)
  have hyl := (List.getElem?_eq_some_iff.1 hv).1
  have hgl := h2.lt
  have k5 : ∀ b, b < wr.heap.size → v.ownBlock ≠ some b → w5.heap[b]? = wr.heap[b]? := fun b hb hn => (hg.block b (by have := hb4.size; omega) (fun e => hn e.symm)).trans (hb4.block b hb)
  have hb5 : Box w5 gp vs.toArray 27 := (k5 gp hgl hfar).trans h2
  have hsz5 : wr.heap.size ≤ w5.heap.size := by have := hb4.size; have := hg.size; omega
  have h5far := ho.apart hb5 (by decide)
  have kS : ∀ b, b < wr.heap.size → b ≠ gp → v.ownBlock ≠ some b → (w5.setCell ⟨gp, yb, none⟩ v5).heap[b]? = wr.heap[b]? := fun b hb hn1 hn2 => (heap_setCell_other _ _ _ _ hn1).trans (k5 b hb hn2)
  refine ⟨by simp [h1], by have := hb5.set yb v5; simpa using this, fun c u hu => ?_, fun b c u1 u2 g hbc hu1 hu2 hg1 => ?_, ?_⟩
  · by_cases e : c = yb
    · subst e
      rw [List.getElem?_set_self hyl] at hu
      injection hu with hu
      subst hu
      rw [← selTo_yes hy rfl]
      exact ho.kept' fun g hgv => heap_setCell_other _ _ _ _ (fun e => h5far (by rw [hgv, e]))
    · rw [List.getElem?_set_ne (fun h => e h.symm)] at hu
      rw [← selTo_no hy (by simp; omega)]
      refine (h3 c u hu).kept' fun g hgv => kS g ((h3 c u hu).row' g hgv).2.1 (fun e2 => (h3 c u hu).apart h2 (by decide) (by rw [hgv, e2])) (fun e2 => h4 yb c v u g (fun e3 => e e3.symm) hv hu e2 hgv)
  · by_cases e1 : b = yb
    · subst e1
      have e2 : c ≠ b := fun e => hbc e.symm
      rw [List.getElem?_set_self hyl] at hu1
      injection hu1 with hu1
      subst hu1
      rw [List.getElem?_set_ne (fun h => e2 h.symm)] at hu2
      rcases hv5 with h6 | ⟨g', h6, h7⟩
      · rw [h6] at hg1; exact h4 b c v u2 g hbc hv hu2 hg1
      · rw [h6] at hg1
        injection hg1 with hg1
        intro h8
        have := ((h3 c u2 hu2).row' g h8).2.1
        omega
    · rw [List.getElem?_set_ne (fun h => e1 h.symm)] at hu1
      by_cases e2 : c = yb
      · subst e2
        rw [List.getElem?_set_self hyl] at hu2
        injection hu2 with hu2
        subst hu2
        rcases hv5 with h6 | ⟨g', h6, h7⟩
        · rw [h6]; exact h4 b c u1 v g hbc hu1 hv hg1
        · rw [h6]
          intro h8
          injection h8 with h8
          have := ((h3 b u1 hu1).row' g hg1).2.1
          omega
      · rw [List.getElem?_set_ne (fun h => e2 h.symm)] at hu2
        exact h4 b c u1 u2 g hbc hu1 hu2 hg1
  · refine ⟨?_, ?_, ?_, by rw [World.size_setCell]; have := h5.size; omega, fun b hb hn => ?_⟩
    · exact (show (w5.setCell ⟨gp, yb, none⟩ v5).os = w5.os from rfl).trans (hg.os.trans (hb4.os.trans h5.os))
    · exact (show (w5.setCell ⟨gp, yb, none⟩ v5).tape = w5.tape from rfl).trans (hg.tape.trans (hb4.tape.trans h5.tape))
    · exact (show (w5.setCell ⟨gp, yb, none⟩ v5).output = w5.output from rfl).trans (hg.output.trans (hb4.output.trans h5.output))
    · have hbr : b < wr.heap.size := by have := h5.size; omega
      exact (kS b hbr hn (fun e => by have := ((h3 yb v hv).row' b e).1; omega)).trans (h5.block b hb hn)
theorem CmW.pv {w2 wr : World} {f : FunV} {gp n k ga : Nat} {vs : List Value} (h : CmW w2 gp n (edgesN f) k vs wr) (hk : (edgesN f).length ≤ k) (hg : gp ≠ ga) (ha : ga < w2.heap.size) : PvW wr gp n ga (fun b => prevN f (b : Int)) := by
  obtain ⟨h1, h2, h3, h4, h5⟩ := h
  refine ⟨h2.lt, hg, fun b hb => ?_⟩
  obtain ⟨v, hv⟩ : ∃ v, vs[b]? = some v := ⟨_, List.getElem?_eq_getElem (by omega)⟩
  have ho := h3 b v hv
  rw [selTo_all hk] at ho
  obtain ⟨A, c, rfl, hc, hm, hs⟩ := ho.sl
  refine ⟨A, c, (h2.cell b (by simpa using hv)).1, hc, hm, hs, fun be o e => ?_⟩
  have := (ho.row' be (by rw [e]; rfl)).1
  omega
end Go.Proofs.Ytnoknodijombpaa
namespace Go.Proofs.Ytnoknodijombpaa
open Go.RowKit

end Go.Proofs.Ytnoknodijombpaa
namespace Go.Proofs.Ytnoknodijombpaa
open Go.RowKit
attribute [local go_sem ↓] Go.wp_at_zero Go.wp_at_succ

theorem tnO_snoc {o : List Int} {b : Nat} (hb : (b : Int) ∉ o) : tnO (o ++ [(b : Int)]) = fun x => if x = b then o.length else tnO o x := by
  funext x
  unfold tnO
  rw [placeN_snoc hb]
  by_cases e : x = b
  · subst e
    rw [if_pos rfl, if_pos rfl]
    omega
  · rw [if_neg (by omega), if_neg e]
theorem TnW.zero {w : World} {gt n : Nat} {mc : Array Value} (h : Box w gt mc 3) (hm : mc = ((List.replicate n (0 : Int)).map (Value.int .i64)).toArray) : TnW w gt n (fun _ => 0) := by
  subst hm
  unfold TnW
  have e : (List.range n).map (fun _ : Nat => Value.int .i64 ((0 : Nat) : Int)) = (List.replicate n (0 : Int)).map (Value.int .i64) := by
    apply List.ext_getElem
    · simp
    · intro i h1 h2; simp
  rw [e]
  exact h
theorem TnW.set {w : World} {gt n b v : Nat} {tn : Nat → Nat} (h : TnW w gt n tn) : TnW (w.setCell ⟨gt, b, none⟩ (.int .i64 (v : Int))) gt n (fun x => if x = b then v else tn x) := by
  have := Box.set h b (.int .i64 (v : Int))
  unfold TnW
  have e : (List.range n).map (fun x : Nat => Value.int .i64 (((if x = b then v else tn x : Nat) : Nat) : Int)) = ((List.range n).map (fun x : Nat => Value.int .i64 ((tn x : Nat) : Int))).set b (.int .i64 (v : Int)) := by
    apply List.ext_getElem
    · simp
    · intro i h1 h2
      rw [List.getElem_set]
      by_cases e : i = b
      · subst e; simp
      · simp [e]; intro h; exact absurd h.symm e
  rw [e]
  simpa using this
theorem Box.drew {w : World} {k : Nat} {cs : Array Value} {T : TypeId} (h : Box w k cs T) : Box w.drew k cs T := h
def TnL (w7 : World) (gt n : Nat) (o : List Int) (k : Nat) (wr : World) : Prop := TnW wr gt n (tnO (o.take k)) ∧ But gt w7 wr
theorem TnL.step {w7 wr : World} {gt n k b : Nat} {o : List Int} (h : TnL w7 gt n o k wr) (hn : o.Nodup) (hy : o[k]? = some (b : Int)) : TnL w7 gt n o (k + 1) (wr.setCell ⟨gt, b, none⟩ (.int .i64 (k : Int))) := by
  refine ⟨?_, h.2.set⟩
  have hk := (List.getElem?_eq_some_iff.1 hy).1
  rw [take_snocI hy, tnO_snoc (nodup_take hn hy), List.length_take, Nat.min_eq_left (Nat.le_of_lt hk)]
  exact h.1.set
end Go.Proofs.Ytnoknodijombpaa
