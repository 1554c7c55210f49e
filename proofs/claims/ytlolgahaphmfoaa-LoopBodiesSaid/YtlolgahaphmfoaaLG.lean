/- Layer 7: what loops are told from (loop.find): the back edges, and of each block the reached ones that lead to it. Condition: the function is one of a program that may be. -/
import Derived.Test.YtlolgahaphmfoaaLF
import Derived.Laws.Rows
set_option linter.unusedSimpArgs false
set_option linter.unusedVariables false
namespace Go.Proofs.Ytlolgahaphmfoaa
open Go.RowKit
attribute [local go_sem ↓] Go.wp_at_zero Go.wp_at_succ

/-- Slices that grow, in memory, each in a block of its own, from block 'base' on. -/
def CmV (w2 : World) (gp n base : Nat) (pv : Nat → List Int) (vs : List Value) (wr : World) : Prop :=
  vs.length = n ∧ Box wr gp vs.toArray 27 ∧ (∀ (b : Nat) (v : Value), vs[b]? = some v → Ow wr base 3 .i64 v (pv b)) ∧
  (∀ (b c : Nat) (v u : Value) (g : Nat), b ≠ c → vs[b]? = some v → vs[c]? = some u → v.ownBlock = some g → u.ownBlock ≠ some g) ∧ But gp w2 wr ∧ base = w2.heap.size
theorem CmV.start {w2 : World} {gp n : Nat} (h : Box w2 gp (List.replicate n (Value.slice none 0 0)).toArray 27) : CmV w2 gp n w2.heap.size (fun _ => []) (List.replicate n (Value.slice none 0 0)) w2 := by
  refine ⟨by simp, h, fun b v hv => ?_, fun b c v u g _ hv _ hg => ?_, But.refl _ _, rfl⟩
  · have : v = .slice none 0 0 := by rw [List.getElem?_replicate] at hv; split at hv <;> simp_all
    subst this
    exact Ow.nil _ _ _ _
  · have : v = .slice none 0 0 := by rw [List.getElem?_replicate] at hv; split at hv <;> simp_all
    subst this
    cases hg
section
variable {w2 wr w4 w5 : World} {gp n base : Nat} {pv : Nat → List Int} {vs : List Value}
theorem CmV.below (h : CmV w2 gp n base pv vs wr) (hb : Below wr.heap.size wr w4) : CmV w2 gp n base pv vs w4 :=
  ⟨h.1, h.2.1.below hb, fun b v hv => (h.2.2.1 b v hv).below hb, h.2.2.2.1, h.2.2.2.2.1.trans (But.of_below hb), h.2.2.2.2.2⟩
theorem CmV.far {b : Nat} {v : Value} (h : CmV w2 gp n base pv vs wr) (hv : vs[b]? = some v) : v.ownBlock ≠ some gp := (h.2.2.1 b v hv).apart h.2.1 (by decide)
theorem CmV.step {yb : Nat} {ya : Int} {v v5 : Value} (h : CmV w2 gp n base pv vs wr) (hv : vs[yb]? = some v)
    (hb4 : Below wr.heap.size wr w4) (hg : w4.grownBy w5 v.ownBlock) (ho : Ow w5 base 3 .i64 v5 (pv yb ++ [ya])) (hv5 : v5.ownBlock = v.ownBlock ∨ ∃ g, v5.ownBlock = some g ∧ wr.heap.size ≤ g) :
    CmV w2 gp n base (fun b => if b = yb then pv yb ++ [ya] else pv b) (vs.set yb v5) (w5.setCell ⟨gp, yb, none⟩ v5) := by
  obtain ⟨h1, h2, h3, h4, h5, h6⟩ := h
  have hfar := (h3 yb v hv).apart h2 (by decide)
  have hyl := (List.getElem?_eq_some_iff.1 hv).1
  have hgl := h2.lt
  have k5 : ∀ b, b < wr.heap.size → v.ownBlock ≠ some b → w5.heap[b]? = wr.heap[b]? := fun b hb hn => (hg.block b (by have := hb4.size; omega) (fun e => hn e.symm)).trans (hb4.block b hb)
  have hb5 : Box w5 gp vs.toArray 27 := (k5 gp hgl hfar).trans h2
  have hsz5 : wr.heap.size ≤ w5.heap.size := by have := hb4.size; have := hg.size; omega
  have h5far := ho.apart hb5 (by decide)
  have kS : ∀ b, b < wr.heap.size → b ≠ gp → v.ownBlock ≠ some b → (w5.setCell ⟨gp, yb, none⟩ v5).heap[b]? = wr.heap[b]? := fun b hb hn1 hn2 => (heap_setCell_other _ _ _ _ hn1).trans (k5 b hb hn2)
  refine ⟨by simp [h1], by have := hb5.set yb v5; simpa using this, fun c u hu => ?_, fun b c u1 u2 g hbc hu1 hu2 hg1 => ?_, ?_, h6⟩
  · by_cases e : c = yb
    · subst e
      rw [List.getElem?_set_self hyl] at hu
      injection hu with hu
      subst hu
      simp only [if_true]
      exact ho.kept' fun g hgv => heap_setCell_other _ _ _ _ (fun e => h5far (by rw [hgv, e]))
    · rw [List.getElem?_set_ne (fun h => e h.symm)] at hu
      simp only [if_neg e]
      refine (h3 c u hu).kept' fun g hgv => kS g ((h3 c u hu).row' g hgv).2.1 (fun e2 => (h3 c u hu).apart h2 (by decide) (by rw [hgv, e2])) (fun e2 => h4 yb c v u g (fun e3 => e e3.symm) hv hu e2 hgv)
  · by_cases e1 : b = yb
    · subst e1
      have e2 : c ≠ b := fun e => hbc e.symm
      rw [List.getElem?_set_self hyl] at hu1
      injection hu1 with hu1
      subst hu1
      rw [List.getElem?_set_ne (fun h => e2 h.symm)] at hu2
      rcases hv5 with h6 | ⟨g', h6, h7⟩
      · rw [h6] at hg1; exact h4 b c v u2 g hbc hv hu2 hg1
      · rw [h6] at hg1
        injection hg1 with hg1
        intro h8
        have := ((h3 c u2 hu2).row' g h8).2.1
        omega
    · rw [List.getElem?_set_ne (fun h => e1 h.symm)] at hu1
      by_cases e2 : c = yb
      · subst e2
        rw [List.getElem?_set_self hyl] at hu2
        injection hu2 with hu2
        subst hu2
        rcases hv5 with h6 | ⟨g', h6, h7⟩
        · rw [h6]; exact h4 b c u1 v g hbc hu1 hv hg1
        · rw [h6]
          intro h8
          injection h8 with h8
          have := ((h3 b u1 hu1).row' g hg1).2.1
          omega
      · rw [List.getElem?_set_ne (fun h => e2 h.symm)] at hu2
        exact h4 b c u1 u2 g hbc hu1 hu2 hg1
  · refine ⟨?_, ?_, ?_, by rw [World.size_setCell]; have := h5.size; omega, fun b hb hn => ?_⟩
    · exact (show (w5.setCell ⟨gp, yb, none⟩ v5).os = w5.os from rfl).trans (hg.os.trans (hb4.os.trans h5.os))
    · exact (show (w5.setCell ⟨gp, yb, none⟩ v5).tape = w5.tape from rfl).trans (hg.tape.trans (hb4.tape.trans h5.tape))
    · exact (show (w5.setCell ⟨gp, yb, none⟩ v5).output = w5.output from rfl).trans (hg.output.trans (hb4.output.trans h5.output))
    · have hbr : b < wr.heap.size := by have := h5.size; omega
      exact (kS b hbr hn (fun e => by have := ((h3 yb v hv).row' b e).1; omega)).trans (h5.block b hb hn)
/-- What was made since block b0 is apart from the rows that grow. -/
def CmU (b0 : Nat) (w3 : World) (gp : Nat) (vs : List Value) (wr : World) : Prop :=
  gp < b0 ∧ w3.heap.size ≤ wr.heap.size ∧ (∀ b, b0 ≤ b → b < w3.heap.size → wr.heap[b]? = w3.heap[b]?) ∧ (∀ (b : Nat) (v : Value) (g : Nat), vs[b]? = some v → v.ownBlock = some g → g < b0 ∨ w3.heap.size ≤ g)
theorem CmU.start {b0 : Nat} {w3 : World} (h : CmV w2 gp n base pv vs wr) (hb0 : b0 = wr.heap.size) (hb : wr.heap.size ≤ w3.heap.size) : CmU b0 w3 gp vs w3 := by
  subst hb0
  exact ⟨h.2.1.lt, Nat.le_refl _, fun _ _ _ => rfl, fun b v g hv hg => .inl ((h.2.2.1 b v hv).row' g hg).2.1⟩
theorem CmU.step {b0 yb : Nat} {w3 : World} {ya : Int} {v v5 : Value} (u : CmU b0 w3 gp vs wr) (h : CmV w2 gp n base pv vs wr) (hv : vs[yb]? = some v)
    (hb4 : Below wr.heap.size wr w4) (hg : w4.grownBy w5 v.ownBlock) (hv5 : v5.ownBlock = v.ownBlock ∨ ∃ g, v5.ownBlock = some g ∧ wr.heap.size ≤ g) :
    CmU b0 w3 gp (vs.set yb v5) (w5.setCell ⟨gp, yb, none⟩ v5) := by
  obtain ⟨u1, u2, u3, u4⟩ := u
  refine ⟨u1, by rw [World.size_setCell]; have := hb4.size; have := hg.size; omega, fun b hb hb3 => ?_, fun b x g hx hxg => ?_⟩
  · refine (heap_setCell_other _ _ _ _ (by omega : b ≠ gp)).trans ((hg.block b (by have := hb4.size; omega) (fun e => ?_)).trans ((hb4.block b (by omega)).trans (u3 b hb hb3)))
    rcases u4 yb v b hv e.symm with h | h <;> omega
  · by_cases e : b = yb
    · subst e
      rw [List.getElem?_set_self (List.getElem?_eq_some_iff.1 hv).1] at hx
      injection hx with hx
      subst hx
      rcases hv5 with h6 | ⟨g', h6, h7⟩
      · rw [h6] at hxg; exact u4 b v g hv hxg
      · rw [h6] at hxg; injection hxg with hxg; right; omega
    · rw [List.getElem?_set_ne (fun h => e h.symm)] at hx
      exact u4 b x g hx hxg
theorem CmU.sl {b0 B : Nat} {w3 : World} {A : Option Addr} {zs : List Int} (u : CmU b0 w3 gp vs wr) (hs : Sl w3 B .i64 A zs) (hB : B ≤ w3.heap.size) (hA : ∀ b o, A = some ⟨b, o, none⟩ → b0 ≤ b) : Sl wr B .i64 A zs := fun hp => by
  obtain ⟨b, o, e, hb, hc⟩ := hs hp
  exact ⟨b, o, e, hb, fun j hj => (World.cell?_of_block (a := ⟨b, o + j, none⟩) (u.2.2.1 b (hA b o e) (by omega))).trans (hc j hj)⟩
end
/-- Rows in memory, from block 'base' on. -/
def RowsW (w : World) (base gp n : Nat) (pv : Nat → List Int) : Prop := base ≤ gp ∧ gp < w.heap.size ∧ ∀ b, b < n → ∃ A c, w.cell? ⟨gp, b, none⟩ = some (.slice A (pv b).length c) ∧ (pv b).length ≤ c ∧ c ≤ 9223372036854775807 ∧ Sl w w.heap.size .i64 A (pv b) ∧ ∀ be o, A = some ⟨be, o, none⟩ → base ≤ be
theorem RowsW.below {w w' : World} {base gp n : Nat} {pv : Nat → List Int} (h : RowsW w base gp n pv) (hb : Below w.heap.size w w') : RowsW w' base gp n pv :=
  ⟨h.1, Nat.lt_of_lt_of_le h.2.1 hb.size, fun b hbn => by
    obtain ⟨A, c, c1, c2, c3, c4, c5⟩ := h.2.2 b hbn
    exact ⟨A, c, (hb.cell (p := ⟨gp, b, none⟩) h.2.1).trans c1, c2, c3, (c4.below hb).more hb.size, c5⟩⟩
theorem RowsW.but {w w' : World} {base gp n g : Nat} {pv : Nat → List Int} (h : RowsW w base gp n pv) (hb : But g w w') (hg : g < base) : RowsW w' base gp n pv :=
  ⟨h.1, Nat.lt_of_lt_of_le h.2.1 hb.size, fun b hbn => by
    obtain ⟨A, c, c1, c2, c3, c4, c5⟩ := h.2.2 b hbn
    have hgg : gp ≠ g := by have := h.1; omega
    exact ⟨A, c, (World.cell?_of_block (a := ⟨gp, b, none⟩) (hb.block gp h.2.1 hgg)).trans c1, c2, c3, (hb.sl c4 (Nat.le_refl _) (fun be o e => by have := c5 be o e; omega)).more hb.size, c5⟩⟩
theorem EdgS.but {w w' : World} {B g base : Nat} {A : Option Addr} {es : List (Int × Int)} (h : EdgS w B A es) (hB : B ≤ w.heap.size) (hb : But g w w') (hA : ∀ b o, A = some ⟨b, o, none⟩ → base ≤ b) (hg : g < base) : EdgS w' B A es := fun hp => by
  obtain ⟨b, o, e, hbb, hc⟩ := h hp
  have h1 : w'.heap[b]? = w.heap[b]? := hb.block b (by omega) (by have := hA b o e; omega)
  exact ⟨b, o, e, hbb, fun j p hj => ⟨(World.cell?_of_block (a := ⟨b, o + j * 2, none⟩) h1).trans (hc j p hj).1, (World.cell?_of_block (a := ⟨b, o + j * 2 + 1, none⟩) h1).trans (hc j p hj).2⟩⟩
theorem OwE.setBox {w : World} {base hl j : Nat} {v x : Value} {cs : Array Value} {T : TypeId} {es : List (Int × Int)} (h : OwE w base v es) (b : Box w hl cs T) (hT : T ≠ 42) : OwE (w.setCell ⟨hl, j, none⟩ x) base v es := by
  refine ⟨h.1, ?_⟩
  rcases h.2 with h2 | ⟨g, cap, cur, hv, hg, hh, r⟩
  · exact .inl h2
  · refine .inr ⟨g, cap, cur, hv, hg, (heap_setCell_other w ⟨hl, j, none⟩ g x (fun e => hT ?_)).trans hh, r⟩
    have e : g = hl := e
    subst e
    have h1 : w.heap[g]? = some (.cells cs T (0, 0)) := b
    rw [hh] at h1
    injection h1 with h1
    injection h1 with _ h1
    exact h1.symm
theorem OwE.put2 {w : World} {base hl : Nat} {v a b x0 x1 : Value} {T : TypeId} {es : List (Int × Int)} (h : OwE w base v es) (hb : Box w hl #[a, b] T) (hT : T ≠ 42) : OwE ((w.setCell ⟨hl, 0, none⟩ x0).setCell ⟨hl, 1, none⟩ x1) base v es :=
  (h.setBox hb hT).setBox (hb.set 0 x0) hT
theorem OwE.al {w : World} {base : Nat} {v : Value} {es : List (Int × Int)} {o : Obj} (h : OwE w base v es) : OwE (w.alloc o) base v es := h.below (alloc1 w o)
theorem OwE.dr {w : World} {base : Nat} {v : Value} {es : List (Int × Int)} (h : OwE w base v es) : OwE w.drew base v es := h
theorem OwE.but {w wr : World} {base gp : Nat} {v : Value} {cs : Array Value} {T : TypeId} {es : List (Int × Int)} (h : OwE w base v es) (hb : But gp w wr) (b : Box w gp cs T) (hT : T ≠ 42) : OwE wr base v es := by
  refine ⟨h.1, ?_⟩
  rcases h.2 with h2 | ⟨g, cap, cur, hv, hg, hh, r⟩
  · exact .inl h2
  · refine .inr ⟨g, cap, cur, hv, hg, (hb.block g (Array.getElem?_eq_some_iff.1 hh).1 (fun e => hT ?_)).trans hh, r⟩
    subst e
    have h1 : w.heap[g]? = some (.cells cs T (0, 0)) := b
    rw [hh] at h1
    injection h1 with h1
    injection h1 with _ h1
    exact h1.symm
theorem Box.ne {w : World} {a b : Nat} {cs ds : Array Value} {S T : TypeId} (x : Box w a cs S) (y : Box w b ds T) (h : S ≠ T) : a ≠ b := fun e => h (by
  subst e
  have h1 : w.heap[a]? = some (.cells cs S (0, 0)) := x
  have h2 : w.heap[a]? = some (.cells ds T (0, 0)) := y
  rw [h1] at h2
  injection h2 with h2
  injection h2 with _ h2)
theorem CmV.rowsSet {w2 wr : World} {gp n base hx : Nat} {pv : Nat → List Int} {vs : List Value} {cs : Array Value} {T : TypeId} {x0 x1 : Value} (h : CmV w2 gp n base pv vs wr) (hb : Box wr hx cs T) (hT : T ≠ 27) (hT2 : T ≠ 3) (B0 : Nat) (hB0 : B0 ≤ base) (hBg : B0 ≤ gp) : RowsW ((wr.setCell ⟨hx, 0, none⟩ x0).setCell ⟨hx, 1, none⟩ x1) B0 gp n pv := by
  obtain ⟨h1, h2, h3, -⟩ := h
  have hne : gp ≠ hx := h2.ne hb (fun e => hT e.symm)
  have kb : ∀ b, b ≠ hx → ((wr.setCell ⟨hx, 0, none⟩ x0).setCell ⟨hx, 1, none⟩ x1).heap[b]? = wr.heap[b]? := fun b hbx => (heap_setCell_other _ ⟨hx, 1, none⟩ b _ hbx).trans (heap_setCell_other _ ⟨hx, 0, none⟩ b _ hbx)
  have h2' : Box ((wr.setCell ⟨hx, 0, none⟩ x0).setCell ⟨hx, 1, none⟩ x1) gp vs.toArray 27 := (kb gp hne).trans h2
  refine ⟨hBg, h2'.lt, fun b hb' => ?_⟩
  obtain ⟨v, hv⟩ : ∃ v, vs[b]? = some v := ⟨_, List.getElem?_eq_getElem (by omega)⟩
  have ho := (h3 b v hv).kept' (w' := (wr.setCell ⟨hx, 0, none⟩ x0).setCell ⟨hx, 1, none⟩ x1) (fun g hg => kb g (fun e => by
    subst e
    obtain ⟨-, -, c, hc⟩ := (h3 b v hv).row' g hg
    have h1 : wr.heap[g]? = some (.cells cs T (0, 0)) := hb
    rw [hc] at h1
    injection h1 with h1
    injection h1 with _ h1
    exact hT2 h1.symm))
  obtain ⟨A, c, rfl, hc, hm, hs⟩ := ho.sl
  exact ⟨A, c, (h2'.cell b (by simpa using hv)).1, hc, hm, hs, fun be o e => by have := (ho.row' be (by rw [e]; rfl)).1; omega⟩
theorem size_loops : (Try.prog.info? 58).map (·.size) = some 2 := by kernel_rfl
def FndS (w1 : World) (base n : Nat) (es : List (Int × Int)) (p : Value) (w' : World) : Prop := ∃ hl ve gp, p = .pointer (some ⟨hl, 0, none⟩) ∧ Box w' hl #[ve, .slice (some ⟨gp, 0, none⟩) n n] 58 ∧ OwE w' base ve es ∧ Box w' gp (List.replicate n (Value.slice none 0 0)).toArray 27 ∧ base ≤ hl ∧ base ≤ gp ∧ Below base w1 w'
theorem fnds_of {w1 w' : World} {base n hl gp : Nat} {ve : Value} {es : List (Int × Int)} {mc : Array Value} (hmc : mc = (List.replicate n (Value.slice none 0 0)).toArray) (b : Box w' hl #[ve, .slice (some ⟨gp, 0, none⟩) n n] 58) (ho : OwE w' base ve es) (hm : Box w' gp mc 27) (h1 : base ≤ hl) (h2 : base ≤ gp) (hb : Below base w1 w') : FndS w1 base n es (.pointer (some ⟨hl, 0, none⟩)) w' := by
  subst hmc
  exact ⟨hl, ve, gp, rfl, b, ho, hm, h1, h2, hb⟩
set_option maxHeartbeats 4000000 in
set_option maxRecDepth 100000 in
theorem lfind_any (vk vb vs : Value) (f : FunV) (o : List Int) (ho : OrderOf f o) (A : List Int) (hAf : AbvOf f A) (p : Int → Int → Bool) (hp : ∀ a b, p a b = true ↔ domQ A a b) (w : World) (B : Nat) (hB : B ≤ w.heap.size) (hi : FunI w (· < B) vk vb vs f) (hok : FlowOk f) (h1 : 1 ≤ f.blocks.length) :
    Calls Try.prog 40 #[.agg #[vk, vb, .int .i64 f.params, .int .i64 f.result, vs]] w fun e w' => ∃ Ae ce gp, e = .returned (.agg #[.slice Ae (backN f o p).length ce, .slice (some ⟨gp, 0, none⟩) f.blocks.length f.blocks.length]) ∧ EdgS w' w'.heap.size Ae (backN f o p) ∧ (backN f o p).length ≤ ce ∧ ce ≤ 9223372036854775807 ∧ (∀ b o, Ae = some ⟨b, o, none⟩ → w.heap.size ≤ b) ∧ RowsW w' w.heap.size gp f.blocks.length (rprevTo f (sortL o) (sortL o).length 0) ∧ Below w.heap.size w w' := by
  have HBK0 := hide (fun (W : World) (hW : Below w.heap.size w W) => lback_any vk vb vs f o ho A hAf p hp W B (by have := hW.size; omega) (hi.keep (up hW hB) (fun _ h => h)) hok h1)
  have HRX := hide (fun (W : World) (hW : Below w.heap.size w W) => (freach_any vk vb vs f W B (by have := hW.size; omega) (hi.keep (up hW hB) (fun _ h => h)) hok h1).mono (R' := fun e w' => ∃ v, e = .returned v ∧ Ow w' W.heap.size 3 .i64 v (sortL o) ∧ Below W.heap.size W w') (fun e w' ⟨v, l, q1, q2, q3, q4⟩ => ⟨v, q1, by rw [ho.one q2]; exact q3, q4⟩))
  have HNX := hide (fun (W : World) (hW : Below w.heap.size w W) (k : Nat) (hk : k < f.blocks.length) => (show Calls Try.prog 50 #[.agg #[vk, vb, .int .i64 f.params, .int .i64 f.result, vs], .int .i64 (k : Int)] W fun e w' => ∃ A c, e = .returned (.slice A (nxt f k).length c) ∧ Sl w' w'.heap.size .i64 A (nxt f k) ∧ (nxt f k).length ≤ c ∧ c ≤ 2 ∧ (∀ b o, A = some ⟨b, o, none⟩ → W.heap.size ≤ b) ∧ Below W.heap.size W w' by
    have h := fnextN_any _ _ _ f (k : Int) W B (by have := hW.size; omega) (hi.keep (up hW hB) (fun _ h => h)) hok
    rw [nxtI_nat hk] at h
    exact h))
  have HRG := hide (fun y hy => (sort_reach (order_reach hok h1 ho)).rng y hy)
  have HNR := hide hok.2.2
  have hol : (sortL o).length ≤ 40 := by rw [sortL_len]; exact order_len hok h1 ho
  have hbl := back_len (o := o) (p := p) hok
  obtain ⟨i0, hi0, iz0, iz1, iz2⟩ := info_parts info_i64
  have HI := hide hi0
  have hls40 := hok.1
  have hmake : ∀ W : World, (Instr.makeSlice 56 (.int .i64 (f.blocks.length : Int)) (.int .i64 (f.blocks.length : Int))).run Try.prog W = .ok (.slice (some ⟨W.heap.size, 0, none⟩) f.blocks.length f.blocks.length) (W.alloc (.cells (madeCells (Value.slice none 0 0).cells (f.blocks.length * 1)) 27)) := fun W => mk_run 56 27 Try.underlying56 info_ints (by omega) f.blocks.length (by omega) W
  obtain ⟨mc, hmc⟩ : ∃ mc, madeCells (Value.slice none 0 0).cells (f.blocks.length * 1) = mc := ⟨_, rfl⟩
  rw [hmc] at hmake
  have HMC := hide (show mc = (List.replicate f.blocks.length (Value.slice none 0 0)).toArray by rw [← hmc]; exact madeCells_ints _)
  obtain ⟨Ak, ck, rfl, hck, hmk⟩ := hi.1.open'
  obtain ⟨Ab, cb, rfl, hcb, hmb⟩ := hi.2.1.open'
  obtain ⟨As, cs, rfl, hcs, hms⟩ := hi.2.2.1.open'
  obtain ⟨es, hes⟩ : ∃ es, backN f o p = es := ⟨_, rfl⟩
  rw [hes] at HBK0 hbl ⊢
  obtain ⟨ne, hne⟩ : ∃ n, es.length = n := ⟨_, rfl⟩
  have HNE := hide hne
  rw [hne] at hbl ⊢
  obtain ⟨rs, hrs⟩ : ∃ rs, sortL o = rs := ⟨_, rfl⟩
  rw [hrs] at HRX HRG hol ⊢
  have HZ := hide (rprevTo_zero f rs)
  have HST := hide (fun k j y r h1 h2 => @rprevTo_step f rs k j y r h1 h2)
  have HRW := hide (fun k j r h1 h2 => @rprevTo_row f rs k j r h1 h2)
  have HPL := hide (fun k j b => rprevTo_len f rs k j b)
  have HN2 := hide (fun k => nxt_len f k)
  obtain ⟨nr, hnr⟩ : ∃ n, rs.length = n := ⟨_, rfl⟩
  have HNRL := hide hnr
  rw [hnr] at hol HPL ⊢
  generalize f.kinds.length = lk, f.base.length = lb, f.blocks.length = ls, f.params = fp, f.result = fr at *
  clear hi hok hes hne hrs hnr hmc hi0 ho hAf hp h1
  go_enter Try.func40, Try.ntmps40
  go_upto_region 1 with (fail)
  obtain ⟨w1, hw1⟩ : ∃ w1, w1 = (w.alloc (.cells #[.slice Ak lk ck, .slice Ab lb cb, .int .i64 fp, .int .i64 fr, .slice As ls cs] 30)).alloc (.cells #[.slice none 0 0, .slice none 0 0] 58) := ⟨_, rfl⟩
  obtain ⟨h5, hh5⟩ : ∃ h5, w.heap.size = h5 := ⟨_, rfl⟩
  have HX1 := hide (show Box w1 h5 #[.slice Ak lk ck, .slice Ab lb cb, .int .i64 fp, .int .i64 fr, .slice As ls cs] 30 by rw [hw1, ← hh5]; exact (Box.new w _ _).alloc _)
  have HR1 := hide (show Box w1 (h5 + 1) #[.slice none 0 0, .slice none 0 0] 58 by rw [hw1, ← hh5]; have h := Box.new (w.alloc (.cells #[.slice Ak lk ck, .slice Ab lb cb, .int .i64 fp, .int .i64 fr, .slice As ls cs] 30)) #[.slice none 0 0, .slice none 0 0] 58; rw [World.size_alloc] at h; exact h)
  have HB1 := hide (show Below w.heap.size w w1 by rw [hw1]; exact (alloc1 w _).alloc (by rw [World.size_alloc]; omega) _)
  have hs1 : w1.heap.size = h5 + 1 + 1 := by rw [hw1, World.size_alloc, World.size_alloc, hh5]
  have hwg : w.heap.size ≤ h5 := by omega
  have HK1 := hide (fun (W : World) (hW : Below w1.heap.size w1 W) => And.intro ((HX1.out.below hW).cell 0 (v := .slice Ak lk ck) rfl).1 (And.intro ((HX1.out.below hW).cell 1 (v := .slice Ab lb cb) rfl).1 (And.intro ((HX1.out.below hW).cell 2 (v := .int .i64 fp) rfl).1 (And.intro ((HX1.out.below hW).cell 3 (v := .int .i64 fr) rfl).1 ((HX1.out.below hW).cell 4 (v := .slice As ls cs) rfl).1))))
  have HUP := hide (fun (W : World) (hW : Below w1.heap.size w1 W) => HB1.out.trans (hW.mono HB1.out.size))
  have HBK := hide (fun (W : World) (hW : Below w1.heap.size w1 W) => HBK0.out W (HUP.out W hW))
  rw [← hw1, hh5]
  have HS1 := hide hs1
  clear hw1 hh5 hs1
  have l1 := HX1.out.lt
  obtain ⟨c0, c1, c2, c3, c4⟩ := HK1.out w1 (Below.refl _ _)
  go_cut [3] from 4 (fun p wx => FndS w1 w1.heap.size ls es p wx)
  case first =>
    go_region_law
      (first
        | (rw [if_pos (by rfl)]; go_simp; go_at_call 13; refine (HBK.out _ ?_).mono ?_; (focus (repeat (first | exact Below.refl _ _ | with_reducible apply Below.dr | (with_reducible refine Below.alloc ?_ ?_ _; rotate_left; (focus (first | (simp; done) | (simp; omega))))))); rintro e w5 ⟨v5, rfl, ho5, hb5⟩; obtain ⟨A5, k5, hv5, hle5, hme5, -⟩ := ho5.sl; rw [HNE.out] at hv5; subst hv5; refine Below.use (a := w1) (B := w1.heap.size) hb5 ?_ ?_ (fun hbb => ?_); (focus (repeat (first | exact Below.refl _ _ | with_reducible apply Below.dr | (with_reducible refine Below.alloc ?_ ?_ _; rotate_left; (focus (first | (simp; done) | (simp; omega))))))); (focus (first | (simp; done) | (simp; omega))); have HO5 := ho5.lower (b := w1.heap.size) (by first | (simp; done) | (simp; omega)); obtain ⟨x0, x1, x2, x3, x4⟩ := HK1.out w5 hbb; have hz5 := hb5.size; (simp at hz5); have lx5 : h5 < w5.heap.size := (by have := hbb.size; omega); (first | (refine Box.use (k := w1.heap.size) (cs := #[.slice none 0 0, .slice none 0 0]) (T := 58) hb5 ?_ (fun qa => ?_); (focus ((repeat (first | (with_reducible refine Box.newAt ?_; (first | (simp; done) | (simp; omega))) | with_reducible apply Box.alloc | with_reducible apply Box.drew)); done)); have qa0 := (Box.cell qa 0 (v := .slice none 0 0) rfl).1; have qa1 := (Box.cell qa 0 (v := .slice none 0 0) rfl).2; have qa2 := (Box.cell qa 1 (v := .slice none 0 0) rfl).1; have qa3 := (Box.cell qa 1 (v := .slice none 0 0) rfl).2; have qa4 := qa.lt) | skip); (first | (refine Box.use (k := w1.heap.size + 1) (cs := #[.slice none 0 0, .slice none 0 0]) (T := 58) hb5 ?_ (fun qb => ?_); (focus ((repeat (first | (with_reducible refine Box.newAt ?_; (first | (simp; done) | (simp; omega))) | with_reducible apply Box.alloc | with_reducible apply Box.drew)); done)); have qb0 := (Box.cell qb 0 (v := .slice none 0 0) rfl).1; have qb1 := (Box.cell qb 0 (v := .slice none 0 0) rfl).2; have qb2 := (Box.cell qb 1 (v := .slice none 0 0) rfl).1; have qb3 := (Box.cell qb 1 (v := .slice none 0 0) rfl).2; have qb4 := qb.lt) | skip); clear ho5))
    all_goals (go_wp2_with fail; go_meet)
    all_goals
      apply fnds_of HMC.out
      · (repeat (first | assumption | (with_reducible refine Box.newAt ?_; (first | (simp; done) | (simp; omega))) | with_reducible apply Box.put2 | with_reducible apply Box.alloc | with_reducible apply Box.drew | (with_reducible refine Box.other ?_ (by omega)) | (refine Box.below ?_ hb5)))
      · (repeat (first | assumption | (with_reducible refine OwE.put2 (a := .slice none 0 0) (b := .slice none 0 0) (T := 58) ?_ ?_ (by decide); rotate_left; (focus ((repeat (first | assumption | (with_reducible refine Box.newAt ?_; (first | (simp; done) | (simp; omega))) | with_reducible apply Box.put2 | with_reducible apply Box.alloc | with_reducible apply Box.drew | (with_reducible refine Box.other ?_ (by omega)) | (refine Box.below ?_ hb5))); done))) | with_reducible apply OwE.al | with_reducible apply OwE.dr))
      · (repeat (first | assumption | (with_reducible refine Box.newAt ?_; (first | (simp; done) | (simp; omega))) | with_reducible apply Box.put2 | with_reducible apply Box.alloc | with_reducible apply Box.drew | (with_reducible refine Box.other ?_ (by omega)) | (refine Box.below ?_ hb5)))
      · omega
      · omega
      · repeat (first | assumption | (with_reducible refine Below.setCell (p := _) ?_ ?_ _; rotate_left; (focus (first | (simp; done) | (simp; omega)))) | (with_reducible refine Below.alloc ?_ ?_ _; rotate_left; (focus (first | (simp; done) | (simp; omega) | omega))))
  case rest =>
    obtain ⟨hl, ve, gp, rfl, hxl, hoe, hxg, bl, bg, hbc⟩ := hcut
    have hsc := hbc.size
    have hlg := hxl.ne hxg (by decide)
    obtain ⟨Ae, ce, hve, hce, hme, -⟩ := hoe.sl
    rw [HNE.out] at hve hce
    subst hve
    have HXC := hide (HX1.out.below hbc)
    have HRC := hide (HR1.out.below hbc)
    have HXL := hide hxl
    have HXG := hide hxg
    have HOE := hide hoe
    have HBC := hide hbc
    have hs1 := HS1.out
    have lc := HXC.out.lt
    have hgp1 : gp ≠ h5 ∧ gp ≠ h5 + 1 ∧ w.heap.size ≤ gp ∧ gp < wc.heap.size ∧ hl < wc.heap.size ∧ hl ≠ h5 + 1 := by
      have := hxg.lt; have := hxl.lt; omega
    have HGP := hide hgp1
    clear hxl hxg hoe hbc c0 c1 c2 c3 c4 hs1 hgp1 bl bg
    obtain ⟨c0, c1, c2, c3, c4⟩ := HK1.out wc HBC.out
    have hme2 : ce ≤ 9223372036854775807 := by simp only [maxLen] at hme; omega
    clear hme
    go_upto_region 3 with (go_at_call 54; refine (HRX.out wc (HUP.out wc HBC.out)).mono ?_; rintro e w2 ⟨v2, rfl, ho2, hb2⟩; obtain ⟨A2, k2, hv2, hle2, hm2, hs2⟩ := ho2.sl; rw [HNRL.out] at hv2 hle2; have HS2 := hide hs2; have HA2 := hide (show ∀ b o', A2 = some ⟨b, o', none⟩ → b ≠ gp from fun b o' e => (by have h1 := (World.ownsRow.lt ho2 b (by rw [hv2, e]; rfl)).1; have h2 := HGP.out; omega)); have HB2 := hide hb2; subst hv2; clear hb2 ho2 hs2)
    clear c0 c1 c2 c3 c4
    have hz2 := HB2.out.size
    have HX2 := hide (HXC.out.below HB2.out)
    have HR2 := hide (HRC.out.below HB2.out)
    have HL2 := hide (HXL.out.below HB2.out)
    have HG2 := hide (HXG.out.below HB2.out)
    have HOE2 := hide (HOE.out.below HB2.out)
    have HBE2 := hide (HUP.out w2 (HBC.out.trans (HB2.out.mono hsc)))
    have HCM := hide (show CmV w2 gp ls w2.heap.size (rprevTo f rs 0 0) (List.replicate ls (.slice none 0 0)) w2 by rw [HZ.out]; exact CmV.start HG2.out)
    go_loopw [18] (fun i wr => ∃ (k : Nat) (vs : List Value), k ≤ nr ∧ i = .int .i64 k ∧ Hid (CmV w2 gp ls w2.heap.size (rprevTo f rs k 0) vs wr)) (fun i _ => nr - (intOf i).toNat)
    case atStart => exact ⟨0, _, Nat.zero_le _, rfl, HCM⟩
    case round =>
      obtain ⟨k, vs, hk, rfl, hin⟩ := hrel
      obtain ⟨wo, rfl⟩ : ∃ wo, wo = wr := ⟨_, rfl⟩
      have HC := hide hin.out
      have HBT := hide hin.out.2.2.2.2.1
      have hq := HGP.out
      have HBE := hide (HBT.out.below HBE2.out hq.2.2.1 HBE2.out.size)
      have hsz := HBT.out.size
      have HXO := hide (HBT.out.box HX2.out hq.1.symm)
      have HRO := hide (HBT.out.box HR2.out hq.2.1.symm)
      have HLO := hide (HBT.out.box HL2.out hlg)
      have lxo := HXO.out.lt
      have lro := HRO.out.lt
      have llo := HLO.out.lt
      have m0 := (HLO.out.cell 0 (v := .slice Ae ne ce) rfl).1
      have m1 := (HLO.out.cell 1 (v := .slice (some ⟨gp, 0, none⟩) ls ls) rfl).1
      clear hin
      by_cases hlt : k < nr
      case neg =>
        have hkn : k = nr := by omega
        have r0 := (HRO.out.cell 0 (v := .slice none 0 0) rfl).1
        have r1 := (HRO.out.cell 1 (v := .slice none 0 0) rfl).1
        have s0 := (HRO.out.cell 0 (v := .slice none 0 0) rfl).2
        have s1 := (HRO.out.cell 1 (v := .slice none 0 0) rfl).2
        have HREN := hide (HRO.out.put2 (v0 := .slice Ae ne ce) (v1 := .slice (some ⟨gp, 0, none⟩) ls ls))
        have HOEN := hide ((HOE2.out.but HBT.out HG2.out (by decide)).put2 (x0 := .slice Ae ne ce) (x1 := .slice (some ⟨gp, 0, none⟩) ls ls) HRO.out (by decide))
        have HROW := hide (show RowsW ((wo.setCell ⟨h5 + 1, 0, none⟩ (.slice Ae ne ce)).setCell ⟨h5 + 1, 1, none⟩ (.slice (some ⟨gp, 0, none⟩) ls ls)) w.heap.size gp ls (rprevTo f rs nr 0) by rw [← hkn]; exact HC.out.rowsSet HRO.out (by decide) (by decide) w.heap.size HBE2.out.size hq.2.2.1)
        have HBN := hide ((HBE.out.setCell (p := ⟨h5 + 1, 0, none⟩) (by show w.heap.size ≤ h5 + 1; omega) (.slice Ae ne ce)).setCell (p := ⟨h5 + 1, 1, none⟩) (by show w.heap.size ≤ h5 + 1; omega) (.slice (some ⟨gp, 0, none⟩) ls ls))
        clear hkn
        go_wp2
        (try simp only [Exit.inBlock, Exit.then])
        refine bodyPost_ret (results_cell_row rfl _ _ (h5 + 1) 58 #[.slice Ae ne ce, .slice (some ⟨gp, 0, none⟩) ls ls] (0, 0) _ (by rfl) HREN.out Try.underlying58 rfl size_loops) rfl ?_
        obtain ⟨Ax, cx, hvx, hcx, hmx, hsx⟩ := HOEN.out.sl
        injection hvx with e1 e2 e3
        subst e1; subst e3
        exact ⟨Ae, ce, gp, rfl, hsx, hce, hme2, fun b o e => (by have h1 := (World.ownsRow.lt HOEN.out b (by rw [e]; rfl)).1; have h2 := HB1.out.size; omega), HROW.out, HBN.out⟩
      obtain ⟨y, hy⟩ : ∃ y, rs[k]? = some y := ⟨_, List.getElem?_eq_getElem (by have := HNRL.out; omega)⟩
      obtain ⟨hy0, hyn⟩ := HRG.out y (List.mem_of_getElem? hy)
      obtain ⟨b, rfl⟩ : ∃ n : Nat, y = n := ⟨y.toNat, by omega⟩
      have hbl' : b < ls := by omega
      obtain ⟨be, oe, rfl, hbe, hcc⟩ := (HBT.out.sl HS2.out (Nat.le_refl _) HA2.out) (by have := HNRL.out; omega)
      have d1 := hcc k (by have := HNRL.out; omega)
      rw [show rs.getD k 0 = (b : Int) by simp [List.getD, hy]] at d1
      have hbs : be < wo.heap.size := by omega
      have HY := hide hy
      have HNK := hide (HNX.out wo HBE.out b hbl')
      have hnl2 := HN2.out b
      have HSTK := hide (fun (j z : Nat) (h : (nxt f b)[j]? = some (z : Int)) => HST.out k j z _ HY.out (by simpa using h))
      have HRWK := hide (fun (j : Nat) (h : (nxt f b).length ≤ j) => HRW.out k j _ HY.out (by simpa using h))
      have HNRB := hide (HNR.out b)
      obtain ⟨nx, hnx⟩ : ∃ nx, nxt f b = nx := ⟨_, rfl⟩
      rw [hnx] at HNK hnl2 HSTK HRWK HNRB
      obtain ⟨nl, hnl⟩ : ∃ nl, nx.length = nl := ⟨_, rfl⟩
      rw [hnl] at HNK hnl2 HRWK
      have HNL := hide hnl
      have c0 := (HXO.out.cell 0 (v := .slice Ak lk ck) rfl).1
      have c1 := (HXO.out.cell 1 (v := .slice Ab lb cb) rfl).1
      have c2 := (HXO.out.cell 2 (v := .int .i64 fp) rfl).1
      have c3 := (HXO.out.cell 3 (v := .int .i64 fr) rfl).1
      have c4 := (HXO.out.cell 4 (v := .slice As ls cs) rfl).1
      have HCO := HC
      obtain ⟨b0, hb0⟩ : ∃ b0, wo.heap.size = b0 := ⟨_, rfl⟩
      have HB0 := hide hb0
      clear hcc hy hnx hnl hb0 m0 m1 llo lro
      go_wp2_with (go_at_call 50; refine HNK.out.mono ?_; rintro e w3 ⟨A3, c3', rfl, hs3, hl3, hm3, hn3, hb3⟩; have hz3 := hb3.size; have HS3 := hide hs3; have HN3 := hide (show ∀ b o, A3 = some ⟨b, o, none⟩ → b0 ≤ b from fun b o e => (by have := hn3 b o e; have := HB0.out; omega)); have HC3 := hide (HCO.out.below hb3); have HU3 := hide (CmU.start HCO.out HB0.out.symm hz3 : CmU b0 w3 gp vs w3); have HL3 := hide (HLO.out.below hb3); clear hb3 hs3 hn3)
      clear c0 c1 c2 c3 c4 d1
      have HC3' := hide (show CmV w2 gp ls w2.heap.size (rprevTo f rs k 0) vs w3 from HC3.out)
      go_loopw [26] (fun i wr => ∃ (j : Nat) (vs : List Value), j ≤ nl ∧ i = .int .i64 j ∧ Hid (CmV w2 gp ls w2.heap.size (rprevTo f rs k j) vs wr) ∧ Hid (CmU b0 w3 gp vs wr)) (fun i _ => nl - (intOf i).toNat)
      case atStart => exact ⟨0, vs, Nat.zero_le _, rfl, HC3', HU3⟩
      case round =>
        obtain ⟨j, us, hj, rfl, hin, hun⟩ := hrel
        obtain ⟨wq, rfl⟩ : ∃ wq, wq = wr := ⟨_, rfl⟩
        have HC := hide hin.out
        have HU := hide hun.out
        have HBT4 := hide hin.out.2.2.2.2.1
        have hszq := HBT4.out.size
        have HLQ := hide (HBT4.out.box HL2.out hlg)
        clear hin hun
        by_cases hlj : j < nl
        case neg =>
          have HNXT := hide (show CmV w2 gp ls w2.heap.size (rprevTo f rs (k + 1) 0) us wq by rw [← HRWK.out j (by omega)]; exact HC.out)
          go_wp2
          go_roundw
          case rel => exact ⟨k + 1, us, by omega, by go_num, HNXT⟩
          case measure => simp [intOf]; omega
        obtain ⟨z, hz⟩ : ∃ z, nx[j]? = some z := ⟨_, List.getElem?_eq_getElem (by have := HNL.out; omega)⟩
        have hzr := HNRB.out z (List.mem_of_getElem? hz)
        obtain ⟨yb, rfl⟩ : ∃ n : Nat, z = n := ⟨z.toNat, by omega⟩
        have hybl : yb < ls := by omega
        obtain ⟨b3, o3, rfl, hb3, hc3⟩ := (HU.out.sl HS3.out (Nat.le_refl _) HN3.out) (by have := HNL.out; omega)
        have cj := hc3 j (by have := HNL.out; omega)
        rw [show nx.getD j 0 = (yb : Int) by simp [List.getD, hz]] at cj
        have hb3s : b3 < wq.heap.size := by have := HU.out.2.1; omega
        have HST1 := hide (HSTK.out j yb hz)
        obtain ⟨v, hv⟩ : ∃ v, us[yb]? = some v := ⟨_, List.getElem?_eq_getElem (by rw [HC.out.1]; exact hybl)⟩
        have HV := hide hv
        have HFAR := hide (HC.out.far hv)
        have HOW := hide (HC.out.2.2.1 yb v hv)
        have hlen : (rprevTo f rs k j yb).length < 1000000 := by have := HPL.out k j yb; omega
        have HLN := hide hlen
        obtain ⟨zs, hzs⟩ : ∃ zs, rprevTo f rs k j yb = zs := ⟨_, rfl⟩
        rw [hzs] at HOW HLN HST1
        have HZS := hide hzs
        obtain ⟨Av, cv, rfl, hcv, hmv, hsv⟩ := HOW.out.sl
        have hyi : (0 : Int) ≤ (yb : Int) := by omega
        have hyj : (yb : Int) < (ls : Int) := by omega
        have HPQ := hide HC.out.2.1
        have hgl := HPQ.out.lt
        have llq := HLQ.out.lt
        have x1 := (HLQ.out.cell 1 (v := .slice (some ⟨gp, 0, none⟩) ls ls) rfl).1
        obtain ⟨pc, pf⟩ := HPQ.out.cell yb (by simpa using HV.out)
        have hlown : ∀ g, (Value.slice Av zs.length cv).ownBlock = some g → g ≠ hl := fun g hg e => by
          obtain ⟨-, -, c, hc⟩ := HOW.out.row' g hg
          have h1 : wq.heap[hl]? = some (.cells #[.slice Ae ne ce, .slice (some ⟨gp, 0, none⟩) ls ls] 58 (0, 0)) := HLQ.out
          rw [← e, hc] at h1
          injection h1 with h1
          injection h1 with _ h1
          exact absurd h1 (by decide)
        have HLW := hide hlown
        clear hc3 hz hv hlen hzs hlown
        go_upto_region 8 with (fail)
        go_region_law
          (first
            | (refine step_append_int ((wq.drewN 1).alloc (.cells #[.int .i64 (b : Int)] 3)) (by rfl) _ _ _ (by rfl) w2.heap.size i0 _ Try.underlying27 HI.out iz0 iz1 iz2 rfl (.slice Av zs.length cv) zs (by rfl) ((HOW.out.drewN 1).alloc _) (b : Int) wq.heap.size (Box.new (wq.drewN 1) _ _) (by rfl) HLN.out (by simp only [World.size_alloc]; exact Nat.le_succ_of_le hszq) ?_; intro g5 cap5 w5 ho5 hg5 hv5 hl5; have hne := HFAR.out; have z7 := (hg5.cell_far ⟨gp, yb, none⟩ (by simp only [World.size_alloc]; exact Nat.lt_succ_of_lt hgl) (Ne.symm hne)).trans ((World.cell?_alloc_lt (wq.drewN 1) _ ⟨gp, yb, none⟩ hgl).trans pc); have z7f := (hg5.frozen_far ⟨gp, yb, none⟩ (by simp only [World.size_alloc]; exact Nat.lt_succ_of_lt hgl) (Ne.symm hne)).trans ((World.frozen?_of_block (a := ⟨gp, yb, none⟩) (w := wq.drewN 1) (Below.heap_alloc (wq.drewN 1) _ gp hgl)).trans pf); have z8 := (hg5.cell_far ⟨hl, 1, none⟩ (by simp only [World.size_alloc]; exact Nat.lt_succ_of_lt llq) (fun e => HLW.out hl e.symm rfl)).trans ((World.cell?_alloc_lt (wq.drewN 1) _ ⟨hl, 1, none⟩ llq).trans x1)))
        all_goals
          have HB4 := hide (show Below wq.heap.size wq ((wq.drewN 1).alloc (.cells #[.int .i64 (b : Int)] 3)) from (below_drewN (Below.refl _ _) 1).alloc (Nat.le_refl _) _)
          have HV5 := hide (show (Value.slice (some ⟨g5, 0, none⟩) (zs.length + 1) cap5).ownBlock = (Value.slice Av zs.length cv).ownBlock ∨ ∃ g, (Value.slice (some ⟨g5, 0, none⟩) (zs.length + 1) cap5).ownBlock = some g ∧ wq.heap.size ≤ g by
            rcases hv5 with h | h
            · exact .inl (by rw [h]; rfl)
            · refine .inr ⟨g5, rfl, ?_⟩
              rw [h, World.size_alloc]
              exact Nat.le_succ _)
          have HN5 := hide (HC.out.step HV.out HB4.out hg5 (by rw [HZS.out]; exact ho5) HV5.out)
          have HU5 := hide (show CmU b0 w3 gp (us.set yb (.slice (some ⟨g5, 0, none⟩) (zs.length + 1) cap5)) (w5.setCell ⟨gp, yb, none⟩ (.slice (some ⟨g5, 0, none⟩) (zs.length + 1) cap5)) from CmU.step (v := .slice Av zs.length cv) (v5 := .slice (some ⟨g5, 0, none⟩) (zs.length + 1) cap5) (ya := 0) HU.out HC.out HV.out HB4.out hg5 HV5.out)
          rw [HZS.out] at HN5
          rw [← HST1.out] at HN5
          go_wp2
          go_roundw
          case rel => exact ⟨j + 1, _, by omega, by go_num, HN5, HU5⟩
          case measure => simp [intOf]; omega
end Go.Proofs.Ytlolgahaphmfoaa
