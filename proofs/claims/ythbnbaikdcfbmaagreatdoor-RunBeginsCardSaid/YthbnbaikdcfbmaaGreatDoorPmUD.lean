/- Layer 10: a run in memory: its functions under way, their variables, the heap, what was told. No condition. -/
import Derived.Test.YthbnbaikdcfbmaaGreatDoorPmHI
set_option linter.unusedSimpArgs false
set_option linter.unusedVariables false
namespace Go.Proofs.YthbnbaikdcfbmaaGreatDoor
open Go.RowKit
section
variable {β : Type} {c : β -> List Value} {T : TypeId} {sz : Nat} {w w' : World} {base : Nat} {v : Value} {l : List β}
theorem jb3 (hc : ∀ y, (c y).length = sz) : ∀ l : List β, (l.flatMap c).length = l.length * sz
 | [] => by simp
 | x :: l => by rw [List.flatMap_cons, List.length_append, hc, jb3 hc l, List.length_cons, Nat.succ_mul]; omega
theorem jl9 (hc : ∀ y, (c y).length = sz) {p q : β} {j : Nat} {u : Value} (hq : (c p).set j u = c q) (hj : j < sz) : ∀ {l : List β} {k : Nat}, l[k]? = some p -> (l.flatMap c).set (k * sz + j) u = (l.set k q).flatMap c
 | [], k, h => by simp at h
 | x :: l, 0, h => by
  simp at h
  subst h
  rw [List.flatMap_cons, List.set_cons_zero, List.flatMap_cons, Nat.zero_mul, Nat.zero_add, List.set_append_left _ _ (by rw [hc]; exact hj), hq]
 | x :: l, k + 1, h => by
  rw [List.flatMap_cons, List.set_cons_succ, List.flatMap_cons, <- jl9 hc hq hj (l := l) (k := k) (by simpa using h), List.set_append_right _ _ (by rw [hc, Nat.succ_mul]; omega), hc, show (k + 1) * sz + j - sz = k * sz + j by rw [Nat.succ_mul]; omega]
theorem OwC.formG (hc : ∀ y, (c y).length = sz) (h : OwC c T sz w base v l) (h0 : 0 < l.length) :
  ∃ g cap, v = .slice (some ⟨g, 0, none⟩) l.length cap /\ base <= g /\ g < w.heap.size /\ l.length <= cap /\ cap <= maxLen /\ (∀ (k : Nat) (p : β), l[k]? = some p -> ∀ (j : Nat) (u : Value), j < sz -> (c p)[j]? = some u -> w.cell? ⟨g, k * sz + j, none⟩ = some u /\ w.frozen? ⟨g, k * sz + j, none⟩ = false) := by
 have h' := h
 rcases h.2 with ⟨rfl, hz⟩ | ⟨g, cap, cur, rfl, hg, hh, hnc, hcm, hsz, htake⟩
 ·omega
 ·refine ⟨g, cap, rfl, hg, (Array.getElem?_eq_some_iff.1 hh).1, hnc, hcm, fun k p hp j u hj hu => ⟨?_, ?_⟩⟩
  ·have hk := (List.getElem?_eq_some_iff.1 hp).1
   have hlt : k * sz + j < l.length * sz := by
    have : (k + 1) * sz <= l.length * sz := Nat.mul_le_mul_right _ (by omega)
    rw [Nat.succ_mul] at this
    omega
   rw [World.ownsRow.cellAt h' _ hlt, jml l k j p (fun y _ => hc y) hp hj]
   exact hu
  ·simp [World.frozen?, hh]
theorem OwC.setAt (hc : ∀ y, (c y).length = sz) {g n cap k j : Nat} {p q : β} {u : Value} (h : OwC c T sz w base (.slice (some ⟨g, 0, none⟩) n cap) l) (hp : l[k]? = some p) (hq : (c p).set j u = c q) (hj : j < sz) :
  OwC c T sz (w.setCell ⟨g, k * sz + j, none⟩ u) base (.slice (some ⟨g, 0, none⟩) n cap) (l.set k q) := by
 unfold OwC at *
 rcases h.2 with ⟨h0, -⟩ | ⟨g', cap', cur, hv, hg, hh, hnc, hcm, hsz, htake⟩
 ·cases h0
 ·injection hv with h1 h2 h3
  injection h1 with h1
  injection h1 with h1
  subst h1; subst h2; subst h3
  rw [List.length_set]
  refine ⟨by rw [jb3 hc, List.length_set], .inr ⟨_, _, cur.setIfInBounds (k * sz + j) u, rfl, hg, heap_setCell_same _ _ _ _ _ _ hh, hnc, hcm, by simpa using hsz, ?_⟩⟩
  rw [Array.toList_setIfInBounds, List.take_set, htake, jl9 hc hq hj hp]
theorem OwC.popG (hc : ∀ y, (c y).length = sz) {g n cap : Nat} {p : β} (h : OwC c T sz w base (.slice (some ⟨g, 0, none⟩) n cap) (l ++ [p])) : OwC c T sz w base (.slice (some ⟨g, 0, none⟩) l.length cap) l := by
 have hl : (l ++ [p]).length = l.length + 1 := by simp
 unfold OwC at *
 rw [hl] at h
 rcases h.2 with ⟨h0, -⟩ | ⟨g', cap', cur, hv, hg, hh, hnc, hcm, hsz, htake⟩
 ·cases h0
 ·injection hv with h1 h2 h3
  injection h1 with h1
  injection h1 with h1
  subst h1; subst h2; subst h3
  refine ⟨jb3 hc l, .inr ⟨_, _, cur, rfl, hg, hh, by omega, hcm, hsz, ?_⟩⟩
  have e : cur.toList.take (l.length * sz) = (cur.toList.take ((l.length + 1) * sz)).take (l.length * sz) := by rw [List.take_take, Nat.min_eq_left (by rw [Nat.succ_mul]; omega)]
  rw [e, htake, List.flatMap_append, List.take_append_of_le_length (by rw [jb3 hc]; exact Nat.le_refl _), List.take_of_length_le (by rw [jb3 hc]; exact Nat.le_refl _)]
theorem OwC.row0 (h : OwC c T sz w base v l) : ∀ g, v.ownBlock = some g -> ∃ cs, w.heap[g]? = some (.cells cs T (0, 0)) := fun g hg => by
 rcases h.2 with ⟨rfl, -⟩ | ⟨g', cap, cur, rfl, -, hh, -⟩
 ·cases hg
 ·simp [Value.ownBlock] at hg
  subst hg
  exact ⟨cur, hh⟩
end
def valC (v : ValV) : List Value := [.int .i64 v.n, .int .i64 v.o, .int .i64 v.a]
theorem jbh (v : ValV) : (valC v).length = 3 := rfl
structure ActW where
 vk : Value
 vb : Value
 pa : Int
 re : Int
 vs : Value
 vv : Value
def actC (p : FrV × ActW) : List Value := [p.2.vk, p.2.vb, .int .i64 p.2.pa, .int .i64 p.2.re, p.2.vs, .int .i64 (p.1.bl : Int), .int .i64 (p.1.pl : Int), p.2.vv, .int .i64 p.1.want]
theorem jji (p : FrV × ActW) : (actC p).length = 9 := rfl
abbrev OwA (w : World) (base : Nat) (v : Value) (L : List (FrV × ActW)) : Prop := OwC actC 127 9 w base v L
abbrev OwL (w : World) (base : Nat) (v : Value) (l : List ValV) : Prop := OwC valC 87 3 w base v l
structure ActOk (w : World) (base : Nat) (P : List FunV) (p : FrV × ActW) : Prop where
 fn : ∃ F, P[p.1.fn]? = some F /\ FunI w (· < base) p.2.vk p.2.vb p.2.vs F /\ p.2.pa = F.params /\ p.2.re = F.result
 vars : OwL w base p.2.vv p.1.vars
def MutR (hc : Nat) (va ve : Value) (L : List (FrV × ActW)) (b : Nat) : Prop := b = hc \/ va.ownBlock = some b \/ ve.ownBlock = some b \/ ∃ p ∈ L, p.2.vv.ownBlock = some b
structure RunP (w : World) (base hc : Nat) (vp : Value) (P : List FunV) (s : StV) (va vh ve : Value) (L : List (FrV × ActW)) (S : Nat -> Prop) : Prop where
 box : Box w hc #[vp, va, vh, ve, .int .i64 (s.en : Int), .int .i64 s.val, .int .i64 (s.code : Int), .int .i64 (s.steps : Int)] 67
 stk : s.stk = L.map Prod.fst
 acts : OwA w base va L
 all : ∀ p ∈ L, ActOk w base P p
 dis : L.Pairwise (fun p q => ∀ g, p.2.vv.ownBlock = some g -> q.2.vv.ownBlock ≠ some g)
 objs : ObjsV w S vh s.heap
 sin : ∀ b, S b -> b < w.heap.size /\ ¬ MutR hc va ve L b
 evs : Ow w base 3 .i64 ve s.ev
 hb : base <= hc
section
variable {w w' w1 : World} {base hc g n cap : Nat} {vp va vh ve : Value} {P : List FunV} {s : StV} {L : List (FrV × ActW)} {f : FrV} {a : ActW} {S : Nat -> Prop}
structure RunNe (hc : Nat) (va ve : Value) (L : List (FrV × ActW)) : Prop where
 a : va.ownBlock ≠ some hc
 e : ve.ownBlock ≠ some hc
 v : ∀ p ∈ L, p.2.vv.ownBlock ≠ some hc
 ae : ∀ g, va.ownBlock = some g -> ve.ownBlock ≠ some g
 av : ∀ p ∈ L, ∀ g, va.ownBlock = some g -> p.2.vv.ownBlock ≠ some g
 ev : ∀ p ∈ L, ∀ g, ve.ownBlock = some g -> p.2.vv.ownBlock ≠ some g
theorem RunP.ne (h : RunP w base hc vp P s va vh ve L S) : RunNe hc va ve L := by
 refine ⟨fun e => ?_, fun e => ?_, fun p hp e => ?_, fun g e1 e2 => ?_, fun p hp g e1 e2 => ?_, fun p hp g e1 e2 => ?_⟩
 ·obtain ⟨c, hc⟩ := h.acts.row0 _ e; exact h.box.apart hc (by decide) rfl
 ·obtain ⟨-, -, c, hc⟩ := h.evs.row' _ e; exact h.box.apart hc (by decide) rfl
 ·obtain ⟨c, hc⟩ := (h.all p hp).vars.row0 _ e; exact h.box.apart hc (by decide) rfl
 ·obtain ⟨c, hc⟩ := h.acts.row0 _ e1
  obtain ⟨-, -, d, hd⟩ := h.evs.row' _ e2
  exact Box.apart (cs := c) hc hd (by decide) rfl
 ·obtain ⟨c, hc⟩ := h.acts.row0 _ e1
  obtain ⟨d, hd⟩ := (h.all p hp).vars.row0 _ e2
  exact Box.apart (cs := c) hc hd (by decide) rfl
 ·obtain ⟨-, -, c, hc⟩ := h.evs.row' _ e1
  obtain ⟨d, hd⟩ := (h.all p hp).vars.row0 _ e2
  exact Box.apart (cs := c) hc hd (by decide) rfl
theorem RunP.moveO (h : RunP w base hc vp P s va vh ve L S) (k : ∀ b o, (b < w.heap.size /\ ¬ MutR hc va ve L b) -> w'.cell? ⟨b, o, none⟩ = w.cell? ⟨b, o, none⟩) : ObjsV w' S vh s.heap := h.objs.keep (fun b o hs => k b o (h.sin b hs)) (fun _ h => h)
theorem RunP.moveS {Q : Nat -> Prop} (h : RunP w base hc vp P s va vh ve L S) (k : ∀ b, (b < w.heap.size /\ ¬ MutR hc va ve L b) -> Q b) : ∀ b, S b -> Q b := fun b hs => k b (h.sin b hs)
theorem ja8 {w w' : World} {b : Nat} (h : w'.heap[b]? = w.heap[b]?) (o : Nat) : w'.cell? ⟨b, o, none⟩ = w.cell? ⟨b, o, none⟩ := World.cell?_of_block (a := ⟨b, o, none⟩) h
theorem FunI.blk {w w' : World} {base : Nat} {vk vb vs : Value} {F : FunV} (h : FunI w (· < base) vk vb vs F) (hk : ∀ b, b < base -> w'.heap[b]? = w.heap[b]?) : FunI w' (· < base) vk vb vs F := h.keep (fun b o hb => ja8 (hk b hb) o) (fun _ h => h)
theorem RunP.below (h : RunP w base hc vp P s va vh ve L S) (hb : Below w.heap.size w w') : RunP w' base hc vp P s va vh ve L S where
 box := h.box.below hb
 stk := h.stk
 acts := h.acts.below hb
 all := fun p hp => by
  have ha := h.all p hp
  obtain ⟨F, h1, h2, h3, h4⟩ := ha.fn
  have hlt := h.box.lt
  have hbb := h.hb
  exact ⟨⟨F, h1, h2.blk (fun b hb' => hb.block b (by omega)), h3, h4⟩, ha.vars.below hb⟩
 dis := h.dis
 objs := h.moveO (fun b o hb' => hb.cell (p := ⟨b, o, none⟩) hb'.1)
 sin := h.moveS (fun b hb' => ⟨Nat.lt_of_lt_of_le hb'.1 hb.size, hb'.2⟩)
 evs := h.evs.kept' fun g hg => hb.block g (h.evs.row' g hg).2.1
 hb := h.hb
theorem RunP.head (h : RunP w base hc vp P s va vh ve L S) (j : Nat) (u : Value) (s' : StV) (hs : s'.stk = s.stk) (hh : s'.heap = s.heap) (he : s'.ev = s.ev)
  (hcs : (#[vp, va, vh, ve, .int .i64 (s.en : Int), .int .i64 s.val, .int .i64 (s.code : Int), .int .i64 (s.steps : Int)] : Array Value).setIfInBounds j u = #[vp, va, vh, ve, .int .i64 (s'.en : Int), .int .i64 s'.val, .int .i64 (s'.code : Int), .int .i64 (s'.steps : Int)]) :
  RunP (w.setCell ⟨hc, j, none⟩ u) base hc vp P s' va vh ve L S := by
 have hn := h.ne
 have kS : ∀ b, b ≠ hc -> (w.setCell ⟨hc, j, none⟩ u).heap[b]? = w.heap[b]? := fun b hb => heap_setCell_other _ _ _ _ hb
 refine ⟨by rw [<- hcs]; exact h.box.set j u, by rw [hs]; exact h.stk, h.acts.kept fun g hg => kS g (fun e => hn.a (by rw [hg, e])), fun p hp => ?_, h.dis, ?_, ?_, by rw [he]; exact h.evs.kept' fun g hg => kS g (fun e => hn.e (by rw [hg, e])), h.hb⟩
 ·have ha := h.all p hp
  obtain ⟨F, h1, h2, h3, h4⟩ := ha.fn
  have hbb := h.hb
  exact ⟨⟨F, h1, h2.blk (fun b hb' => kS b (by omega)), h3, h4⟩, ha.vars.kept fun g hg => kS g (fun e => hn.v p hp (by rw [hg, e]))⟩
 ·rw [hh]
  exact h.moveO (fun b o hb' => ja8 (kS b (fun e => hb'.2 (.inl e))) o)
 ·exact h.moveS (fun b hb' => ⟨by rw [World.size_setCell]; exact hb'.1, hb'.2⟩)
theorem RunP.top (h : RunP w base hc vp P s (.slice (some ⟨g, 0, none⟩) n cap) vh ve (L ++ [(f, a)]) S) (j : Nat) (u : Value) (f' : FrV) (hj : j < 9) (hq : (actC (f, a)).set j u = actC (f', a)) (hfn : f'.fn = f.fn) (hvs : f'.vars = f.vars) :
  RunP (w.setCell ⟨g, L.length * 9 + j, none⟩ u) base hc vp P { s with stk := L.map Prod.fst ++ [f'] } (.slice (some ⟨g, 0, none⟩) n cap) vh ve (L ++ [(f', a)]) S := by
 have hn := h.ne
 have hg : ∀ b, b ≠ g -> (w.setCell ⟨g, L.length * 9 + j, none⟩ u).heap[b]? = w.heap[b]? := fun b hb => heap_setCell_other _ _ _ _ hb
 have hgo : (Value.slice (some ⟨g, 0, none⟩) n cap).ownBlock = some g := rfl
 have hgb := (h.acts.lt g hgo).1
 have hmem : ∀ p ∈ L ++ [(f', a)], ∃ q ∈ L ++ [(f, a)], q.2 = p.2 /\ q.1.fn = p.1.fn /\ q.1.vars = p.1.vars := fun p hp => by
  rcases List.mem_append.1 hp with hp | hp
  ·exact ⟨p, List.mem_append_left _ hp, rfl, rfl, rfl⟩
  ·rw [List.mem_singleton] at hp
   subst hp
   exact ⟨(f, a), by simp, rfl, hfn.symm, hvs.symm⟩
 have hmut : ∀ b, MutR hc (.slice (some ⟨g, 0, none⟩) n cap) ve (L ++ [(f', a)]) b -> MutR hc (.slice (some ⟨g, 0, none⟩) n cap) ve (L ++ [(f, a)]) b := fun b hm => by
  rcases hm with hm | hm | hm | ⟨p, hp, hm⟩
  ·exact .inl hm
  ·exact .inr (.inl hm)
  ·exact .inr (.inr (.inl hm))
  ·obtain ⟨q, hq, e, -⟩ := hmem p hp
   exact .inr (.inr (.inr ⟨q, hq, by rw [e]; exact hm⟩))
 refine ⟨(hg hc (fun e => hn.a (by rw [hgo, e]))).trans h.box, by simp, ?_, fun p hp => ?_, ?_, ?_, ?_, h.evs.kept' fun b hb => hg b (fun e => hn.ae g hgo (by rw [<- e]; exact hb)), h.hb⟩
 ·have := OwC.setAt jji h.acts (k := L.length) (p := (f, a)) (q := (f', a)) (by simp) hq hj
  simpa using this
 ·obtain ⟨q, hq, e1, e2, e3⟩ := hmem p hp
  have ha := h.all q hq
  obtain ⟨F, h1, h2, h3, h4⟩ := ha.fn
  exact ⟨⟨F, by rw [<- e2]; exact h1, by rw [<- e1]; exact h2.blk (fun b hb' => hg b (by omega)), by rw [<- e1]; exact h3, by rw [<- e1]; exact h4⟩, by rw [<- e1, <- e3]; exact ha.vars.kept fun b hb => hg b (fun e => hn.av q hq g hgo (by rw [<- e]; exact hb))⟩
 ·have hd := h.dis
  rw [List.pairwise_append] at hd ⊢
  refine ⟨hd.1, by simp, fun p hp q hq => ?_⟩
  rw [List.mem_singleton] at hq
  subst hq
  exact hd.2.2 p hp (f, a) (by simp)
 ·exact h.moveO (fun b o hb' => ja8 (hg b (fun e => hb'.2 (.inr (.inl (by rw [hgo, e]))))) o)
 ·exact h.moveS (fun b hb' => ⟨by rw [World.size_setCell]; exact hb'.1, fun hm => hb'.2 (hmut b hm)⟩)
theorem RunP.cellV (h : RunP w base hc vp P s va vh ve (L ++ [(f, a)]) S) {gv' nv cv i j : Nat} {u : Value} {x y : ValV} (hv : a.vv = .slice (some ⟨gv', 0, none⟩) nv cv) (hx : f.vars[i]? = some x) (hj : j < 3) (hq : (valC x).set j u = valC y) :
  RunP (w.setCell ⟨gv', i * 3 + j, none⟩ u) base hc vp P { s with stk := L.map Prod.fst ++ [{ f with vars := f.vars.set i y }] } va vh ve (L ++ [({ f with vars := f.vars.set i y }, a)]) S := by
 have hn := h.ne
 have hmt : (f, a) ∈ L ++ [(f, a)] := by simp
 have hgo : a.vv.ownBlock = some gv' := by rw [hv]; rfl
 have hg : ∀ b, b ≠ gv' -> (w.setCell ⟨gv', i * 3 + j, none⟩ u).heap[b]? = w.heap[b]? := fun b hb => heap_setCell_other _ _ _ _ hb
 have hgb := ((h.all _ hmt).vars.lt gv' hgo).1
 have hd := h.dis
 rw [List.pairwise_append] at hd
 have hdt : ∀ p ∈ L, p.2.vv.ownBlock ≠ some gv' := fun p hp e => hd.2.2 p hp (f, a) (by simp) gv' e hgo
 have hmut : ∀ b, MutR hc va ve (L ++ [({ f with vars := f.vars.set i y }, a)]) b -> MutR hc va ve (L ++ [(f, a)]) b := fun b hm => by
  rcases hm with hm | hm | hm | ⟨p, hp, hm⟩
  ·exact .inl hm
  ·exact .inr (.inl hm)
  ·exact .inr (.inr (.inl hm))
  ·rcases List.mem_append.1 hp with hp | hp
   ·exact .inr (.inr (.inr ⟨p, List.mem_append_left _ hp, hm⟩))
   ·rw [List.mem_singleton] at hp
    subst hp
    exact .inr (.inr (.inr ⟨(f, a), hmt, hm⟩))
 refine ⟨(hg hc (fun e => hn.v _ hmt (by rw [hgo, e]))).trans h.box, by simp, ?_, fun p hp => ?_, ?_, ?_, ?_, h.evs.kept' fun b hb => hg b (fun e => hn.ev _ hmt gv' (by rw [<- e]; exact hb) hgo), h.hb⟩
 ·have hk : OwA (w.setCell ⟨gv', i * 3 + j, none⟩ u) base va (L ++ [(f, a)]) := h.acts.kept fun b hb => hg b (fun e => hn.av _ hmt gv' (by rw [<- e]; exact hb) hgo)
  unfold OwA OwC at *
  simpa [List.flatMap_append, actC] using hk
 ·rcases List.mem_append.1 hp with hp | hp
  ·have ha := h.all p (List.mem_append_left _ hp)
   obtain ⟨F, h1, h2, h3, h4⟩ := ha.fn
   exact ⟨⟨F, h1, h2.blk (fun b hb' => hg b (by omega)), h3, h4⟩, ha.vars.kept fun b hb => hg b (fun e => hdt p hp (by rw [<- e]; exact hb))⟩
  ·rw [List.mem_singleton] at hp
   subst hp
   have ha := h.all _ hmt
   obtain ⟨F, h1, h2, h3, h4⟩ := ha.fn
   refine ⟨⟨F, h1, h2.blk (fun b hb' => hg b (by omega)), h3, h4⟩, ?_⟩
   have hvs := ha.vars
   show OwL _ base a.vv (f.vars.set i y)
   have hvs' : OwL w base a.vv f.vars := hvs
   rw [hv] at hvs' ⊢
   exact OwC.setAt jbh hvs' hx hq hj
 ·rw [List.pairwise_append]
  refine ⟨hd.1, by simp, fun p hp q hq => ?_⟩
  rw [List.mem_singleton] at hq
  subst hq
  exact hd.2.2 p hp (f, a) (by simp)
 ·exact h.moveO (fun b o hb' => ja8 (hg b (fun e => hb'.2 (.inr (.inr (.inr ⟨(f, a), hmt, by rw [hgo, e]⟩))))) o)
 ·exact h.moveS (fun b hb' => ⟨by rw [World.size_setCell]; exact hb'.1, fun hm => hb'.2 (hmut b hm)⟩)
theorem RunP.push {w4 w5 : World} {va' : Value} (h : RunP w base hc vp P s va vh ve L S) (hb4 : Below w.heap.size w w4) (hg : w4.grownBy w5 va.ownBlock) (ho : OwA w5 base va' (L ++ [(f, a)])) (hva : va'.ownBlock = va.ownBlock \/ ∃ g, va'.ownBlock = some g /\ w.heap.size <= g)
  (ha : ActOk w5 base P (f, a)) (hf : ∀ g, a.vv.ownBlock = some g -> w.heap.size <= g) : RunP (w5.setCell ⟨hc, 1, none⟩ va') base hc vp P { s with stk := L.map Prod.fst ++ [f] } va' vh ve (L ++ [(f, a)]) S := by
 have hn := h.ne
 have hwl := h.box.lt
 have hbb := h.hb
 have k5 : ∀ b, b < w.heap.size -> va.ownBlock ≠ some b -> w5.heap[b]? = w.heap[b]? := fun b hb hn => (hg.block b (by have := hb4.size; omega) (fun e => hn e.symm)).trans (hb4.block b hb)
 have hv6 : ∀ b, b < w.heap.size -> va'.ownBlock = some b -> va.ownBlock = some b := fun b hb e => by
  rcases hva with h5 | ⟨g, h5, h6⟩
  ·rw [<- h5]; exact e
  ·rw [h5] at e; injection e with e; omega
 have kS : ∀ b, b < w.heap.size -> b ≠ hc -> va.ownBlock ≠ some b -> (w5.setCell ⟨hc, 1, none⟩ va').heap[b]? = w.heap[b]? := fun b hb h1 h2 => (heap_setCell_other _ _ _ _ h1).trans (k5 b hb h2)
 have hsz : w.heap.size <= (w5.setCell ⟨hc, 1, none⟩ va').heap.size := by rw [World.size_setCell]; have := hb4.size; have := hg.size; omega
 have hak : ∀ g, va.ownBlock = some g -> base <= g := fun g hg => (h.acts.lt g hg).1
 have hvn : ∀ g, va'.ownBlock = some g -> a.vv.ownBlock ≠ some g := fun g e1 e2 => by
  obtain ⟨c1, h1⟩ := ho.row0 _ e1
  obtain ⟨c2, h2⟩ := ha.vars.row0 _ e2
  exact Box.apart (cs := c1) h1 h2 (by decide) rfl
 refine ⟨?_, by simp, ho.kept fun g hgv => heap_setCell_other _ _ _ _ (fun e => ?_), fun p hp => ?_, ?_, ?_, ?_, h.evs.kept' fun g hgv => kS g (h.evs.row' g hgv).2.1 (fun e => hn.e (by rw [hgv, e])) (fun e => hn.ae g e hgv), h.hb⟩
 ·have hb5 : Box w5 hc _ _ := (k5 hc hwl hn.a).trans h.box
  have := hb5.set 1 va'
  simpa using this
 ·subst e
  exact hn.a (hv6 _ hwl hgv)
 ·rcases List.mem_append.1 hp with hp | hp
  ·have hq := h.all p hp
   obtain ⟨F, h1, h2, h3, h4⟩ := hq.fn
   exact ⟨⟨F, h1, h2.blk (fun b hb' => kS b (by omega) (by omega) (fun e => by have := hak b e; omega)), h3, h4⟩, hq.vars.kept fun g hgv => kS g (hq.vars.lt g hgv).2 (fun e => hn.v p hp (by rw [hgv, e])) (fun e => hn.av p hp g e hgv)⟩
  ·rw [List.mem_singleton] at hp
   subst hp
   obtain ⟨F, h1, h2, h3, h4⟩ := ha.fn
   exact ⟨⟨F, h1, h2.blk (fun b hb' => heap_setCell_other _ _ _ _ (show b ≠ hc by omega)), h3, h4⟩, ha.vars.kept fun g hgv => heap_setCell_other _ _ _ _ (show g ≠ hc by have := hf g hgv; omega)⟩
 ·rw [List.pairwise_append]
  refine ⟨h.dis, by simp, fun p hp q hq g e1 e2 => ?_⟩
  rw [List.mem_singleton] at hq
  subst hq
  have := hf g e2
  have := ((h.all p hp).vars.lt g e1).2
  omega
 ·exact h.moveO (fun b o hb' => ja8 (kS b hb'.1 (fun e => hb'.2 (.inl e)) (fun e => hb'.2 (.inr (.inl e)))) o)
 ·refine h.moveS (fun b hb' => ⟨Nat.lt_of_lt_of_le hb'.1 hsz, fun hm => ?_⟩)
  rcases hm with hm | hm | hm | ⟨p, hp, hm⟩
  ·exact hb'.2 (.inl hm)
  ·exact hb'.2 (.inr (.inl (hv6 b hb'.1 hm)))
  ·exact hb'.2 (.inr (.inr (.inl hm)))
  ·rcases List.mem_append.1 hp with hp | hp
   ·exact hb'.2 (.inr (.inr (.inr ⟨p, hp, hm⟩)))
   ·rw [List.mem_singleton] at hp
    subst hp
    have := hf b hm
    have := hb'.1
    omega
theorem RunP.pop (h : RunP w base hc vp P s (.slice (some ⟨g, 0, none⟩) n cap) vh ve (L ++ [(f, a)]) S) :
  RunP (w.setCell ⟨hc, 1, none⟩ (.slice (some ⟨g, 0, none⟩) L.length cap)) base hc vp P { s with stk := L.map Prod.fst } (.slice (some ⟨g, 0, none⟩) L.length cap) vh ve L S := by
 have hn := h.ne
 have kS : ∀ b, b ≠ hc -> (w.setCell ⟨hc, 1, none⟩ (.slice (some ⟨g, 0, none⟩) L.length cap)).heap[b]? = w.heap[b]? := fun b h1 => heap_setCell_other _ _ _ _ h1
 have hbb := h.hb
 refine ⟨by have := h.box.set 1 (.slice (some ⟨g, 0, none⟩) L.length cap); simpa using this, rfl, (OwC.popG jji h.acts).kept fun b hb => kS b (fun e => hn.a (by rw [<- e]; exact hb)), fun p hp => ?_, (List.pairwise_append.1 h.dis).1, ?_, ?_, h.evs.kept' fun b hb => kS b (fun e => hn.e (by rw [hb, e])), h.hb⟩
 ·have hq := h.all p (List.mem_append_left _ hp)
  obtain ⟨F, h1, h2, h3, h4⟩ := hq.fn
  exact ⟨⟨F, h1, h2.blk (fun b hb' => kS b (by omega)), h3, h4⟩, hq.vars.kept fun b hb => kS b (fun e => hn.v p (List.mem_append_left _ hp) (by rw [hb, e]))⟩
 ·exact h.moveO (fun b o hb' => ja8 (kS b (fun e => hb'.2 (.inl e))) o)
 ·refine h.moveS (fun b hb' => ⟨by rw [World.size_setCell]; exact hb'.1, fun hm => hb'.2 ?_⟩)
  rcases hm with hm | hm | hm | ⟨p, hp, hm⟩
  ·exact .inl hm
  ·exact .inr (.inl hm)
  ·exact .inr (.inr (.inl hm))
  ·exact .inr (.inr (.inr ⟨p, List.mem_append_left _ hp, hm⟩))
theorem RunP.tell {w4 w5 : World} {ve' : Value} {z : Int} (h : RunP w base hc vp P s va vh ve L S) (hb4 : Below w.heap.size w w4) (hg : w4.grownBy w5 ve.ownBlock) (ho : Ow w5 base 3 .i64 ve' (s.ev ++ [z])) (hva : ve'.ownBlock = ve.ownBlock \/ ∃ g, ve'.ownBlock = some g /\ w.heap.size <= g) :
  RunP (w5.setCell ⟨hc, 3, none⟩ ve') base hc vp P { s with ev := s.ev ++ [z] } va vh ve' L S := by
 have hn := h.ne
 have hwl := h.box.lt
 have hbb := h.hb
 have k5 : ∀ b, b < w.heap.size -> ve.ownBlock ≠ some b -> w5.heap[b]? = w.heap[b]? := fun b hb hn => (hg.block b (by have := hb4.size; omega) (fun e => hn e.symm)).trans (hb4.block b hb)
 have hv6 : ∀ b, b < w.heap.size -> ve'.ownBlock = some b -> ve.ownBlock = some b := fun b hb e => by
  rcases hva with h5 | ⟨g, h5, h6⟩
  ·rw [<- h5]; exact e
  ·rw [h5] at e; injection e with e; omega
 have kS : ∀ b, b < w.heap.size -> b ≠ hc -> ve.ownBlock ≠ some b -> (w5.setCell ⟨hc, 3, none⟩ ve').heap[b]? = w.heap[b]? := fun b hb h1 h2 => (heap_setCell_other _ _ _ _ h1).trans (k5 b hb h2)
 have hsz : w.heap.size <= (w5.setCell ⟨hc, 3, none⟩ ve').heap.size := by rw [World.size_setCell]; have := hb4.size; have := hg.size; omega
 have hek : ∀ g, ve.ownBlock = some g -> base <= g := fun g hg => (h.evs.row' g hg).1
 refine ⟨?_, h.stk, h.acts.kept fun g hgv => kS g (h.acts.lt g hgv).2 (fun e => hn.a (by rw [hgv, e])) (hn.ae g hgv), fun p hp => ?_, h.dis, ?_, ?_, ho.kept' fun g hgv => heap_setCell_other _ _ _ _ (fun e => ?_), h.hb⟩
 ·have hb5 : Box w5 hc _ _ := (k5 hc hwl hn.e).trans h.box
  have := hb5.set 3 ve'
  simpa using this
 ·have hq := h.all p hp
  obtain ⟨F, h1, h2, h3, h4⟩ := hq.fn
  exact ⟨⟨F, h1, h2.blk (fun b hb' => kS b (by omega) (by omega) (fun e => by have := hek b e; omega)), h3, h4⟩, hq.vars.kept fun g hgv => kS g (hq.vars.lt g hgv).2 (fun e => hn.v p hp (by rw [hgv, e])) (fun e => hn.ev p hp g e hgv)⟩
 ·exact h.moveO (fun b o hb' => ja8 (kS b hb'.1 (fun e => hb'.2 (.inl e)) (fun e => hb'.2 (.inr (.inr (.inl e))))) o)
 ·refine h.moveS (fun b hb' => ⟨Nat.lt_of_lt_of_le hb'.1 hsz, fun hm => ?_⟩)
  rcases hm with hm | hm | hm | hm
  ·exact hb'.2 (.inl hm)
  ·exact hb'.2 (.inr (.inl hm))
  ·exact hb'.2 (.inr (.inr (.inl (hv6 b hb'.1 hm))))
  ·exact hb'.2 (.inr (.inr (.inr hm)))
 ·subst e
  exact hn.e (hv6 _ hwl hgv)
theorem RunP.last (h : RunP w base hc vp P s va vh ve (L ++ [(f, a)]) S) : ∃ g cap, va = .slice (some ⟨g, 0, none⟩) (L.length + 1) cap /\ L.length + 1 <= cap /\ cap <= maxLen /\ base <= g /\ g < w.heap.size /\ g ≠ hc /\
  (∀ (j : Nat) (u : Value), j < 9 -> (actC (f, a))[j]? = some u -> w.cell? ⟨g, L.length * 9 + j, none⟩ = some u /\ w.frozen? ⟨g, L.length * 9 + j, none⟩ = false) := by
 obtain ⟨g, cap, h1, h2, h3, h4, h5, h6⟩ := OwC.formG jji h.acts (by simp)
 rw [List.length_append, List.length_singleton] at h1 h4
 exact ⟨g, cap, h1, h4, h5, h2, h3, fun e => h.ne.a (by rw [h1, <- e]; rfl), fun j u hj hu => h6 L.length (f, a) (by simp) j u hj hu⟩
theorem ActOk.vals {p : FrV × ActW} (h : ActOk w base P p) (h0 : 0 < p.1.vars.length) : ∃ g cap, p.2.vv = .slice (some ⟨g, 0, none⟩) p.1.vars.length cap /\ p.1.vars.length <= cap /\ cap <= maxLen /\ base <= g /\ g < w.heap.size /\
  (∀ (k : Nat) (x : ValV), p.1.vars[k]? = some x -> (w.cell? ⟨g, k * 3, none⟩ = some (.int .i64 x.n) /\ w.cell? ⟨g, k * 3 + 1, none⟩ = some (.int .i64 x.o) /\ w.cell? ⟨g, k * 3 + 2, none⟩ = some (.int .i64 x.a)) /\ w.frozen? ⟨g, k * 3, none⟩ = false /\ w.frozen? ⟨g, k * 3 + 1, none⟩ = false /\ w.frozen? ⟨g, k * 3 + 2, none⟩ = false) := by
 obtain ⟨g, cap, h1, h2, h3, h4, h5, h6⟩ := OwC.formG jbh h.vars h0
 refine ⟨g, cap, h1, h4, h5, h2, h3, fun k x hx => ?_⟩
 have a0 := h6 k x hx 0 _ (by omega) rfl
 have a1 := h6 k x hx 1 _ (by omega) rfl
 have a2 := h6 k x hx 2 _ (by omega) rfl
 exact ⟨⟨a0.1, a1.1, a2.1⟩, a0.2, a1.2, a2.2⟩
end
end Go.Proofs.YthbnbaikdcfbmaaGreatDoor
