/- Layer 13, the program: a function alike, of its own memory. Condition: no more than 1000 variables and blocks, 40 instructions a block, 1000 arguments. -/
import Derived.Test.YtnoknodijombpaaDoorPhDC
set_option linter.unusedSimpArgs false
set_option linter.unusedVariables false
namespace Go.Proofs.YtnoknodijombpaaDoor
open Go.RowKit

/-- The first b blocks have instructions of their own, the others the old ones. -/
structure CpO (B base : Nat) (bs : List (List InsV)) (v : Value) (b : Nat) (l : List (List InsV × Value)) (w : World) : Prop where
  own : OwC blkC 41 1 w base v l
  all : l.map (·.1) = bs
  new : ∀ (i : Nat) (p : List InsV × Value), l[i]? = some p → i < b → CodeM w base p
  old : ∀ (i : Nat) (p : List InsV × Value), l[i]? = some p → b ≤ i → InssV w (· < B) p.2 p.1
  apart : ∀ (i j : Nat) (p p' : List InsV × Value), l[i]? = some p → l[j]? = some p' → i < b → j < b → i ≠ j → ∀ g, p.2.ownBlock = some g → p'.2.ownBlock ≠ some g
/-- The first k instructions have arguments of their own, the others the old ones. -/
structure CpI (B base : Nat) (ls : List InsV) (u : Value) (k : Nat) (q : List (InsV × Value)) (w : World) : Prop where
  own : OwC insC 38 7 w base u q
  all : q.map (·.1) = ls
  new : ∀ (i : Nat) (r : InsV × Value), q[i]? = some r → i < k → InsI w (TB w 3) r.2 r.1
  old : ∀ (i : Nat) (r : InsV × Value), q[i]? = some r → k ≤ i → InsI w (· < B) r.2 r.1
section
variable {B base : Nat} {bs : List (List InsV)} {v : Value} {b : Nat} {l : List (List InsV × Value)} {w w' : World}
theorem CpO.keep {M : Nat → Prop} (h : CpO B base bs v b l w) (hB : B ≤ w.heap.size) (hk : ∀ x, x < w.heap.size → ¬ M x → w'.heap[x]? = w.heap[x]?) (hO : ∀ x, x < B → ¬ M x) (hBk : ∀ x, base ≤ x → TB w 41 x → ¬ M x) (hC : ∀ x, base ≤ x → TB w 38 x → ¬ M x) (hI : ∀ x, TB w 3 x → ¬ M x) : CpO B base bs v b l w' :=
  ⟨h.own.kept fun g hg => hk g (h.own.lt g hg).2 (hBk g (h.own.lt g hg).1 (h.own.row g hg)), h.all, fun i p hi hb => (h.new i p hi hb).keep hk (fun g hg => hC g ((h.new i p hi hb).own g hg).1 ((h.new i p hi hb).own g hg).2) hI,
    fun i p hi hb => (h.old i p hi hb).keep (fun x o hx => World.cell?_of_block (a := ⟨x, o, none⟩) (hk x (by have : x < B := hx; omega) (hO x hx))) (fun _ h => h), h.apart⟩
theorem CpO.below (h : CpO B base bs v b l w) (hB : B ≤ w.heap.size) (hb : Below w.heap.size w w') : CpO B base bs v b l w' := h.keep (M := fun _ => False) hB (fun x hx _ => hb.block x hx) (fun _ _ h => h) (fun _ _ _ h => h) (fun _ _ _ h => h) (fun _ _ h => h)
theorem CpO.done (h : CpO B base bs v b l w) (hb : l.length ≤ b) : BlkM w base v l :=
  ⟨h.own, fun p hp => by
    obtain ⟨i, hi⟩ := List.getElem?_of_mem hp
    exact h.new i p hi (by have := (List.getElem?_eq_some_iff.1 hi).1; omega),
   fun i j p p' hi hj => h.apart i j p p' hi hj (by have := (List.getElem?_eq_some_iff.1 hi).1; omega) (by have := (List.getElem?_eq_some_iff.1 hj).1; omega)⟩
/-- The block b gets instructions of its own. -/
theorem CpO.step {w0 : World} {g n c4 gc m cc : Nat} {ls : List InsV} {u : Value} (h : CpO B base bs (.slice (some ⟨gc, 0, none⟩) m cc) b l w) (hl : l.length = m) (hB : B ≤ w0.heap.size) (hz : w0.heap.size ≤ w.heap.size) (hbB : B ≤ base) (hold : ∀ (i : Nat) (p : List InsV × Value), l[i]? = some p → i < b → ∀ x, p.2.ownBlock = some x → x < w0.heap.size) (hb : l[b]? = some (ls, u)) (hc : CodeM w base (ls, .slice (some ⟨g, 0, none⟩) n c4)) (hg : w0.heap.size ≤ g) :
    CpO B base bs (.slice (some ⟨gc, 0, none⟩) m cc) (b + 1) (l.set b (ls, .slice (some ⟨g, 0, none⟩) n c4)) (w.setCell ⟨gc, b, none⟩ (.slice (some ⟨g, 0, none⟩) n c4)) := by
  have hbl := (List.getElem?_eq_some_iff.1 hb).1
  have hgT : TB w 41 gc := h.own.row gc rfl
  have hgc := (h.own.lt gc rfl).1
  have hk' : ∀ x, x < w.heap.size → ¬ (x = gc) → (w.setCell ⟨gc, b, none⟩ (.slice (some ⟨g, 0, none⟩) n c4)).heap[x]? = w.heap[x]? := fun x _ hx => heap_setCell_other w ⟨gc, b, none⟩ x _ hx
  have hI : ∀ x, TB w 3 x → ¬ x = gc := fun x hx e => by
    subst e
    exact absurd (hx.one hgT) (by decide)
  have hC : ∀ x, TB w 38 x → ¬ x = gc := fun x hx e => by
    subst e
    exact absurd (hx.one hgT) (by decide)
  have hset : ∀ (i : Nat) (p : List InsV × Value), (l.set b (ls, .slice (some ⟨g, 0, none⟩) n c4))[i]? = some p → (i = b ∧ p = (ls, .slice (some ⟨g, 0, none⟩) n c4)) ∨ (i ≠ b ∧ l[i]? = some p) := by
    intro i p hi
    rw [List.getElem?_set] at hi
    split at hi
    · rename_i e
      subst e
      injection hi with hi
      exact .inl ⟨rfl, hi.symm⟩
    · rename_i e
      exact .inr ⟨fun e2 => e e2.symm, hi⟩
  refine ⟨?_, ?_, fun i p hi hib => ?_, fun i p hi hib => ?_, fun i j p p' hi hj hib hjb hij => ?_⟩
  · have t := h.own.putE hl (fun _ => rfl) (i := 0) hb (by omega) (show blkC (ls, .slice (some ⟨g, 0, none⟩) n c4) = (blkC (ls, u)).set 0 (.slice (some ⟨g, 0, none⟩) n c4) from rfl)
    simp only [Nat.mul_one, Nat.add_zero] at t
    exact t
  · rw [List.map_set, ← h.all]
    refine List.ext_getElem? fun j => ?_
    rw [List.getElem?_set]
    split
    · rename_i e
      subst e
      rw [List.getElem?_map, hb]
      simp [hbl]
    · rfl
  · rcases hset i p hi with ⟨rfl, rfl⟩ | ⟨hne, hi⟩
    · exact hc.keep hk' (fun x hx e => hC x (hc.own x hx).2 e) hI
    · have k := h.new i p hi (by omega)
      exact k.keep hk' (fun x hx e => hC x (k.own x hx).2 e) hI
  · rcases hset i p hi with ⟨rfl, rfl⟩ | ⟨hne, hi⟩
    · omega
    · exact (h.old i p hi (by omega)).keep (fun x o hx => World.cell?_of_block (a := ⟨x, o, none⟩) (hk' x (by have : x < B := hx; omega) (by have : x < B := hx; omega))) (fun _ h => h)
  · rcases hset i p hi with ⟨e1, e2⟩ | ⟨hni, hi'⟩
    · rcases hset j p' hj with ⟨e3, e4⟩ | ⟨hnj, hj'⟩
      · omega
      · intro x hx e
        have := hold j p' hj' (by omega) x e
        rw [e2] at hx
        simp [Value.ownBlock] at hx
        omega
    · skip
      rcases hset j p' hj with ⟨e1, e2⟩ | ⟨hnj, hj'⟩
      · intro x hx e
        have := hold i p hi' (by omega) x hx
        rw [e2] at e
        simp [Value.ownBlock] at e
        omega
      · exact h.apart i j p p' hi' hj' (by omega) (by omega) hij
end
section
variable {B base : Nat} {ls : List InsV} {k : Nat} {q : List (InsV × Value)} {w w3 : World}
theorem CpI.step {g n c : Nat} {x : InsV} {va u : Value} {b3 : Nat} (h : CpI B base ls (.slice (some ⟨g, 0, none⟩) n c) k q w) (hB : B ≤ w.heap.size) (hBb : B ≤ base) (hn : q.length = n) (hk : q[k]? = some (x, va)) (hb : Below w.heap.size w w3) (hu : Ow w3 b3 3 .i64 u x.args) (hR : ∀ z ∈ x.args, i64R z) :
    CpI B base ls (.slice (some ⟨g, 0, none⟩) n c) (k + 1) (q.set k (x, u)) (w3.setCell ⟨g, k * 7 + 6, none⟩ u) := by
  have hkl := (List.getElem?_eq_some_iff.1 hk).1
  have hgT : TB w 38 g := h.own.row g rfl
  have hgb := (h.own.lt g rfl).1
  have hown3 : OwC insC 38 7 w3 base (.slice (some ⟨g, 0, none⟩) n c) q := h.own.below hb
  have hgT3 : TB w3 38 g := hown3.row g rfl
  have hk3 : ∀ x, x < w3.heap.size → ¬ (x = g) → (w3.setCell ⟨g, k * 7 + 6, none⟩ u).heap[x]? = w3.heap[x]? := fun x _ hx => heap_setCell_other w3 ⟨g, k * 7 + 6, none⟩ x _ hx
  have hI3 : ∀ x, TB w3 3 x → ¬ x = g := fun x hx e => by
    subst e
    exact absurd (hx.one hgT3) (by decide)
  have hset : ∀ (i : Nat) (r : InsV × Value), (q.set k (x, u))[i]? = some r → (i = k ∧ r = (x, u)) ∨ (i ≠ k ∧ q[i]? = some r) := by
    intro i p hi
    rw [List.getElem?_set] at hi
    split at hi
    · rename_i e
      subst e
      injection hi with hi
      exact .inl ⟨rfl, hi.symm⟩
    · rename_i e
      exact .inr ⟨fun e2 => e e2.symm, hi⟩
  have hxR : InsR x := by
    by_cases h0 : k < k + 1
    · exact (h.old k _ hk (Nat.le_refl _)).2
    · omega
  refine ⟨hown3.putE hn (fun _ => rfl) hk (by omega) rfl, ?_, fun i r hi hik => ?_, fun i r hi hik => ?_⟩
  · rw [List.map_set, ← h.all]
    refine List.ext_getElem? fun j => ?_
    rw [List.getElem?_set]
    split
    · rename_i e
      subst e
      rw [List.getElem?_map, hk]
      simp [hkl]
    · rfl
  · rcases hset i r hi with ⟨rfl, rfl⟩ | ⟨hne, hi⟩
    · exact ⟨(ints_vec hu hR (fun b hb => (hu.row' b hb).2.2.elim fun c hc => ⟨c, _, hc⟩)).keep (S' := TB (w3.setCell ⟨g, i * 7 + 6, none⟩ u) 3) (fun x o hx => World.cell?_of_block (a := ⟨x, o, none⟩) (hk3 x hx.lt (hI3 x hx))) (fun x hx => hx.keep (hk3 x hx.lt (hI3 x hx))), hxR⟩
    · have k1 := argsI_keep (M := fun _ => False) (h.new i r hi (by omega)) (fun x hx _ => hb.block x hx) (fun _ _ h => h)
      exact argsI_keep k1 hk3 hI3
  · rcases hset i r hi with ⟨rfl, rfl⟩ | ⟨hne, hi⟩
    · omega
    · have k1 := (h.old i r hi (by omega)).keep (w' := w3) (S' := (· < B)) (fun x o hx => World.cell?_of_block (a := ⟨x, o, none⟩) (hb.block x (by have : x < B := hx; omega))) (fun _ h => h)
      exact k1.keep (fun x o hx => World.cell?_of_block (a := ⟨x, o, none⟩) (hk3 x (by have : x < B := hx; have := hb.size; omega) (by have : x < B := hx; omega))) (fun _ h => h)
theorem CpI.done {u : Value} (h : CpI B base ls u k q w) (hk : q.length ≤ k) : CodeM w base (ls, u) :=
  ⟨q, h.all, h.own, fun r hr => by
    obtain ⟨i, hi⟩ := List.getElem?_of_mem hr
    exact h.new i r hi (by have := (List.getElem?_eq_some_iff.1 hi).1; omega)⟩
end
/-- The function's copy under way: b blocks are done. -/
structure FcW (fp fr : Int) (ks es : List Int) (bs : List (List InsV)) (B base h1 : Nat) (v1 v2 v3 : Value) (b : Nat) (q : List (List InsV × Value)) (w0 w : World) : Prop where
  bx : Box w h1 #[v1, v2, .int .i64 fp, .int .i64 fr, v3] 34
  bz : Box w (h1 + 1) #[.slice none 0 0, .slice none 0 0, .int .i64 0, .int .i64 0, .slice none 0 0] 34
  ok : Ow w base 3 .i64 v1 ks
  oe : Ow w base 3 .i64 v2 es
  o : CpO B base bs v3 b q w
  bel : Below w0.heap.size w0 w
section
variable {fp fr : Int} {ks es : List Int} {bs : List (List InsV)} {B base h1 : Nat} {v1 v2 v3 : Value} {b : Nat} {q : List (List InsV × Value)} {w0 w w' : World}
theorem FcW.below (h : FcW fp fr ks es bs B base h1 v1 v2 v3 b q w0 w) (hB : B ≤ w.heap.size) (hb : Below w.heap.size w w') : FcW fp fr ks es bs B base h1 v1 v2 v3 b q w0 w' :=
  ⟨h.bx.below hb, h.bz.below hb, h.ok.below hb, h.oe.below hb, h.o.below hB hb, h.bel.trans (hb.mono h.bel.size)⟩
end
theorem FcW.step {fp fr : Int} {ks es : List Int} {bs : List (List InsV)} {B base h1 g n c4 gc m cc b : Nat} {v1 v2 u : Value} {q : List (List InsV × Value)} {ls : List InsV} {w0 wo w : World} (h : FcW fp fr ks es bs B base h1 v1 v2 (.slice (some ⟨gc, 0, none⟩) m cc) b q w0 w) (hbase : w0.heap.size ≤ base) (hl : q.length = m) (hB : B ≤ wo.heap.size) (hz : wo.heap.size ≤ w.heap.size) (hbB : B ≤ base) (hold : ∀ (i : Nat) (p : List InsV × Value), q[i]? = some p → i < b → ∀ x, p.2.ownBlock = some x → x < wo.heap.size) (hb : q[b]? = some (ls, u)) (hc : CodeM w base (ls, .slice (some ⟨g, 0, none⟩) n c4)) (hg : wo.heap.size ≤ g) :
    FcW fp fr ks es bs B base h1 v1 v2 (.slice (some ⟨gc, 0, none⟩) m cc) (b + 1) (q.set b (ls, .slice (some ⟨g, 0, none⟩) n c4)) w0 (w.setCell ⟨gc, b, none⟩ (.slice (some ⟨g, 0, none⟩) n c4)) := by
  have hT : TB w 41 gc := h.o.own.row gc rfl
  have hgl := (h.o.own.lt gc rfl).1
  have hk' : ∀ x, x ≠ gc → (w.setCell ⟨gc, b, none⟩ (.slice (some ⟨g, 0, none⟩) n c4)).heap[x]? = w.heap[x]? := fun x hx => heap_setCell_other w ⟨gc, b, none⟩ x _ hx
  have hF : ∀ {x : Nat} {cs : Array Value}, Box w x cs 34 → x ≠ gc := fun hx e => by
    have k1 := hx.tb
    rw [e] at k1
    exact absurd (k1.one hT) (by decide)
  have hI : ∀ {x : Nat} {cs : Array Value}, w.heap[x]? = some (.cells cs 3 (0, 0)) → x ≠ gc := fun hx e => by
    have k1 : TB w 3 gc := by rw [← e]; exact ⟨_, _, hx⟩
    exact absurd (k1.one hT) (by decide)
  refine ⟨(hk' h1 (hF h.bx)).trans h.bx, (hk' (h1 + 1) (hF h.bz)).trans h.bz, h.ok.kept' fun x hx => ?_, h.oe.kept' fun x hx => ?_, h.o.step hl hB hz hbB hold hb hc hg, Below.setCell h.bel (by show _ ≤ gc; omega) _⟩
  · obtain ⟨-, -, c, hc⟩ := h.ok.row' x hx
    exact hk' x (hI hc)
  · obtain ⟨-, -, c, hc⟩ := h.oe.row' x hx
    exact hk' x (hI hc)
theorem CpO.len {B base : Nat} {bs : List (List InsV)} {v : Value} {b : Nat} {l : List (List InsV × Value)} {w : World} (h : CpO B base bs v b l w) : l.length = bs.length := by
  have := congrArg List.length h.all
  rwa [List.length_map] at this
theorem CpO.mem {B base : Nat} {bs : List (List InsV)} {v : Value} {b i : Nat} {l : List (List InsV × Value)} {w : World} {p : List InsV × Value} (h : CpO B base bs v b l w) (hi : l[i]? = some p) : p.1 ∈ bs := by
  rw [← h.all]
  exact List.mem_map.2 ⟨p, List.mem_of_getElem? hi, rfl⟩
theorem CpI.mem {B base : Nat} {ls : List InsV} {u : Value} {k i : Nat} {q : List (InsV × Value)} {w : World} {r : InsV × Value} (h : CpI B base ls u k q w) (hi : q[i]? = some r) : r.1 ∈ ls := by
  rw [← h.all]
  exact List.mem_map.2 ⟨r, List.mem_of_getElem? hi, rfl⟩
theorem CpI.len {B base : Nat} {ls : List InsV} {u : Value} {k : Nat} {q : List (InsV × Value)} {w : World} (h : CpI B base ls u k q w) : q.length = ls.length := by
  have := congrArg List.length h.all
  rwa [List.length_map] at this
theorem cpw_start {fp fr : Int} {ks es : List Int} {bs : List (List InsV)} {B h1 lk lb ls c1 c2 cc ck cb cs : Nat} {A1 A2 Ac Ak Ab As : Option Addr} {q : List (List InsV × Value)} {w0 w1 w : World} (hh1 : w0.heap.size = h1) (hB : B ≤ h1) (hs1 : h1 + 1 < w1.heap.size) (hb01 : Below w0.heap.size w0 w1) (hb1 : Below w1.heap.size w1 w)
    (hx : Box w1 h1 #[.slice Ak lk ck, .slice Ab lb cb, .int .i64 fp, .int .i64 fr, .slice As ls cs] 34) (hz : Box w1 (h1 + 1) #[.slice none 0 0, .slice none 0 0, .int .i64 0, .int .i64 0, .slice none 0 0] 34)
    (hk : Ow w w1.heap.size 3 .i64 (.slice A1 lk c1) ks) (he : Ow w w1.heap.size 3 .i64 (.slice A2 lb c2) es) (ho : OwC blkC 41 1 w w1.heap.size (.slice Ac ls cc) q) (hq : q.map (·.1) = bs) (hr : ∀ p ∈ q, InssV w (· < B) p.2 p.1) :
    FcW fp fr ks es bs B w0.heap.size h1 (.slice A1 lk c1) (.slice A2 lb c2) (.slice Ac ls cc) 0 q w0 (((w.setCell ⟨h1, 0, none⟩ (.slice A1 lk c1)).setCell ⟨h1, 1, none⟩ (.slice A2 lb c2)).setCell ⟨h1, 4, none⟩ (.slice Ac ls cc)) := by
  have hz1 := hb1.size
  have hblk : ∀ x, x ≠ h1 → (((w.setCell ⟨h1, 0, none⟩ (.slice A1 lk c1)).setCell ⟨h1, 1, none⟩ (.slice A2 lb c2)).setCell ⟨h1, 4, none⟩ (.slice Ac ls cc)).heap[x]? = w.heap[x]? := fun x hx => by
    rw [heap_setCell_other _ ⟨h1, 4, none⟩ x _ hx, heap_setCell_other _ ⟨h1, 1, none⟩ x _ hx, heap_setCell_other _ ⟨h1, 0, none⟩ x _ hx]
  refine ⟨?_, ?_, ?_, ?_, ⟨?_, hq, fun i p _ h => by omega, fun i p hi _ => ?_, fun i j p p' _ _ h => by omega⟩, ?_⟩
  · have t := (((hx.below hb1).set 0 (.slice A1 lk c1)).set 1 (.slice A2 lb c2)).set 4 (.slice Ac ls cc)
    simpa using t
  · exact (hblk (h1 + 1) (by omega)).trans (hz.below hb1)
  · exact (hk.kept' fun g hg => hblk g (by have := (hk.row' g hg).1; omega)).lower (by have := hb01.size; omega)
  · exact (he.kept' fun g hg => hblk g (by have := (he.row' g hg).1; omega)).lower (by have := hb01.size; omega)
  · exact (ho.kept fun g hg => hblk g (by have := (ho.lt g hg).1; omega)).lower (by have := hb01.size; omega)
  · exact (hr p (List.mem_of_getElem? hi)).keep (fun x o hx => World.cell?_of_block (a := ⟨x, o, none⟩) (hblk x (by have : x < B := hx; omega))) (fun _ h => h)
  · exact Below.setCell (Below.setCell (Below.setCell (hb01.trans (hb1.mono hb01.size)) (by show _ ≤ h1; omega) _) (by show _ ≤ h1; omega) _) (by show _ ≤ h1; omega) _
abbrev end5 (w : World) (h : Nat) (v0 v1 v2 v3 v4 : Value) : World := ((((w.setCell ⟨h, 0, none⟩ v0).setCell ⟨h, 1, none⟩ v1).setCell ⟨h, 2, none⟩ v2).setCell ⟨h, 3, none⟩ v3).setCell ⟨h, 4, none⟩ v4
theorem end5_blk {w : World} {h : Nat} {v0 v1 v2 v3 v4 : Value} {x : Nat} (hx : x ≠ h) : (end5 w h v0 v1 v2 v3 v4).heap[x]? = w.heap[x]? := by
  rw [heap_setCell_other _ ⟨h, 4, none⟩ x _ hx, heap_setCell_other _ ⟨h, 3, none⟩ x _ hx, heap_setCell_other _ ⟨h, 2, none⟩ x _ hx, heap_setCell_other _ ⟨h, 1, none⟩ x _ hx, heap_setCell_other _ ⟨h, 0, none⟩ x _ hx]
theorem Box.end5 {w : World} {h : Nat} {u0 u1 u2 u3 u4 v0 v1 v2 v3 v4 : Value} {T : TypeId} (b : Box w h #[u0, u1, u2, u3, u4] T) : Box (end5 w h v0 v1 v2 v3 v4) h #[v0, v1, v2, v3, v4] T := by
  have t := ((((b.set 0 v0).set 1 v1).set 2 v2).set 3 v3).set 4 v4
  simpa using t
theorem end5_below {w0 w : World} {B h : Nat} {v0 v1 v2 v3 v4 : Value} (hb : Below B w0 w) (hh : B ≤ h) : Below B w0 (end5 w h v0 v1 v2 v3 v4) :=
  Below.setCell (Below.setCell (Below.setCell (Below.setCell (Below.setCell hb (by show _ ≤ h; omega) _) (by show _ ≤ h; omega) _) (by show _ ≤ h; omega) _) (by show _ ≤ h; omega) _) (by show _ ≤ h; omega) _
theorem BlkM.end5 {w : World} {base h : Nat} {v v0 v1 v2 v3 v4 : Value} {l : List (List InsV × Value)} (hm : BlkM w base v l) (hT : TB w 34 h) : BlkM (end5 w h v0 v1 v2 v3 v4) base v l :=
  hm.keep (M := fun b => b = h) (fun b _ hb => end5_blk hb) (fun b hb e => absurd (by rw [e] at hb; exact hb.one hT) (by decide)) (fun b hb e => absurd (by rw [e] at hb; exact hb.one hT) (by decide)) (fun b hb e => absurd (by rw [e] at hb; exact hb.one hT) (by decide))
theorem Ow.end5 {w : World} {base h : Nat} {v v0 v1 v2 v3 v4 : Value} {zs : List Int} (ho : Ow w base 3 .i64 v zs) (hT : TB w 34 h) : Ow (end5 w h v0 v1 v2 v3 v4) base 3 .i64 v zs :=
  ho.kept' fun g hg => end5_blk (fun e => by
    obtain ⟨-, -, c, hc⟩ := ho.row' g hg
    rw [e] at hc
    have k1 : TB w 3 h := ⟨_, _, hc⟩
    exact absurd (k1.one hT) (by decide))
theorem size_func : (Tryd.prog.info? 34).map (·.size) = some 5 := by kernel_rfl
end Go.Proofs.YtnoknodijombpaaDoor
