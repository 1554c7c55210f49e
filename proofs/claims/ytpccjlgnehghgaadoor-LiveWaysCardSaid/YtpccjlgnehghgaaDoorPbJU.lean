/- The statement LiveWays: a way as a list of places; what is asked for further on is live. No condition. -/
import Derived.Test.YtpccjlgnehghgaaDoorPbJT
import Derived.Maps.AppendAt
set_option linter.unusedSimpArgs false
set_option linter.unusedVariables false
namespace Go.Proofs.YtpccjlgnehghgaaDoor
open Go.RowKit

/-- The slice value v is the call's own, from block 'base' on, and holds the places es. -/
def OwP (w : World) (base : Nat) (v : Value) (es : List (Int × Int)) : Prop := w.ownsRow base 44 2 v es.length (eCells es)
section
variable {w w' : World} {base B B' : Nat} {v : Value} {A : Option Addr} {es : List (Int × Int)}
theorem OwP.nil (w : World) (base : Nat) : OwP w base (.slice none 0 0) [] := World.ownsRow_nil _ _ _ _
theorem OwP.lower (h : OwP w base v es) {b : Nat} (hb : b ≤ base) : OwP w b v es := by
  refine ⟨h.1, ?_⟩
  rcases h.2 with h2 | ⟨g, cap, cur, hv, hg, r⟩
  · exact .inl h2
  · exact .inr ⟨g, cap, cur, hv, by omega, r⟩
theorem OwP.below (h : OwP w base v es) (hb : Below w.heap.size w w') : OwP w' base v es := by
  refine ⟨h.1, ?_⟩
  rcases h.2 with h2 | ⟨g, cap, cur, hv, hg, hh, r⟩
  · exact .inl h2
  · exact .inr ⟨g, cap, cur, hv, hg, (hb.block g (Array.getElem?_eq_some_iff.1 hh).1).trans hh, r⟩
theorem OwP.sl (h : OwP w base v es) : ∃ A c, v = .slice A es.length c ∧ es.length ≤ c ∧ c ≤ maxLen ∧ EdgS w w.heap.size A es := by
  rcases h.2 with ⟨rfl, h0⟩ | ⟨g, cap, cur, rfl, hg, hh, hnc, hcm, hsz, htake⟩
  · have hz : es = [] := List.eq_nil_of_length_eq_zero h0
    subst hz
    exact ⟨none, 0, rfl, Nat.le_refl _, by simp [maxLen], fun h => absurd h (by simp)⟩
  · refine ⟨_, _, rfl, hnc, hcm, fun hp => ⟨g, 0, rfl, (Array.getElem?_eq_some_iff.1 hh).1, fun j p hj => ?_⟩⟩
    have hjl := (List.getElem?_eq_some_iff.1 hj).1
    obtain ⟨h1, h2⟩ := eCells_get es j p hj
    rw [Nat.zero_add, World.ownsRow.cellAt h (j * 2) (by omega), World.ownsRow.cellAt h (j * 2 + 1) (by omega)]
    exact ⟨h1, h2⟩
end
theorem info_place : (Tryd.prog.info? 44).map (fun i => (i.zero, i.size, i.bytes)) = some (some (.agg #[.int .i64 0, .int .i64 0]), 2, 16) := by kernel_rfl
/-- append(v, Place{a, b}), v the call's own. -/
theorem wpList_append_place {P : Program} (w : World) {ops : Array Oper} {rest : List Oper} {o : Oper} {a : Act} {Q : Exit → Act → World → Prop} (hgd : o.guard = none) (s x : Operand) (t : TypeId)
    (ho : o.op = .call { callee := .builtin .append, args := #[s, x], argTypes := #[t, t] })
    (base : Nat) (i : TypeInfo) (z : Value) (ht : P.underlying t = some (.slice 44)) (hi : P.info? 44 = some i) (hz : i.zero = some z)
    (hsize : i.size = 2) (hby : i.bytes = 16) (hzs : z.cells.size = 2)
    (v : Value) (es : List (Int × Int)) (hs : a.eval s = v) (hown : OwP w base v es) (y1 y2 : Int)
    (hx : a.eval x = .slice (some ⟨w.heap.size, 0, none⟩) 1 1)
    (hroom : es.length < 1000000) (hbase : base ≤ w.heap.size)
    (h : ∀ v' w', OwP w' base v' (es ++ [(y1, y2)]) → Below base w w' → (∀ p : Addr, p.block < w.heap.size → some p.block ≠ v.ownBlock → w'.cell? p = w.cell? p) → (v'.ownBlock = v.ownBlock ∨ v'.ownBlock = some (w.heap.size + 1)) → wpList P ops Q rest (a.put o.dst v') w') :
    wpList P ops Q (o :: rest) a (w.alloc (.cells #[.int .i64 y1, .int .i64 y2] 44)) := by
  refine wpList_plain hgd fun K hK => ?_
  have hown' : (w.alloc (.cells #[.int .i64 y1, .int .i64 y2] 44)).ownsRow base 44 2 v es.length (eCells es) := World.ownsRow.alloc hown _
  obtain ⟨v', w', hrun, h2, h3, -, h5⟩ := run_append_own_at (P := P) (w.alloc (.cells #[.int .i64 y1, .int .i64 y2] 44)) base t o.type 44 i z 2 16 ht hi hz hsize hby hzs (by omega) v es.length (eCells es) hown'
    ⟨w.heap.size, 0, none⟩ 1 1 [.int .i64 y1, .int .i64 y2] rfl
    (fun j u hu => by
      rw [Addr.add_lit, cell_of_row (w.alloc (.cells #[.int .i64 y1, .int .i64 y2] 44)) w.heap.size (0 + j) _ _ (0, 0) (heap_alloc_new w _), Nat.zero_add, ← Array.getElem?_toList]
      exact hu) (by intro u hu; simp at hu; rcases hu with rfl | rfl <;> rfl) (by simp only [maxLen]; omega) (by omega) (by simp only [World.size_alloc]; omega)
  unfold Oper.wp execOp
  simp only [ho, resolve, invoke, builtin, Sem.run_bind, Sem.run_pure, Result.andThen_ok, List.map_toArray, List.map_cons, List.map_nil, hs, hx, hrun]
  refine hK _ _ (h v' w' ?_ ?_ ?_ ?_)
  · unfold OwP
    rw [eCells_app, List.length_append]
    exact h2
  · exact ((Below.refl _ _).alloc hbase _).grown h3 (by simp only [World.size_alloc]; omega) fun g hg => (World.ownsRow.lt hown g hg).1
  · intro p hp hne
    rw [World.cell?_of_block (h3.block p.block (by simp only [World.size_alloc]; omega) hne), World.cell?_alloc_lt w _ p hp]
  · simpa only [World.size_alloc] using h5

/-- Places as numbers of the language. -/
def castP (l : List (Nat × Nat)) : List (Int × Int) := l.map fun p => ((p.1 : Int), (p.2 : Int))
theorem castP_snoc (l : List (Nat × Nat)) (p : Nat × Nat) : castP (l ++ [p]) = castP l ++ [((p.1 : Int), (p.2 : Int))] := by simp [castP]
theorem castP_len (l : List (Nat × Nat)) : (castP l).length = l.length := by simp [castP]
theorem castP_get {l : List (Nat × Nat)} {k : Nat} {p : Nat × Nat} (h : l[k]? = some p) : (castP l)[k]? = some ((p.1 : Int), (p.2 : Int)) := by simp [castP, h]
/-- q comes next to p. -/
def StepQ (f : FunV) (p q : Nat × Nat) : Prop := (q.1 = p.1 ∧ q.2 = p.2 + 1) ∨ (p.2 + 1 = (codeOf f p.1).length ∧ q.2 = 0 ∧ (q.1 : Int) ∈ nxt f p.1)
def HereP (f : FunV) (p : Nat × Nat) : Prop := p.1 < f.blocks.length ∧ p.2 < (codeOf f p.1).length
/-- A way whose next place would be q. -/
structure WayOk (f : FunV) (l : List (Nat × Nat)) (q : Nat × Nat) : Prop where
  here : ∀ p ∈ l, HereP f p
  step : ∀ (k : Nat) (p p' : Nat × Nat), l[k]? = some p → l[k + 1]? = some p' → StepQ f p p'
  last : ∀ p, l[l.length - 1]? = some p → StepQ f p q
theorem WayOk.nil (f : FunV) (q : Nat × Nat) : WayOk f [] q := ⟨fun p h => (by cases h), fun k p p' h => (by simp at h), fun p h => (by simp at h)⟩
theorem WayOk.snoc {f : FunV} {l : List (Nat × Nat)} {b i : Nat} (h : WayOk f l (b, i)) (hh : HereP f (b, i)) : WayOk f (l ++ [(b, i)]) (b, i + 1) := by
  refine ⟨fun p hp => ?_, fun k p p' h1 h2 => ?_, fun p hp => ?_⟩
  · rcases List.mem_append.1 hp with hp | hp
    · exact h.here p hp
    · simp at hp
      subst hp
      exact hh
  · by_cases hk : k + 1 < l.length
    · rw [List.getElem?_append_left (by omega)] at h1
      rw [List.getElem?_append_left hk] at h2
      exact h.step k p p' h1 h2
    · have hl2 := (List.getElem?_eq_some_iff.1 h2).1
      rw [List.length_append] at hl2
      simp at hl2
      have e : k + 1 = l.length := by omega
      rw [List.getElem?_append_right (by omega), show k + 1 - l.length = 0 by omega] at h2
      simp at h2
      subst h2
      rw [List.getElem?_append_left (by omega)] at h1
      exact h.last p (by rw [← e]; exact h1)
  · rw [List.length_append, List.getElem?_append_right (by simp)] at hp
    simp at hp
    subst hp
    exact .inl ⟨rfl, rfl⟩
theorem WayOk.go {f : FunV} {l : List (Nat × Nat)} {b i n : Nat} (h : WayOk f l (b, i)) (hi : i = (codeOf f b).length) (h0 : 0 < i) (hn : (n : Int) ∈ nxt f b) : WayOk f l (n, 0) :=
  ⟨h.here, h.step, fun p hp => by
    rcases h.last p hp with ⟨h1, h2⟩ | ⟨h1, h2, h3⟩
    · simp only at h1 h2
      subst h1
      exact .inr ⟨by omega, rfl, hn⟩
    · simp only at h2
      omega⟩
/-- All that is in s is live ahead of the k-th place. -/
structure AskI (f : FunV) (l : List (Nat × Nat)) (k : Nat) (s : List Nat) : Prop where
  ok : SetOk s
  lv : ∀ v : Nat, hasB s (v : Int) = true → ∃ q sA, l[k]? = some q ∧ LvQ f 0 (q.1 : Int) (q.2 : Int) sA ∧ hasB sA (v : Int) = true
theorem AskI.start (f : FunV) (l : List (Nat × Nat)) (k : Nat) : AskI f l k [] := ⟨⟨by simp, fun x hx => by cases hx⟩, fun v h => by simp [hasB] at h⟩
theorem here_get {f : FunV} {p : Nat × Nat} (h : HereP f p) : ∃ l x, f.blocks[p.1]? = some l ∧ l[p.2]? = some x ∧ codeOf f p.1 = l := by
  obtain ⟨l, hl⟩ : ∃ l, f.blocks[p.1]? = some l := ⟨_, List.getElem?_eq_getElem h.1⟩
  have hc : codeOf f p.1 = l := by unfold codeOf; rw [hl]; rfl
  have h2 := h.2
  rw [hc] at h2
  exact ⟨l, _, hl, List.getElem?_eq_getElem h2, hc⟩
theorem here_B {f : FunV} {p : Nat × Nat} (h : HereP f p) : hereB f (p.1 : Int) (p.2 : Int) = true := by
  obtain ⟨l, x, hl, hx, -⟩ := here_get h
  have := (List.getElem?_eq_some_iff.1 hx).1
  unfold hereB
  rw [sizeN_nat hl]
  simp
  omega
/-- What is asked for further on is live behind the place. -/
theorem AskI.behind {f : FunV} (hok : FlowOk f) (hne : ∀ c, c < f.blocks.length → codeOf f c ≠ []) {l : List (Nat × Nat)} {q0 : Nat × Nat} (hw : WayOk f l q0) {j : Nat} {p : Nat × Nat} {s sB : List Nat} (h : AskI f l (j + 1) s) (hp : l[j]? = some p) (hB : LvQ f 1 (p.1 : Int) (p.2 : Int) sB) : ∀ v : Nat, hasB s (v : Int) = true → hasB sB (v : Int) = true := by
  intro v hv
  obtain ⟨q, sA, hq, hA, hvA⟩ := h.lv v hv
  have hpl := hw.here p (List.mem_of_getElem? hp)
  have hql := hw.here q (List.mem_of_getElem? hq)
  have hbp := here_B hpl
  have hbq := here_B hql
  unfold LvQ at hA hB
  rw [if_pos hbq] at hA
  rw [if_pos hbp] at hB
  simp only [Int.toNat_natCast] at hA hB
  obtain ⟨t, ht, rfl⟩ := hA
  obtain ⟨u, hu, rfl⟩ := hB
  rcases hw.step j p q hp hq with ⟨h1, h2⟩ | ⟨h1, h2, h3⟩
  · rw [h1] at ht hvA
    rw [h2, Nat.add_zero] at hvA
    rw [ht.one hok hu] at hvA
    exact hvA
  · have hd : (codeOf f p.1).drop (p.2 + 1) = [] := List.drop_eq_nil_of_le (by omega)
    rw [hd]
    show hasB u (v : Int) = true
    rw [((hu.jn hok).has v)]
    refine ⟨(q.1 : Int), h3, ?_⟩
    rw [Int.toNat_natCast]
    have hin : LvS f q.1 (thrS (codeOf f q.1) t) := by
      have h4 : LvQ f 0 (q.1 : Int) 0 (thrS (codeOf f q.1) t) := by
        unfold LvQ
        rw [h2] at hbq
        rw [if_pos (by simpa using hbq)]
        exact ⟨t, by simpa using ht, by simp⟩
      exact h4.inS hok hql.1 (hne q.1 hql.1)
    rw [h2, Nat.add_zero, List.drop_zero] at hvA
    exact (hin.has v).1 hvA
theorem insS_mono {x : InsV} {s t : List Nat} (hs : SetOk s) (ht : SetOk t) (h : ∀ v : Nat, hasB s (v : Int) = true → hasB t (v : Int) = true) : ∀ v : Nat, hasB (insS x s) (v : Int) = true → hasB (insS x t) (v : Int) = true := fun v hv => by
  rw [insS_has hs.2] at hv
  rw [insS_has ht.2]
  rcases hv with ⟨h1, h2⟩ | h1
  · exact .inl ⟨h1, h v h2⟩
  · exact .inr h1
/-- .. and what is asked for at the place, ahead of it. -/
theorem AskI.step {f : FunV} (hok : FlowOk f) {l : List (Nat × Nat)} {j : Nat} {p : Nat × Nat} {c : List InsV} {x : InsV} {s sA sB : List Nat} (h : SetOk s) (hp : l[j]? = some p) (hc : f.blocks[p.1]? = some c) (hx : c[p.2]? = some x) (hA : LvQ f 0 (p.1 : Int) (p.2 : Int) sA) (hB : LvQ f 1 (p.1 : Int) (p.2 : Int) sB) (hs : ∀ v : Nat, hasB s (v : Int) = true → hasB sB (v : Int) = true) : AskI f l j (insS x s) ∧ ∀ v : Nat, hasB (insS x s) (v : Int) = true → hasB sA (v : Int) = true := by
  have e := hA.step hok hc hx hB
  have hm := insS_mono (x := x) h (LvQ.ok hok hB) hs
  refine ⟨⟨?_, fun v hv => ⟨p, sA, hp, hA, by rw [e]; exact hm v hv⟩⟩, fun v hv => by rw [e]; exact hm v hv⟩
  exact thrS_ok (l := [x]) h
end Go.Proofs.YtpccjlgnehghgaaDoor
