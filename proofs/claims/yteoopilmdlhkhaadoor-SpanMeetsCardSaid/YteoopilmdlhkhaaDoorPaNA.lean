/- Layer 5: the blocks that follow one another, in plain lists; the contracts of flow.there, flow.Next and of the reference's Next. Condition: what comes next is there. -/
import Derived.Test.YteoopilmdlhkhaaDoorPaSW
import Derived.Test.YteoopilmdlhkhaaDoorPaSAlive
import Derived.Maps.AppendAt
set_option linter.unusedSimpArgs false
set_option linter.unusedVariables false
namespace Go.Proofs.YteoopilmdlhkhaaDoor
open Go.RowKit

def nextB (b : List InsV) : List Int := match b.getLast? with | some x => nextL x | none => []
def nxt (f : FunV) (k : Nat) : List Int := match f.blocks[k]? with | some b => nextB b | none => []
def nxtI (f : FunV) (z : Int) : List Int := if inB 0 ((f.blocks.length : Int) - 1) z = true then nxt f z.toNat else []
def FlowOk (f : FunV) : Prop := f.blocks.length ≤ 40 ∧ (∀ b ∈ f.blocks, b.length ≤ 40) ∧ ∀ k v, v ∈ nxt f k → 0 ≤ v ∧ v < f.blocks.length
theorem nextL_len (x : InsV) : (nextL x).length ≤ 2 := by unfold nextL; split <;> (try split) <;> simp
theorem nextL_nodup (x : InsV) : (nextL x).Nodup := by
  unfold nextL
  split
  · simp
  · split
    · rename_i h1 h2
      have : x.n ≠ x.m := fun h => h1 (.inr ⟨h2, h⟩)
      simp; omega
    · simp
theorem nxt_len (f : FunV) (k : Nat) : (nxt f k).length ≤ 2 := by
  unfold nxt nextB
  split
  · split
    · exact nextL_len _
    · simp
  · simp
theorem nxt_nodup (f : FunV) (k : Nat) : (nxt f k).Nodup := by
  unfold nxt nextB
  split
  · split
    · exact nextL_nodup _
    · simp
  · simp
theorem nxt_last {f : FunV} {k mp : Nat} {b : List InsV} {x : InsV} (hb : f.blocks[k]? = some b) (hm : b.length = mp + 1) (hx : b[mp]? = some x) : nxt f k = nextL x := by
  unfold nxt nextB
  rw [hb]
  show (match b.getLast? with | some x => nextL x | none => []) = _
  rw [List.getLast?_eq_getElem?, hm, Nat.add_sub_cancel, hx]
theorem nxt_none {f : FunV} {k : Nat} {b : List InsV} (hb : f.blocks[k]? = some b) (hm : b.length = 0) : nxt f k = [] := by
  unfold nxt nextB
  rw [hb, List.eq_nil_of_length_eq_zero hm]
  rfl
theorem nxtI_nat {f : FunV} {k : Nat} (h : k < f.blocks.length) : nxtI f (k : Int) = nxt f k := by
  unfold nxtI
  rw [if_pos (by rw [inB_iff]; omega), Int.toNat_natCast]
set_option maxRecDepth 100000 in
theorem there_any (z : Int) (Ak Ab As : Option Addr) (lk ck lb cb ls cs : Nat) (fp fr : Int) (w : World) :
    Calls Tryd.prog 23 #[.agg #[.slice Ak lk ck, .slice Ab lb cb, .int .i64 fp, .int .i64 fr, .slice As ls cs], .int .i64 z] w fun e w' => e = .returned (.bool (inB 0 ((ls : Int) - 1) z)) ∧ Below w.heap.size w w' := by
  have e : inB 0 ((ls : Int) - 1) z = (decide (0 ≤ z) && decide (z < (ls : Int))) := by
    unfold inB
    rw [Bool.eq_iff_iff]; simp; omega
  rw [e]
  clear e
  by_cases h : 0 ≤ z
  · have hd : decide (0 ≤ z) = true := by simpa using h
    rw [hd]
    go_enter Tryd.func23, Tryd.ntmps23
    go_wp2
    go_ret
    exact ⟨by simp, alloc1 w _⟩
  · have hd : decide (0 ≤ z) = false := by simpa using h
    rw [hd]
    go_enter Tryd.func23, Tryd.ntmps23
    go_wp2
    go_ret
    exact ⟨by simp, alloc1 w _⟩

/-- A function boxed at h: what the closure of flow.Next is told. -/
def FunBox (w : World) (h : Nat) (ls : Nat) : Prop := ∃ Ak Ab As lk ck lb cb cs fp fr, Box w h #[.slice Ak lk ck, .slice Ab lb cb, .int .i64 fp, .int .i64 fr, .slice As ls cs] 34
theorem FunBox.below {w w' : World} {h ls : Nat} (hb : FunBox w h ls) (hw : Below w.heap.size w w') : FunBox w' h ls := by
  obtain ⟨Ak, Ab, As, lk, ck, lb, cb, cs, fp, fr, hx⟩ := hb
  exact ⟨Ak, Ab, As, lk, ck, lb, cb, cs, fp, fr, hx.below hw⟩
set_option maxRecDepth 100000 in
theorem next1_any (z : Int) (h ls : Nat) (w : World) (hb : FunBox w h ls) (hz : inB 0 ((ls : Int) - 1) z = true) :
    Calls Tryd.prog 76 #[.int .i64 z, .pointer (some ⟨h, 0, none⟩)] w fun e w' => e = .returned (.bool false) ∧ Below w.heap.size w w' := by
  obtain ⟨Ak, Ab, As, lk, ck, lb, cb, cs, fp, fr, hx⟩ := hb
  have c0 := (hx.cell 0 (v := .slice Ak lk ck) rfl).1
  have c1 := (hx.cell 1 (v := .slice Ab lb cb) rfl).1
  have c2 := (hx.cell 2 (v := .int .i64 fp) rfl).1
  have c3 := (hx.cell 3 (v := .int .i64 fr) rfl).1
  have c4 := (hx.cell 4 (v := .slice As ls cs) rfl).1
  have hl := hx.lt
  have HT := hide (fun W => (show Calls Tryd.prog 23 #[.agg #[.slice Ak lk ck, .slice Ab lb cb, .int .i64 fp, .int .i64 fr, .slice As ls cs], .int .i64 z] W fun e w' => e = .returned (.bool true) ∧ Below W.heap.size W w' by have h := there_any z Ak Ab As lk ck lb cb ls cs fp fr W; rw [hz] at h; exact h))
  clear hx hz
  go_enter Tryd.func76, Tryd.ntmps76
  go_wp2_with (go_at_call 23; refine (HT.out w).mono ?_; rintro e w1 ⟨rfl, hb1⟩)
  go_ret
  exact ⟨rfl, hb1⟩
set_option maxRecDepth 100000 in
theorem idxFunc_next (zs : List Int) (va : Value) (h ls : Nat) (w : World) (B : Nat) (hB : B ≤ w.heap.size) (hx : IntsV w (· < B) va zs) (hb : FunBox w h ls) (hz : ∀ z ∈ zs, inB 0 ((ls : Int) - 1) z = true) :
    Calls Tryd.prog 82 #[va, .func (.func 76) #[] #[.pointer (some ⟨h, 0, none⟩)]] w fun e w' => e = .returned (.int .i64 (-1)) ∧ Below w.heap.size w w' := by
  have HC := hide (fun (z : Int) (hm : z ∈ zs) (W : World) (hW : Below w.heap.size w W) => next1_any z h ls W (hb.below hW) (hz z hm))
  have HK := hide (fun (W : World) (hW : Below w.heap.size w W) => hx.keep (up hW hB) (fun _ h => h))
  obtain ⟨A, c, rfl, hc, hm⟩ := hx.open'
  obtain ⟨n, hn⟩ : ∃ n, zs.length = n := ⟨_, rfl⟩
  rw [hn] at hc HK ⊢
  have HN := hide hn
  clear hn hx hb hz
  go_enter Tryd.func82, Tryd.ntmps82
  go_wp2
  go_loopw [8] (fun i wr => ∃ k : Nat, k ≤ n ∧ i = .int .i64 k ∧ Below w.heap.size w wr) (fun i _ => n - (intOf i).toNat)
  case atStart => exact ⟨0, Nat.zero_le _, rfl, Below.refl _ _⟩
  case round =>
    obtain ⟨k, hk, rfl, hb⟩ := hrel
    have hsz := hb.size
    have HB := hide hb
    clear hb
    by_cases hlt : k < n
    · obtain ⟨y, hy⟩ : ∃ y, zs[k]? = some y := ⟨_, List.getElem?_eq_getElem (by have := HN.out; omega)⟩
      obtain ⟨b, o, rfl, hbb, e0, hR⟩ := (HK.out wr HB.out).get hy
      have hbs : b < wr.heap.size := by omega
      have HY := hide (List.mem_of_getElem? hy)
      clear hy
      go_wp2_with (go_at_call 76; refine (HC.out _ HY.out wr HB.out).mono ?_; rintro e w3 ⟨rfl, hb3⟩)
      go_roundw
      case rel => exact ⟨k + 1, by omega, by go_num, HB.out.trans (hb3.mono hsz)⟩
      case measure => simp [intOf]; omega
    · go_wp2
      go_ret
      exact ⟨rfl, HB.out⟩
set_option maxRecDepth 100000 in
theorem delFunc_next (zs : List Int) (va : Value) (h ls : Nat) (w : World) (B : Nat) (hB : B ≤ w.heap.size) (hx : IntsV w (· < B) va zs) (hb : FunBox w h ls) (hz : ∀ z ∈ zs, inB 0 ((ls : Int) - 1) z = true) :
    Calls Tryd.prog 77 #[va, .func (.func 76) #[] #[.pointer (some ⟨h, 0, none⟩)]] w fun e w' => e = .returned va ∧ Below w.heap.size w w' := by
  have HI := hide (idxFunc_next zs va h ls w B hB hx hb hz)
  obtain ⟨A, c, rfl, hc, hm⟩ := hx.open'
  generalize zs.length = n at *
  clear hx hb hz
  go_enter Tryd.func77, Tryd.ntmps77
  go_wp2_with (go_at_call 82; refine HI.out.mono ?_; rintro e w3 ⟨rfl, hb3⟩)
  go_ret
  exact ⟨rfl, hb3⟩
end Go.Proofs.YteoopilmdlhkhaaDoor
namespace Go.Proofs.YteoopilmdlhkhaaDoor
open Go.RowKit

theorem Sl.vec {w : World} {B c : Nat} {A : Option Addr} {zs : List Int} (h : Sl w B .i64 A zs) (hc : zs.length ≤ c) (hm : c ≤ 9223372036854775807) (hr : ∀ z ∈ zs, i64R z) : IntsV w (· < B) (.slice A zs.length c) zs := by
  refine ⟨A, c, rfl, hc, hm, fun hp => ?_⟩
  obtain ⟨b, o, e2, hb, hcc⟩ := h hp
  refine ⟨b, o, e2, hb, fun j x hj => ⟨?_, hr x (List.mem_of_getElem? hj)⟩⟩
  have := hcc j (List.getElem?_eq_some_iff.1 hj).1
  rw [Nat.mul_one, this]
  simp [List.getD, hj]
theorem nxt_R {f : FunV} (hok : FlowOk f) (k : Nat) : ∀ z ∈ nxt f k, i64R z := fun z hz => by have := hok.2.2 k z hz; have := hok.1; unfold i64R; omega
theorem nxtI_out {f : FunV} {z : Int} (h : inB 0 ((f.blocks.length : Int) - 1) z = false) : nxtI f z = [] := by unfold nxtI; rw [h]; rfl
end Go.Proofs.YteoopilmdlhkhaaDoor
namespace Go.Proofs.YteoopilmdlhkhaaDoor
open Go.RowKit

def eCells (es : List (Int × Int)) : List Value := es.flatMap (fun p => [Value.int .i64 p.1, Value.int .i64 p.2])
theorem eCells_app (es : List (Int × Int)) (p : Int × Int) : eCells (es ++ [p]) = eCells es ++ [Value.int .i64 p.1, Value.int .i64 p.2] := by simp [eCells]
theorem eCells_get : ∀ (es : List (Int × Int)) (j : Nat) (p : Int × Int), es[j]? = some p → (eCells es)[j * 2]? = some (.int .i64 p.1) ∧ (eCells es)[j * 2 + 1]? = some (.int .i64 p.2)
  | [], j, p, h => by cases h
  | q :: es, 0, p, h => by
    simp at h; subst h
    exact ⟨rfl, rfl⟩
  | q :: es, j + 1, p, h => by
    have ih := eCells_get es j p (by simpa using h)
    have e : eCells (q :: es) = [Value.int .i64 q.1, Value.int .i64 q.2] ++ eCells es := rfl
    rw [e, List.getElem?_append_right (by simp; omega), List.getElem?_append_right (by simp; omega)]
    have e1 : (j + 1) * 2 - [Value.int .i64 q.1, Value.int .i64 q.2].length = j * 2 := by simp; omega
    have e2 : (j + 1) * 2 + 1 - [Value.int .i64 q.1, Value.int .i64 q.2].length = j * 2 + 1 := by simp; omega
    rw [e1, e2]
    exact ih
/-- The slice value v is the call's own, from block 'base' on, and holds the edges es. -/
def OwE (w : World) (base : Nat) (v : Value) (es : List (Int × Int)) : Prop := w.ownsRow base 144 2 v es.length (eCells es)
/-- The slice whose address is A holds the edges es, in a block below B. -/
def EdgS (w : World) (B : Nat) (A : Option Addr) (es : List (Int × Int)) : Prop :=
  0 < es.length → ∃ b o, A = some ⟨b, o, none⟩ ∧ b < B ∧ ∀ (j : Nat) (p : Int × Int), es[j]? = some p → w.cell? ⟨b, o + j * 2, none⟩ = some (.int .i64 p.1) ∧ w.cell? ⟨b, o + j * 2 + 1, none⟩ = some (.int .i64 p.2)
section
variable {w w' : World} {base B B' : Nat} {v : Value} {A : Option Addr} {es : List (Int × Int)}
theorem OwE.nil (w : World) (base : Nat) : OwE w base (.slice none 0 0) [] := World.ownsRow_nil _ _ _ _
theorem OwE.lower (h : OwE w base v es) {b : Nat} (hb : b ≤ base) : OwE w b v es := by
  refine ⟨h.1, ?_⟩
  rcases h.2 with h2 | ⟨g, cap, cur, hv, hg, r⟩
  · exact .inl h2
  · exact .inr ⟨g, cap, cur, hv, by omega, r⟩
theorem OwE.below (h : OwE w base v es) (hb : Below w.heap.size w w') : OwE w' base v es := by
  refine ⟨h.1, ?_⟩
  rcases h.2 with h2 | ⟨g, cap, cur, hv, hg, hh, r⟩
  · exact .inl h2
  · exact .inr ⟨g, cap, cur, hv, hg, (hb.block g (Array.getElem?_eq_some_iff.1 hh).1).trans hh, r⟩
theorem OwE.sl (h : OwE w base v es) : ∃ A c, v = .slice A es.length c ∧ es.length ≤ c ∧ c ≤ maxLen ∧ EdgS w w.heap.size A es := by
  rcases h.2 with ⟨rfl, h0⟩ | ⟨g, cap, cur, rfl, hg, hh, hnc, hcm, hsz, htake⟩
  · have hz : es = [] := List.eq_nil_of_length_eq_zero h0
    subst hz
    exact ⟨none, 0, rfl, Nat.le_refl _, by simp [maxLen], fun h => absurd h (by simp)⟩
  · refine ⟨_, _, rfl, hnc, hcm, fun hp => ⟨g, 0, rfl, (Array.getElem?_eq_some_iff.1 hh).1, fun j p hj => ?_⟩⟩
    have hjl := (List.getElem?_eq_some_iff.1 hj).1
    obtain ⟨h1, h2⟩ := eCells_get es j p hj
    rw [Nat.zero_add, World.ownsRow.cellAt h (j * 2) (by omega), World.ownsRow.cellAt h (j * 2 + 1) (by omega)]
    exact ⟨h1, h2⟩
theorem EdgS.below (h : EdgS w B A es) (hb : Below B w w') : EdgS w' B A es := fun hp => by
  obtain ⟨b, o, e, hbb, hc⟩ := h hp
  exact ⟨b, o, e, hbb, fun j p hj => ⟨(hb.cell (p := ⟨b, o + j * 2, none⟩) hbb).trans (hc j p hj).1, (hb.cell (p := ⟨b, o + j * 2 + 1, none⟩) hbb).trans (hc j p hj).2⟩⟩
theorem EdgS.more (h : EdgS w B A es) (hB : B ≤ B') : EdgS w B' A es := fun hp => by
  obtain ⟨b, o, e, hb, hc⟩ := h hp
  exact ⟨b, o, e, by omega, hc⟩
end
theorem info_edge : (Tryd.prog.info? 144).map (fun i => (i.zero, i.size, i.bytes)) = some (some (.agg #[.int .i64 0, .int .i64 0]), 2, 16) := by kernel_rfl
/-- append(v, Edge{a, b}), v the call's own. -/
theorem wpList_append_edge {P : Program} (w : World) {ops : Array Oper} {rest : List Oper} {o : Oper} {a : Act} {Q : Exit → Act → World → Prop} (hgd : o.guard = none) (s x : Operand) (t : TypeId)
    (ho : o.op = .call { callee := .builtin .append, args := #[s, x], argTypes := #[t, t] })
    (base : Nat) (i : TypeInfo) (z : Value) (ht : P.underlying t = some (.slice 144)) (hi : P.info? 144 = some i) (hz : i.zero = some z)
    (hsize : i.size = 2) (hby : i.bytes = 16) (hzs : z.cells.size = 2)
    (v : Value) (es : List (Int × Int)) (hs : a.eval s = v) (hown : OwE w base v es) (y1 y2 : Int)
    (hx : a.eval x = .slice (some ⟨w.heap.size, 0, none⟩) 1 1)
    (hroom : es.length < 1000000) (hbase : base ≤ w.heap.size)
    (h : ∀ v' w', OwE w' base v' (es ++ [(y1, y2)]) → Below base w w' → (∀ p : Addr, p.block < w.heap.size → some p.block ≠ v.ownBlock → w'.cell? p = w.cell? p) → (v'.ownBlock = v.ownBlock ∨ v'.ownBlock = some (w.heap.size + 1)) → wpList P ops Q rest (a.put o.dst v') w') :
    wpList P ops Q (o :: rest) a (w.alloc (.cells #[.int .i64 y1, .int .i64 y2] 144)) := by
  refine wpList_plain hgd fun K hK => ?_
  have hown' : (w.alloc (.cells #[.int .i64 y1, .int .i64 y2] 144)).ownsRow base 144 2 v es.length (eCells es) := World.ownsRow.alloc hown _
  obtain ⟨v', w', hrun, h2, h3, -, h5⟩ := run_append_own_at (P := P) (w.alloc (.cells #[.int .i64 y1, .int .i64 y2] 144)) base t o.type 144 i z 2 16 ht hi hz hsize hby hzs (by omega) v es.length (eCells es) hown'
    ⟨w.heap.size, 0, none⟩ 1 1 [.int .i64 y1, .int .i64 y2] rfl
    (fun j u hu => by
      rw [Addr.add_lit, cell_of_row (w.alloc (.cells #[.int .i64 y1, .int .i64 y2] 144)) w.heap.size (0 + j) _ _ (0, 0) (heap_alloc_new w _), Nat.zero_add, ← Array.getElem?_toList]
      exact hu) (by intro u hu; simp at hu; rcases hu with rfl | rfl <;> rfl) (by simp only [maxLen]; omega) (by omega) (by simp only [World.size_alloc]; omega)
  unfold Oper.wp execOp
  simp only [ho, resolve, invoke, builtin, Sem.run_bind, Sem.run_pure, Result.andThen_ok, List.map_toArray, List.map_cons, List.map_nil, hs, hx, hrun]
  refine hK _ _ (h v' w' ?_ ?_ ?_ ?_)
  · unfold OwE
    rw [eCells_app, List.length_append]
    exact h2
  · exact ((Below.refl _ _).alloc hbase _).grown h3 (by simp only [World.size_alloc]; omega) fun g hg => (World.ownsRow.lt hown g hg).1
  · intro p hp hne
    rw [World.cell?_of_block (h3.block p.block (by simp only [World.size_alloc]; omega) hne), World.cell?_alloc_lt w _ p hp]
  · simpa only [World.size_alloc] using h5

def edgesTo (f : FunV) (k : Nat) : List (Int × Int) := (List.range k).flatMap (fun i => (nxt f i).map (fun v => ((i : Int), v)))
def edgesN (f : FunV) : List (Int × Int) := edgesTo f f.blocks.length
def edgesIn (f : FunV) (k j : Nat) : List (Int × Int) := edgesTo f k ++ ((nxt f k).take j).map (fun v => ((k : Int), v))
theorem edgesIn_zero (f : FunV) (k : Nat) : edgesIn f k 0 = edgesTo f k := by simp [edgesIn]
theorem edgesIn_all {f : FunV} {k j : Nat} (h : (nxt f k).length ≤ j) : edgesIn f k j = edgesTo f (k + 1) := by
  unfold edgesIn edgesTo
  rw [List.take_of_length_le h, List.range_succ, List.flatMap_append]
  simp
theorem edgesIn_step {f : FunV} {k j : Nat} {v : Int} (h : (nxt f k)[j]? = some v) : edgesIn f k j ++ [((k : Int), v)] = edgesIn f k (j + 1) := by
  unfold edgesIn
  rw [List.append_assoc, List.take_add_one, h]
  simp
theorem edgesTo_len (f : FunV) (k : Nat) : (edgesTo f k).length ≤ 2 * k := by
  induction k with
  | zero => simp [edgesTo]
  | succ k ih =>
    rw [← edgesIn_all (Nat.le_refl _)]
    unfold edgesIn
    rw [List.length_append, List.length_map, List.take_length]
    have := nxt_len f k
    omega
theorem edgesIn_len (f : FunV) (k j : Nat) : (edgesIn f k j).length ≤ 2 * k + 2 := by
  unfold edgesIn
  rw [List.length_append, List.length_map]
  have h1 := edgesTo_len f k
  have h2 := nxt_len f k
  have h3 : ((nxt f k).take j).length ≤ (nxt f k).length := List.length_take_le' _ _
  omega
end Go.Proofs.YteoopilmdlhkhaaDoor
namespace Go.Proofs.YteoopilmdlhkhaaDoor
open Go.RowKit

set_option maxRecDepth 100000 in
theorem nextN_any (x : InsV) (A : Option Addr) (n c : Nat) (w : World) :
    Calls Tryd.prog 78 #[.agg #[.int .i64 x.op, .int .i64 x.d, .int .i64 x.a, .int .i64 x.b, .int .i64 x.n, .int .i64 x.m, .slice A n c]] w fun e w' => ∃ A' c', e = .returned (.slice A' (nextL x).length c') ∧ Sl w' w'.heap.size .i64 A' (nextL x) ∧ (nextL x).length ≤ c' ∧ c' ≤ 2 ∧ (∀ b o, A' = some ⟨b, o, none⟩ → w.heap.size ≤ b) ∧ Below w.heap.size w w' := by
  by_cases h21 : x.op = 21
  · have hv := hide (show nextL x = [x.n] by unfold nextL; rw [if_pos (.inl h21)])
    rw [h21]
    clear h21
    go_enter Tryd.func78, Tryd.ntmps78
    go_wp2
    go_ret
    refine ⟨some ⟨w.heap.size + 1, 0, none⟩, 1, by rw [hv.out]; rfl, ?_, by rw [hv.out]; exact Nat.le_refl _, by omega, fun b o h => (by cases h; omega), (alloc1 w _).alloc (by simp) _⟩
    rw [hv.out]
    have h := fun o => Sl.lit (w.alloc o) 3 .i64 #[.int .i64 x.n] [x.n] rfl
    simp only [World.size_alloc] at h
    exact (h _).more (by simp only [World.size_alloc]; omega)
  · have b21 : (x.op == 21) = false := by simpa using h21
    by_cases h22 : x.op = 22
    · by_cases hnm : x.n = x.m
      · have hv := hide (show nextL x = [x.n] by unfold nextL; rw [if_pos (.inr ⟨h22, hnm⟩)])
        rw [h22] at b21 ⊢
        rw [← hnm]
        clear h22 h21 hnm
        go_enter Tryd.func78, Tryd.ntmps78
        go_wp2
        go_ret
        refine ⟨some ⟨w.heap.size + 1, 0, none⟩, 1, by rw [hv.out]; rfl, ?_, by rw [hv.out]; exact Nat.le_refl _, by omega, fun b o h => (by cases h; omega), (alloc1 w _).alloc (by simp) _⟩
        rw [hv.out]
        have h := fun o => Sl.lit (w.alloc o) 3 .i64 #[.int .i64 x.n] [x.n] rfl
        simp only [World.size_alloc] at h
        exact (h _).more (by simp only [World.size_alloc]; omega)
      · have hv := hide (show nextL x = [min x.n x.m, max x.n x.m] by unfold nextL; rw [if_neg (by omega), if_pos h22])
        have bnm : (x.n == x.m) = false := by simpa using hnm
        rw [h22] at b21 ⊢
        clear h22 h21 hnm
        go_enter Tryd.func78, Tryd.ntmps78
        go_wp2
        go_ret
        refine ⟨some ⟨w.heap.size + 1, 0, none⟩, 2, by rw [hv.out]; rfl, ?_, by rw [hv.out]; exact Nat.le_refl _, by omega, fun b o h => (by cases h; omega), (alloc1 w _).alloc (by simp) _⟩
        rw [hv.out]
        have h := fun o => Sl.lit (w.alloc o) 3 .i64 #[.int .i64 (min x.n x.m), .int .i64 (max x.n x.m)] [min x.n x.m, max x.n x.m] rfl
        simp only [World.size_alloc] at h
        exact (h _).more (by simp only [World.size_alloc]; omega)
    · have hv := hide (show nextL x = [] by unfold nextL; rw [if_neg (by omega), if_neg h22])
      have b22 : (x.op == 22) = false := by simpa using h22
      clear h22 h21
      go_enter Tryd.func78, Tryd.ntmps78
      go_wp2
      go_ret
      exact ⟨none, 0, by rw [hv.out]; rfl, by rw [hv.out]; exact Sl.nil _ _ _ _, by rw [hv.out]; exact Nat.le_refl _, by omega, fun b o h => (by cases h), alloc1 w _⟩

set_option maxHeartbeats 1000000 in
set_option maxRecDepth 100000 in
theorem fnextN_any (vk vb vs : Value) (f : FunV) (z : Int) (w : World) (B : Nat) (hB : B ≤ w.heap.size) (hi : FunI w (· < B) vk vb vs f) (hok : FlowOk f) :
    Calls Tryd.prog 62 #[.agg #[vk, vb, .int .i64 f.params, .int .i64 f.result, vs], .int .i64 z] w fun e w' => ∃ A c, e = .returned (.slice A (nxtI f z).length c) ∧ Sl w' w'.heap.size .i64 A (nxtI f z) ∧ (nxtI f z).length ≤ c ∧ c ≤ 2 ∧ (∀ b o, A = some ⟨b, o, none⟩ → w.heap.size ≤ b) ∧ Below w.heap.size w w' := by
  obtain ⟨Ak, ck, rfl, hck, hmk⟩ := hi.1.open'
  obtain ⟨Ab, cb, rfl, hcb, hmb⟩ := hi.2.1.open'
  obtain ⟨As, cs, rfl, hcs, hms⟩ := hi.2.2.1.open'
  have HBK := hide (fun (W : World) (hW : Below w.heap.size w W) => hi.2.2.1.keep (up hW hB) (fun _ h => h))
  by_cases hin : inB 0 ((f.blocks.length : Int) - 1) z = true
  case neg =>
    have hin' := Bool.eq_false_iff.2 hin
    rw [nxtI_out hin']
    obtain ⟨ls, hls⟩ : ∃ ls, f.blocks.length = ls := ⟨_, rfl⟩
    rw [hls] at hin' ⊢
    generalize f.kinds.length = lk, f.base.length = lb, f.params = fp, f.result = fr at *
    have HT := hide (fun W => (show Calls Tryd.prog 23 #[.agg #[.slice Ak lk ck, .slice Ab lb cb, .int .i64 fp, .int .i64 fr, .slice As ls cs], .int .i64 z] W fun e w' => e = .returned (.bool false) ∧ Below W.heap.size W w' by have h := there_any z Ak Ab As lk ck lb cb ls cs fp fr W; rw [hin'] at h; exact h))
    clear hin hin' hi hls hcs hck hcb
    go_enter Tryd.func62, Tryd.ntmps62
    go_wp2_with (go_at_call 23; refine (HT.out _).mono ?_; rintro e w1 ⟨rfl, hb1⟩)
    go_ret
    exact ⟨none, 0, rfl, Sl.nil _ _ _ _, Nat.le_refl _, by omega, fun b o h => (by cases h), (alloc1 w _).trans (hb1.mono (by simp))⟩
  have hin2 := inB_iff.1 hin
  obtain ⟨k, hk⟩ : ∃ k : Nat, z = k := ⟨z.toNat, by omega⟩
  subst hk
  obtain ⟨ls, hls⟩ : ∃ ls, f.blocks.length = ls := ⟨_, rfl⟩
  obtain ⟨x, hx⟩ : ∃ x, f.blocks[k]? = some x := ⟨_, List.getElem?_eq_getElem (by omega)⟩
  rw [nxtI_nat (by omega)]
  have hxm := hok.2.1 x (List.mem_of_getElem? hx)
  have HNR := hide (nxt_R hok k)
  have HNI := hide (show ∀ v ∈ nxt f k, inB 0 ((f.blocks.length : Int) - 1) v = true from fun v hv => by have := hok.2.2 k v hv; rw [inB_iff]; omega)
  have hlen := nxt_len f k
  have HX := hide hx
  have HNM := hide (fun (mp : Nat) (u : InsV) (h1 : x.length = mp + 1) (h2 : x[mp]? = some u) => nxt_last hx h1 h2)
  have HN0 := hide (fun (h1 : x.length = 0) => nxt_none hx h1)
  rw [hls] at hin hin2 HNI HBK hcs ⊢
  obtain ⟨nx, hnx⟩ : ∃ nx, nxt f k = nx := ⟨_, rfl⟩
  rw [hnx] at HNR HNI HNM HN0 hlen ⊢
  obtain ⟨nl, hnl'⟩ : ∃ nl, nx.length = nl := ⟨_, rfl⟩
  have HNL := hide hnl'
  rw [hnl'] at hlen ⊢
  clear hnl'
  generalize f.kinds.length = lk, f.base.length = lb, f.params = fp, f.result = fr at *
  have HT := hide (fun W => (show Calls Tryd.prog 23 #[.agg #[.slice Ak lk ck, .slice Ab lb cb, .int .i64 fp, .int .i64 fr, .slice As ls cs], .int .i64 (k : Int)] W fun e w' => e = .returned (.bool true) ∧ Below W.heap.size W w' by have h := there_any (k : Int) Ak Ab As lk ck lb cb ls cs fp fr W; rw [hin] at h; exact h))
  have hkl : k < ls := by omega
  clear hin hin2 hi hls hnx hx hok hck hcb
  go_enter Tryd.func62, Tryd.ntmps62
  go_upto_region 1 with (fail)
  obtain ⟨w1, hw1⟩ : ∃ w1, w1 = w.alloc (.cells #[.slice Ak lk ck, .slice Ab lb cb, .int .i64 fp, .int .i64 fr, .slice As ls cs] 34) := ⟨_, rfl⟩
  have HX1 := hide (show Box w1 w.heap.size #[.slice Ak lk ck, .slice Ab lb cb, .int .i64 fp, .int .i64 fr, .slice As ls cs] 34 by rw [hw1]; exact Box.new w _ _)
  have HB1 := hide (show Below w.heap.size w w1 by rw [hw1]; exact alloc1 w _)
  rw [← hw1]
  clear hw1
  have l1 := HX1.out.lt
  have c0 := (HX1.out.cell 0 (v := .slice Ak lk ck) rfl).1
  have c1 := (HX1.out.cell 1 (v := .slice Ab lb cb) rfl).1
  have c2 := (HX1.out.cell 2 (v := .int .i64 fp) rfl).1
  have c3 := (HX1.out.cell 3 (v := .int .i64 fr) rfl).1
  have c4 := (HX1.out.cell 4 (v := .slice As ls cs) rfl).1
  have hki : (0 : Int) ≤ (k : Int) := by omega
  have hkli : (k : Int) < (ls : Int) := by omega
  obtain ⟨m, hm⟩ : ∃ m, x.length = m := ⟨_, rfl⟩
  rw [hm] at HNM HN0 hxm
  by_cases hm0 : m = 0
  · obtain ⟨b1, o1, A1, c1', hA1, hbb1, g0, -⟩ := (HBK.out w1 HB1.out).get HX.out
    rw [hm] at g0
    have hbs : b1 < w1.heap.size := by have := HB1.out.size; omega
    have hnil := HN0.out hm0
    subst hA1
    subst hm0
    subst hnil
    have hnl0 : nl = 0 := by have := HNL.out; simpa using this.symm
    subst hnl0
    clear hm
    go_wp2_with (go_at_call 23; refine (HT.out w1).mono ?_; rintro e w2 ⟨rfl, hb2⟩; have y4 := (hb2.cell (p := ⟨w.heap.size, 4, none⟩) l1).trans c4; have z0 := (hb2.cell (p := ⟨b1, o1 + k, none⟩) hbs).trans g0)
    go_ret
    exact ⟨none, 0, rfl, Sl.nil _ _ _ _, Nat.le_refl _, by omega, fun b o h => (by cases h), HB1.out.trans (hb2.mono HB1.out.size)⟩
  obtain ⟨mp, hmp⟩ : ∃ mp, m = mp + 1 := ⟨m - 1, by omega⟩
  obtain ⟨u, hu⟩ : ∃ u, x[mp]? = some u := ⟨_, List.getElem?_eq_getElem (by omega)⟩
  have HXI := hide (fun (W : World) (hW : Below w.heap.size w W) => (HBK.out W hW).get HX.out)
  obtain ⟨b1, o1, A1, c1', hA1, hbb1, g0, hx1⟩ := HXI.out w1 HB1.out
  obtain ⟨b2, o2, A2, c2', hA2, hbb2, ⟨i0, i1, i2, i3, i4, i5, i6⟩, -⟩ := hx1.get hu
  rw [hm] at g0
  have hnl := HNM.out mp u hmp hu
  have hbs1 : b1 < w1.heap.size := by have := HB1.out.size; omega
  have hbs2 : b2 < w1.heap.size := by have := HB1.out.size; omega
  have HNX := hide (fun (W : World) => nextN_any u A2 u.args.length c2' W)
  rw [← hnl] at HNX
  subst hA1
  subst hA2
  have hd1 : ((m : Int) == 0) = false := by simp; omega
  have hwr : IntKind.i64.wrap ((m : Int) - 1) = (mp : Int) := by rw [show (m : Int) - 1 = (mp : Int) by omega]; exact IntWalk.i64_in _ ⟨by omega, by omega⟩
  have hmm : mp < m := by omega
  have hmi : (0 : Int) ≤ (mp : Int) := by omega
  have hml : (mp : Int) < (m : Int) := by omega
  have HI7 := hide (fun (W : World) (hW : Below w1.heap.size w1 W) => And.intro ((hW.cell (p := ⟨b2, o2 + mp * 7, none⟩) hbs2).trans i0) (And.intro ((hW.cell (p := ⟨b2, o2 + mp * 7 + 1, none⟩) hbs2).trans i1) (And.intro ((hW.cell (p := ⟨b2, o2 + mp * 7 + 2, none⟩) hbs2).trans i2) (And.intro ((hW.cell (p := ⟨b2, o2 + mp * 7 + 3, none⟩) hbs2).trans i3) (And.intro ((hW.cell (p := ⟨b2, o2 + mp * 7 + 4, none⟩) hbs2).trans i4) (And.intro ((hW.cell (p := ⟨b2, o2 + mp * 7 + 5, none⟩) hbs2).trans i5) ((hW.cell (p := ⟨b2, o2 + mp * 7 + 6, none⟩) hbs2).trans i6)))))))
  rw [HNL.out] at HNX
  generalize u.args.length = la at *
  generalize u.op = xop, u.d = xd, u.a = xa, u.b = xb, u.n = xn, u.m = xm at *
  clear hx1 hu hnl hm hmp i0 i1 i2 i3 i4 i5 i6 hm0
  go_upto_region 3 with (go_at_call 23; refine (HT.out w1).mono ?_; rintro e w2 ⟨rfl, hb2⟩; have y4 := (hb2.cell (p := ⟨w.heap.size, 4, none⟩) l1).trans c4; have z0 := (hb2.cell (p := ⟨b1, o1 + k, none⟩) hbs1).trans g0)
  obtain ⟨i0, i1, i2, i3, i4, i5, i6⟩ := HI7.out w2 hb2
  have hz2 := hb2.size
  have hbs1' : b1 < w2.heap.size := by omega
  have hbs2' : b2 < w2.heap.size := by omega
  have l2 : w.heap.size < w2.heap.size := by omega
  have HB2 := hide (HB1.out.trans (hb2.mono HB1.out.size))
  have HX2 := hide (HX1.out.below hb2)
  clear hb2 c0 c1 c2 c3 c4 g0
  go_wp2_with (first
    | (go_at_call 77; refine (HD3.out).mono ?_; rintro e w4 ⟨rfl, hb4⟩)
    | (go_at_call 78; refine (HNX.out w2).mono ?_; rintro e w3 ⟨A3, c3, rfl, hs3, hl3, hm3, hn3, hb3⟩; have HD3 := hide (delFunc_next nx (.slice A3 nl c3) w.heap.size ls w3 w3.heap.size (Nat.le_refl _) (by rw [← HNL.out]; exact hs3.vec (by rw [HNL.out]; exact hl3) (by omega) HNR.out) ⟨_, _, _, _, _, _, _, _, _, _, HX2.out.below hb3⟩ HNI.out); have HB3 := hide (HB2.out.trans (hb3.mono HB2.out.size)); have HS3 := hide hs3; have HN3 := hide (fun b o h => Nat.le_trans HB2.out.size (hn3 b o h)); clear hb3 hs3 hn3))
  go_ret
  exact ⟨A3, c3, rfl, (HS3.out.below hb4).more hb4.size, hl3, hm3, HN3.out, HB3.out.trans (hb4.mono HB3.out.size)⟩
end Go.Proofs.YteoopilmdlhkhaaDoor
namespace Go.Proofs.YteoopilmdlhkhaaDoor
open Go.RowKit

end Go.Proofs.YteoopilmdlhkhaaDoor
namespace Go.Proofs.YteoopilmdlhkhaaDoor
open Go.RowKit

theorem Sl.far {w w' : World} {B : Nat} {k : IntKind} {A : Option Addr} {zs : List Int} {own : Option Nat} (h : Sl w B k A zs) (hf : ∀ b o, A = some ⟨b, o, none⟩ → some b ≠ own) (hk : ∀ p : Addr, p.block < B → some p.block ≠ own → w'.cell? p = w.cell? p) : Sl w' B k A zs := fun hp => by
  obtain ⟨b, o, e, hb, hc⟩ := h hp
  exact ⟨b, o, e, hb, fun j hj => (hk _ hb (hf b o e)).trans (hc j hj)⟩
theorem OwE.lt {w : World} {base : Nat} {v : Value} {es : List (Int × Int)} (h : OwE w base v es) : ∀ k, v.ownBlock = some k → k < w.heap.size := fun k hk => (World.ownsRow.lt h k hk).2
set_option maxHeartbeats 1000000 in
set_option maxRecDepth 100000 in
theorem fedges_any (vk vb vs : Value) (f : FunV) (w : World) (B : Nat) (hB : B ≤ w.heap.size) (hi : FunI w (· < B) vk vb vs f) (hok : FlowOk f) :
    Calls Tryd.prog 92 #[.agg #[vk, vb, .int .i64 f.params, .int .i64 f.result, vs]] w fun e w' => ∃ v, e = .returned v ∧ OwE w' w.heap.size v (edgesN f) ∧ Below w.heap.size w w' := by
  obtain ⟨Ak, ck, rfl, hck, hmk⟩ := hi.1.open'
  obtain ⟨Ab, cb, rfl, hcb, hmb⟩ := hi.2.1.open'
  obtain ⟨As, cs, rfl, hcs, hms⟩ := hi.2.2.1.open'
  obtain ⟨i0, hi0, iz0, iz1, iz2⟩ := info_parts info_edge
  have HI := hide hi0
  clear hi0
  have HNX := hide (fun (W : World) (hW : Below w.heap.size w W) (k : Nat) (hk : k < f.blocks.length) => (show Calls Tryd.prog 62 #[.agg #[.slice Ak f.kinds.length ck, .slice Ab f.base.length cb, .int .i64 f.params, .int .i64 f.result, .slice As f.blocks.length cs], .int .i64 (k : Int)] W fun e w' => ∃ A c, e = .returned (.slice A (nxt f k).length c) ∧ Sl w' w'.heap.size .i64 A (nxt f k) ∧ (nxt f k).length ≤ c ∧ c ≤ 2 ∧ (∀ b o, A = some ⟨b, o, none⟩ → W.heap.size ≤ b) ∧ Below W.heap.size W w' by
    have h := fnextN_any _ _ _ f (k : Int) W B (by have := hW.size; omega) (hi.keep (up hW hB) (fun _ h => h)) hok
    rw [nxtI_nat hk] at h
    exact h))
  have hls40 := hok.1
  have HED := hide (show edgesTo f f.blocks.length = edgesN f from rfl)
  obtain ⟨ls, hls⟩ : ∃ ls, f.blocks.length = ls := ⟨_, rfl⟩
  rw [hls] at HNX hls40 HED hcs ⊢
  generalize edgesN f = en at *
  generalize f.kinds.length = lk, f.base.length = lb, f.params = fp, f.result = fr at *
  clear hi hok hls
  go_enter Tryd.func92, Tryd.ntmps92
  go_upto_region 1 with (fail)
  obtain ⟨w1, hw1⟩ : ∃ w1, w1 = w.alloc (.cells #[.slice Ak lk ck, .slice Ab lb cb, .int .i64 fp, .int .i64 fr, .slice As ls cs] 34) := ⟨_, rfl⟩
  have HX1 := hide (show Box w1 w.heap.size #[.slice Ak lk ck, .slice Ab lb cb, .int .i64 fp, .int .i64 fr, .slice As ls cs] 34 by rw [hw1]; exact Box.new w _ _)
  have HB1 := hide (show Below w.heap.size w w1 by rw [hw1]; exact alloc1 w _)
  rw [← hw1]
  clear hw1
  have l1 := HX1.out.lt
  have c4 := (HX1.out.cell 4 (v := .slice As ls cs) rfl).1
  go_wp2
  go_loopw [3, 10] (fun l i wr => ∃ (v : Value) (k : Nat), v = l ∧ k ≤ ls ∧ i = .int .i64 k ∧ Below w1.heap.size w1 wr ∧ Hid (OwE wr w1.heap.size v (edgesTo f k))) (fun _ i _ => ls - (intOf i).toNat)
  case atStart => exact ⟨_, 0, rfl, Nat.zero_le _, rfl, Below.refl _ _, hide (OwE.nil _ _)⟩
  case round =>
    obtain ⟨v, k, rfl, hk, rfl, hb, how⟩ := hrel
    obtain ⟨wo, rfl⟩ : ∃ wo, wo = wr := ⟨_, rfl⟩
    have hsz := hb.size
    have HBW := hide hb
    have HBEL := hide (HB1.out.trans (hb.mono HB1.out.size))
    have HXO := hide (HX1.out.below hb)
    clear hb
    by_cases hlt : k < ls
    case neg =>
      obtain rfl : k = ls := by omega
      have HO := hide (show OwE wo w.heap.size v en by rw [← HED.out]; exact how.out.lower HB1.out.size)
      go_wp2
      go_ret
      exact ⟨_, rfl, HO.out, HBEL.out⟩
    clear c4
    have c0 := (HXO.out.cell 0 (v := .slice Ak lk ck) rfl).1
    have c1 := (HXO.out.cell 1 (v := .slice Ab lb cb) rfl).1
    have c2 := (HXO.out.cell 2 (v := .int .i64 fp) rfl).1
    have c3 := (HXO.out.cell 3 (v := .int .i64 fr) rfl).1
    have c4 := (HXO.out.cell 4 (v := .slice As ls cs) rfl).1
    have lo := HXO.out.lt
    have HNK := hide (HNX.out wo HBEL.out k hlt)
    have hnl2 := nxt_len f k
    have HE0 := hide (edgesIn_zero f k)
    have HEA := hide (fun j (h : (nxt f k).length ≤ j) => edgesIn_all h)
    have HES := hide (fun j (v : Int) (h : (nxt f k)[j]? = some v) => edgesIn_step h)
    have HEL := hide (fun j => edgesIn_len f k j)
    obtain ⟨nx, hnx⟩ : ∃ nx, nxt f k = nx := ⟨_, rfl⟩
    rw [hnx] at HNK hnl2 HEA HES
    obtain ⟨nl, hnl⟩ : ∃ nl, nx.length = nl := ⟨_, rfl⟩
    rw [hnl] at HNK hnl2 HEA
    have HNL := hide hnl
    have hlt' := how.out.lt
    have HLT := hide hlt'
    clear hnx hnl hlt'
    go_wp2_with (go_at_call 62; refine HNK.out.mono ?_; rintro e w3 ⟨A3, c3', rfl, hs3, hl3, hm3, hn3, hb3⟩; have hz3 := hb3.size; have HS3 := hide hs3; have HN3 := hide hn3; have HO3 := hide (how.out.below hb3); have HC3 := hide (HBW.out.trans (hb3.mono hsz)); clear hb3 hs3 hn3)
    clear c0 c1 c2 c3 c4
    go_loopw [3, 17] (fun l' i wr => ∃ (v : Value) (j : Nat), v = l' ∧ j ≤ nl ∧ i = .int .i64 j ∧ Below w1.heap.size w1 wr ∧ w3.heap.size ≤ wr.heap.size ∧ Hid (OwE wr w1.heap.size v (edgesIn f k j)) ∧ Hid (Sl wr w3.heap.size .i64 A3 nx) ∧ Hid (∀ b o, A3 = some ⟨b, o, none⟩ → b < w3.heap.size → some b ≠ v.ownBlock)) (fun _ i _ => nl - (intOf i).toNat)
    case atStart => exact ⟨_, 0, rfl, Nat.zero_le _, rfl, HC3.out, Nat.le_refl _, hide (by rw [HE0.out]; exact HO3.out), HS3, hide (fun b o hA hb he => by have h1 := HN3.out b o hA; have h2 := HLT.out b he.symm; omega)⟩
    case round =>
      obtain ⟨v, j, rfl, hj, rfl, hbj, hgj, hoj, hsj, hdj⟩ := hrel
      obtain ⟨wq, rfl⟩ : ∃ wq, wq = wr := ⟨_, rfl⟩
      have hszj := hbj.size
      have HBJ := hide hbj
      clear hbj
      by_cases hlj : j < nl
      · obtain ⟨y, hy⟩ : ∃ y, nx[j]? = some y := ⟨_, List.getElem?_eq_getElem (by have := HNL.out; omega)⟩
        obtain ⟨b3, o3, rfl, hb3, hc3⟩ := hsj.out (by have := HNL.out; omega)
        have cj := hc3 j (by have := HNL.out; omega)
        rw [List.getD_eq_getElem?_getD, hy] at cj
        simp only [Option.getD_some] at cj
        have hb3s : b3 < wq.heap.size := by omega
        have HST := hide (HES.out j y hy)
        have hel := HEL.out j
        have hro : (edgesIn f k j).length < 1000000 := by omega
        have HRO := hide hro
        clear hc3 hy hel hro
        go_wp2_with (at_builtin; refine wpList_append_edge wq rfl (.tmp 21) (.tmp 25) _ rfl w1.heap.size i0 _ Tryd.underlying141 HI.out iz0 iz1 iz2 rfl v (edgesIn f k j) (by rfl) hoj.out (k : Int) y (by rfl) HRO.out hszj ?_; intro v5 w5 ho5 hb5 hf5 hv5)
        have ho5' : OwE w5 w1.heap.size v5 (edgesIn f k (j + 1)) := by rw [← HST.out]; exact ho5
        have hg5 : w3.heap.size ≤ w5.heap.size := by
          rcases Nat.lt_or_ge w5.heap.size wq.heap.size with h | h
          · exact absurd (hb5.size) (by have := hb5.size; omega)
          · omega
        go_roundw
        case rel => exact ⟨v5, j + 1, rfl, by omega, by go_num, HBJ.out.trans hb5, hg5, hide ho5', hide (hsj.out.far (fun b o hA => hdj.out b o hA (by cases hA; omega)) (fun p hp hne => hf5 p (by omega) hne)), hide (fun b o hA hb => by
            rcases hv5 with h | h
            · rw [h]; exact hdj.out b o hA hb
            · rw [h]; intro hc; injection hc with hc; omega)⟩
        case measure => simp [intOf]; omega
      · obtain rfl : j = nl := by omega
        have HO := hide (show OwE wq w1.heap.size v (edgesTo f (k + 1)) by rw [← HEA.out j (Nat.le_refl _)]; exact hoj.out)
        go_wp2
        go_roundw
        case rel => exact ⟨_, k + 1, rfl, by omega, by go_num, HBJ.out, HO⟩
        case measure => simp [intOf]; omega
end Go.Proofs.YteoopilmdlhkhaaDoor
namespace Go.Proofs.YteoopilmdlhkhaaDoor
open Go.RowKit

def prevN (f : FunV) (z : Int) : List Int := ((edgesN f).filter (fun e => e.2 == z)).map Prod.fst
end Go.Proofs.YteoopilmdlhkhaaDoor
namespace Go.Proofs.YteoopilmdlhkhaaDoor
open Go.RowKit

def selTo (es : List (Int × Int)) (z : Int) (k : Nat) : List Int := ((es.take k).filter (fun e => e.2 == z)).map Prod.fst
theorem selTo_yes {es : List (Int × Int)} {z : Int} {k : Nat} {e : Int × Int} (h : es[k]? = some e) (hz : e.2 = z) : selTo es z k ++ [e.1] = selTo es z (k + 1) := by
  unfold selTo
  rw [List.take_add_one, h]
  simp [List.filter_append, hz]
theorem selTo_no {es : List (Int × Int)} {z : Int} {k : Nat} {e : Int × Int} (h : es[k]? = some e) (hz : ¬ e.2 = z) : selTo es z k = selTo es z (k + 1) := by
  unfold selTo
  rw [List.take_add_one, h]
  simp [List.filter_append, hz]
theorem selTo_len (es : List (Int × Int)) (z : Int) (k : Nat) : (selTo es z k).length ≤ k := by
  unfold selTo
  rw [List.length_map]
  exact Nat.le_trans (List.length_filter_le _ _) (List.length_take_le _ _)
theorem selTo_all {f : FunV} {z : Int} {k : Nat} (h : (edgesN f).length ≤ k) : selTo (edgesN f) z k = prevN f z := by
  unfold selTo prevN
  rw [List.take_of_length_le h]
theorem edgesN_len {f : FunV} (hok : FlowOk f) : (edgesN f).length ≤ 80 := by
  have h1 := edgesTo_len f f.blocks.length
  have h2 := hok.1
  unfold edgesN
  omega
end Go.Proofs.YteoopilmdlhkhaaDoor
namespace Go.Proofs.YteoopilmdlhkhaaDoor
open Go.RowKit

end Go.Proofs.YteoopilmdlhkhaaDoor
