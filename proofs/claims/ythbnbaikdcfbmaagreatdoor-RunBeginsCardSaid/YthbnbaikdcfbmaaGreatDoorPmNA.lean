/- Layer 5: the blocks that follow one another, in plain lists; the contracts of flow.there, flow.Next and of the reference's Next. .. -/
import Derived.Test.YthbnbaikdcfbmaaGreatDoorPmTA
set_option linter.unusedSimpArgs false
set_option linter.unusedVariables false
set_option maxHeartbeats 1000000
set_option maxRecDepth 100000
namespace Go.Proofs.YthbnbaikdcfbmaaGreatDoor
open Go.RowKit
def jqy (b : List InsV) : List Int := match b.getLast? with | some x => jau x | none => []
def nxt (f : FunV) (k : Nat) : List Int := match f.blocks[k]? with | some b => jqy b | none => []
def nxtI (f : FunV) (z : Int) : List Int := if inB 0 ((f.blocks.length : Int) - 1) z = true then nxt f z.toNat else []
def jbn (f : FunV) : Prop := f.blocks.length <= 40 /\ (∀ b ∈ f.blocks, b.length <= 40) /\ ∀ k v, v ∈ nxt f k -> 0 <= v /\ v < f.blocks.length
theorem jqx (x : InsV) : (jau x).length <= 2 := by unfold jau; split <;> (try split) <;> simp
theorem jfl (f : FunV) (k : Nat) : (nxt f k).length <= 2 := by
 unfold nxt jqy
 split
 ·split
  ·exact jqx _
  ·simp
 ·simp
theorem jnb {f : FunV} {k mp : Nat} {b : List InsV} {x : InsV} (hb : f.blocks[k]? = some b) (hm : b.length = mp + 1) (hx : b[mp]? = some x) : nxt f k = jau x := by
 unfold nxt jqy
 rw [hb]
 show (match b.getLast? with | some x => jau x | none => []) = _
 rw [List.getLast?_eq_getElem?, hm, Nat.add_sub_cancel, hx]
theorem jna {f : FunV} {k : Nat} {b : List InsV} (hb : f.blocks[k]? = some b) (hm : b.length = 0) : nxt f k = [] := by
 unfold nxt jqy
 rw [hb, List.eq_nil_of_length_eq_zero hm]
 rfl
theorem jf1 {f : FunV} {k : Nat} (h : k < f.blocks.length) : nxtI f (k : Int) = nxt f k := by
 unfold nxtI
 rw [if_pos (by rw [inB_iff]; omega), Int.toNat_natCast]
theorem jh4 {p : List FunV} (h : jad p = true) : ∀ f ∈ p, jbn f /\ 1 <= f.blocks.length := by
 intro f hf
 obtain ⟨-, -, -, hall⟩ := jal h
 obtain ⟨-, -, -, ⟨hb1, hb40, hbl⟩, hmay⟩ := jah (hall f hf)
 refine ⟨⟨hb40, fun b hb => (hbl b hb).2.1, fun k v hv => ?_⟩, hb1⟩
 unfold nxt jqy at hv
 split at hv
 ·rename_i b hbk
  split at hv
  ·rename_i x hx
   have := next_blk (hmay b (List.mem_of_getElem? hbk) x (List.mem_of_getLast? hx)) v hv
   omega
  ·cases hv
 ·cases hv
theorem jgh (z : Int) (Ak Ab As : Option Addr) (lk ck lb cb ls cs : Nat) (fp fr : Int) (w : World) :
  Calls Tryz.prog 127 #[.agg #[.slice Ak lk ck, .slice Ab lb cb, .int .i64 fp, .int .i64 fr, .slice As ls cs], .int .i64 z] w fun e w' => e = .returned (.bool (inB 0 ((ls : Int) - 1) z)) /\ Below w.heap.size w w' := by
 have e : inB 0 ((ls : Int) - 1) z = (decide (0 <= z) && decide (z < (ls : Int))) := by
  unfold inB
  rw [Bool.eq_iff_iff]; simp; omega
 rw [e]
 clear e
 by_cases h : 0 <= z
 ·have hd : decide (0 <= z) = true := by simpa using h
  rw [hd]
  go_enter Tryz.func127, Tryz.ntmps127
  go_wp2
  go_ret
  exact ⟨by simp, ja4 w _⟩
 ·have hd : decide (0 <= z) = false := by simpa using h
  rw [hd]
  go_enter Tryz.func127, Tryz.ntmps127
  go_wp2
  go_ret
  exact ⟨by simp, ja4 w _⟩
def FunBox (w : World) (h : Nat) (ls : Nat) : Prop := ∃ Ak Ab As lk ck lb cb cs fp fr, Box w h #[.slice Ak lk ck, .slice Ab lb cb, .int .i64 fp, .int .i64 fr, .slice As ls cs] 52
theorem FunBox.below {w w' : World} {h ls : Nat} (hb : FunBox w h ls) (hw : Below w.heap.size w w') : FunBox w' h ls := by
 obtain ⟨Ak, Ab, As, lk, ck, lb, cb, cs, fp, fr, hx⟩ := hb
 exact ⟨Ak, Ab, As, lk, ck, lb, cb, cs, fp, fr, hx.below hw⟩
theorem jr0 (z : Int) (h ls : Nat) (w : World) (hb : FunBox w h ls) (hz : inB 0 ((ls : Int) - 1) z = true) :
  Calls Tryz.prog 128 #[.int .i64 z, .pointer (some ⟨h, 0, none⟩)] w fun e w' => e = .returned (.bool false) /\ Below w.heap.size w w' := by
 obtain ⟨Ak, Ab, As, lk, ck, lb, cb, cs, fp, fr, hx⟩ := hb
 have c0 := (hx.cell 0 (v := .slice Ak lk ck) rfl).1
 have c1 := (hx.cell 1 (v := .slice Ab lb cb) rfl).1
 have c2 := (hx.cell 2 (v := .int .i64 fp) rfl).1
 have c3 := (hx.cell 3 (v := .int .i64 fr) rfl).1
 have c4 := (hx.cell 4 (v := .slice As ls cs) rfl).1
 have hl := hx.lt
 have HT := hide (fun W => (show Calls Tryz.prog 127 #[.agg #[.slice Ak lk ck, .slice Ab lb cb, .int .i64 fp, .int .i64 fr, .slice As ls cs], .int .i64 z] W fun e w' => e = .returned (.bool true) /\ Below W.heap.size W w' by have h := jgh z Ak Ab As lk ck lb cb ls cs fp fr W; rw [hz] at h; exact h))
 clear hx hz
 go_enter Tryz.func128, Tryz.ntmps128
 go_wp2_with (go_at_call 127; refine (HT.out w).mono ?_; rintro e w1 ⟨rfl, hb1⟩)
 go_ret
 exact ⟨rfl, hb1⟩
theorem jl0 (zs : List Int) (va : Value) (h ls : Nat) (w : World) (B : Nat) (hB : B <= w.heap.size) (hx : IntsV w (· < B) va zs) (hb : FunBox w h ls) (hz : ∀ z ∈ zs, inB 0 ((ls : Int) - 1) z = true) :
  Calls Tryz.prog 44 #[va, .func (.func 128) #[] #[.pointer (some ⟨h, 0, none⟩)]] w fun e w' => e = .returned (.int .i64 (-1)) /\ Below w.heap.size w w' := by
 have HC := hide (fun (z : Int) (hm : z ∈ zs) (W : World) (hW : Below w.heap.size w W) => jr0 z h ls W (hb.below hW) (hz z hm))
 have HK := hide (fun (W : World) (hW : Below w.heap.size w W) => hx.keep (up hW hB) (fun _ h => h))
 obtain ⟨A, c, rfl, hc, hm⟩ := hx.open'
 obtain ⟨n, hn⟩ := zl zs.length
 rw [hn] at hc HK ⊢
 have HN := hide hn
 clear hn hx hb hz
 go_enter Tryz.func44, Tryz.ntmps44
 go_wp2
 go_loopw [8] (fun i wr => ∃ k : Nat, k <= n /\ i = .int .i64 k /\ Below w.heap.size w wr) (fun i _ => n - (intOf i).toNat)
 case atStart => exact ⟨0, Nat.zero_le _, rfl, Below.refl _ _⟩
 case round =>
  obtain ⟨k, hk, rfl, hb⟩ := hrel
  have hsz := hb.size
  have HB := hide hb
  clear hb
  by_cases hlt : k < n
  ·obtain ⟨y, hy⟩ : ∃ y, zs[k]? = some y := ⟨_, List.getElem?_eq_getElem (by have := HN.out; omega)⟩
   obtain ⟨b, o, rfl, hbb, e0, hR⟩ := (HK.out wr HB.out).get hy
   have hbs : b < wr.heap.size := by omega
   have HY := hide (List.mem_of_getElem? hy)
   clear hy
   go_wp2_with (go_at_call 128; refine (HC.out _ HY.out wr HB.out).mono ?_; rintro e w3 ⟨rfl, hb3⟩)
   go_roundw
   case rel => exact ⟨k + 1, by omega, by go_num, HB.out.trans (hb3.mono hsz)⟩
   case measure => simp [intOf]; omega
  ·go_wp2
   go_ret
   exact ⟨rfl, HB.out⟩
theorem jlf (zs : List Int) (va : Value) (h ls : Nat) (w : World) (B : Nat) (hB : B <= w.heap.size) (hx : IntsV w (· < B) va zs) (hb : FunBox w h ls) (hz : ∀ z ∈ zs, inB 0 ((ls : Int) - 1) z = true) :
  Calls Tryz.prog 129 #[va, .func (.func 128) #[] #[.pointer (some ⟨h, 0, none⟩)]] w fun e w' => e = .returned va /\ Below w.heap.size w w' := by
 have HI := hide (jl0 zs va h ls w B hB hx hb hz)
 obtain ⟨A, c, rfl, hc, hm⟩ := hx.open'
 generalize zs.length = n at *
 clear hx hb hz
 go_enter Tryz.func129, Tryz.ntmps129
 go_wp2_with (go_at_call 44; refine HI.out.mono ?_; rintro e w3 ⟨rfl, hb3⟩)
 go_ret
 exact ⟨rfl, hb3⟩
theorem Sl.vec {w : World} {B c : Nat} {A : Option Addr} {zs : List Int} (h : Sl w B .i64 A zs) (hc : zs.length <= c) (hm : c <= 9223372036854775807) (hr : ∀ z ∈ zs, i64R z) : IntsV w (· < B) (.slice A zs.length c) zs := by
 refine ⟨A, c, rfl, hc, hm, fun hp => ?_⟩
 obtain ⟨b, o, e2, hb, hcc⟩ := h hp
 refine ⟨b, o, e2, hb, fun j x hj => ⟨?_, hr x (List.mem_of_getElem? hj)⟩⟩
 have := hcc j (List.getElem?_eq_some_iff.1 hj).1
 rw [Nat.mul_one, this]
 simp [List.getD, hj]
theorem nxt_R {f : FunV} (hok : jbn f) (k : Nat) : ∀ z ∈ nxt f k, i64R z := fun z hz => by have := hok.2.2 k z hz; have := hok.1; unfold i64R; omega
theorem jnc {f : FunV} {z : Int} (h : inB 0 ((f.blocks.length : Int) - 1) z = false) : nxtI f z = [] := by unfold nxtI; rw [h]; rfl
def jei (es : List (Int × Int)) : List Value := es.flatMap (fun p => [Value.int .i64 p.1, Value.int .i64 p.2])
theorem jp3 (es : List (Int × Int)) (p : Int × Int) : jei (es ++ [p]) = jei es ++ [Value.int .i64 p.1, Value.int .i64 p.2] := by simp [jei]
theorem jic : ∀ (es : List (Int × Int)) (j : Nat) (p : Int × Int), es[j]? = some p -> (jei es)[j * 2]? = some (.int .i64 p.1) /\ (jei es)[j * 2 + 1]? = some (.int .i64 p.2)
 | [], j, p, h => by cases h
 | q :: es, 0, p, h => by
  simp at h; subst h
  exact ⟨rfl, rfl⟩
 | q :: es, j + 1, p, h => by
  have ih := jic es j p (by simpa using h)
  have e : jei (q :: es) = [Value.int .i64 q.1, Value.int .i64 q.2] ++ jei es := rfl
  rw [e, List.getElem?_append_right (by simp; omega), List.getElem?_append_right (by simp; omega)]
  have e1 : (j + 1) * 2 - [Value.int .i64 q.1, Value.int .i64 q.2].length = j * 2 := by simp; omega
  have e2 : (j + 1) * 2 + 1 - [Value.int .i64 q.1, Value.int .i64 q.2].length = j * 2 + 1 := by simp; omega
  rw [e1, e2]
  exact ih
def OwE (w : World) (base : Nat) (v : Value) (es : List (Int × Int)) : Prop := w.ownsRow base 106 2 v es.length (jei es)
def EdgS (w : World) (B : Nat) (A : Option Addr) (es : List (Int × Int)) : Prop :=
 0 < es.length -> ∃ b o, A = some ⟨b, o, none⟩ /\ b < B /\ ∀ (j : Nat) (p : Int × Int), es[j]? = some p -> w.cell? ⟨b, o + j * 2, none⟩ = some (.int .i64 p.1) /\ w.cell? ⟨b, o + j * 2 + 1, none⟩ = some (.int .i64 p.2)
section
variable {w w' : World} {base B B' : Nat} {v : Value} {A : Option Addr} {es : List (Int × Int)}
theorem OwE.nil (w : World) (base : Nat) : OwE w base (.slice none 0 0) [] := World.ownsRow_nil _ _ _ _
theorem OwE.lower (h : OwE w base v es) {b : Nat} (hb : b <= base) : OwE w b v es := by
 refine ⟨h.1, ?_⟩
 rcases h.2 with h2 | ⟨g, cap, cur, hv, hg, r⟩
 ·exact .inl h2
 ·exact .inr ⟨g, cap, cur, hv, by omega, r⟩
theorem OwE.below (h : OwE w base v es) (hb : Below w.heap.size w w') : OwE w' base v es := by
 refine ⟨h.1, ?_⟩
 rcases h.2 with h2 | ⟨g, cap, cur, hv, hg, hh, r⟩
 ·exact .inl h2
 ·exact .inr ⟨g, cap, cur, hv, hg, (hb.block g (Array.getElem?_eq_some_iff.1 hh).1).trans hh, r⟩
theorem OwE.sl (h : OwE w base v es) : ∃ A c, v = .slice A es.length c /\ es.length <= c /\ c <= maxLen /\ EdgS w w.heap.size A es := by
 rcases h.2 with ⟨rfl, h0⟩ | ⟨g, cap, cur, rfl, hg, hh, hnc, hcm, hsz, htake⟩
 ·have hz : es = [] := List.eq_nil_of_length_eq_zero h0
  subst hz
  exact ⟨none, 0, rfl, Nat.le_refl _, by simp [maxLen], fun h => absurd h (by simp)⟩
 ·refine ⟨_, _, rfl, hnc, hcm, fun hp => ⟨g, 0, rfl, (Array.getElem?_eq_some_iff.1 hh).1, fun j p hj => ?_⟩⟩
  have hjl := (List.getElem?_eq_some_iff.1 hj).1
  obtain ⟨h1, h2⟩ := jic es j p hj
  rw [Nat.zero_add, World.ownsRow.cellAt h (j * 2) (by omega), World.ownsRow.cellAt h (j * 2 + 1) (by omega)]
  exact ⟨h1, h2⟩
end
theorem jru : (Tryz.prog.info? 106).map (fun i => (i.zero, i.size, i.bytes)) = some (some (.agg #[.int .i64 0, .int .i64 0]), 2, 16) := by kernel_rfl
theorem jes {P : Program} (w : World) {ops : Array Oper} {rest : List Oper} {o : Oper} {a : Act} {Q : Exit -> Act -> World -> Prop} (hgd : o.guard = none) (s x : Operand) (t : TypeId)
  (ho : o.op = .call { callee := .builtin .append, args := #[s, x], argTypes := #[t, t] })
  (base : Nat) (i : TypeInfo) (z : Value) (ht : P.underlying t = some (.slice 106)) (hi : P.info? 106 = some i) (hz : i.zero = some z)
  (hsize : i.size = 2) (hby : i.bytes = 16) (hzs : z.cells.size = 2)
  (v : Value) (es : List (Int × Int)) (hs : a.eval s = v) (hown : OwE w base v es) (y1 y2 : Int)
  (hx : a.eval x = .slice (some ⟨w.heap.size, 0, none⟩) 1 1)
  (hroom : es.length < 1000000) (hbase : base <= w.heap.size)
  (h : ∀ v' w', OwE w' base v' (es ++ [(y1, y2)]) -> Below base w w' -> (∀ p : Addr, p.block < w.heap.size -> some p.block ≠ v.ownBlock -> w'.cell? p = w.cell? p) -> (v'.ownBlock = v.ownBlock \/ v'.ownBlock = some (w.heap.size + 1)) -> wpList P ops Q rest (a.put o.dst v') w') :
  wpList P ops Q (o :: rest) a (w.alloc (.cells #[.int .i64 y1, .int .i64 y2] 106)) := by
 refine wpList_plain hgd fun K hK => ?_
 have hown' : (w.alloc (.cells #[.int .i64 y1, .int .i64 y2] 106)).ownsRow base 106 2 v es.length (jei es) := World.ownsRow.alloc hown _
 obtain ⟨v', w', hrun, h2, h3, -, h5⟩ := run_append_own_at (P := P) (w.alloc (.cells #[.int .i64 y1, .int .i64 y2] 106)) base t o.type 106 i z 2 16 ht hi hz hsize hby hzs (by omega) v es.length (jei es) hown'
  ⟨w.heap.size, 0, none⟩ 1 1 [.int .i64 y1, .int .i64 y2] rfl
  (fun j u hu => by
   rw [Addr.add_lit, cell_of_row (w.alloc (.cells #[.int .i64 y1, .int .i64 y2] 106)) w.heap.size (0 + j) _ _ (0, 0) (heap_alloc_new w _), Nat.zero_add, <- Array.getElem?_toList]
   exact hu) (by intro u hu; simp at hu; rcases hu with rfl | rfl <;> rfl) (by simp only [maxLen]; omega) (by omega) (by simp only [World.size_alloc]; omega)
 unfold Oper.wp execOp
 simp only [ho, resolve, invoke, builtin, Sem.run_bind, Sem.run_pure, Result.andThen_ok, List.map_toArray, List.map_cons, List.map_nil, hs, hx, hrun]
 refine hK _ _ (h v' w' ?_ ?_ ?_ ?_)
 ·unfold OwE
  rw [jp3, List.length_append]
  exact h2
 ·exact ((Below.refl _ _).alloc hbase _).grown h3 (by simp only [World.size_alloc]; omega) fun g hg => (World.ownsRow.lt hown g hg).1
 ·intro p hp hne
  rw [World.cell?_of_block (h3.block p.block (by simp only [World.size_alloc]; omega) hne), World.cell?_alloc_lt w _ p hp]
 ·simpa only [World.size_alloc] using h5
def jcp (f : FunV) (k : Nat) : List (Int × Int) := (List.range k).flatMap (fun i => (nxt f i).map (fun v => ((i : Int), v)))
def jbi (f : FunV) : List (Int × Int) := jcp f f.blocks.length
def jbv (f : FunV) (k j : Nat) : List (Int × Int) := jcp f k ++ ((nxt f k).take j).map (fun v => ((k : Int), v))
theorem jlb (f : FunV) (k : Nat) : jbv f k 0 = jcp f k := by simp [jbv]
theorem jh6 {f : FunV} {k j : Nat} (h : (nxt f k).length <= j) : jbv f k j = jcp f (k + 1) := by
 unfold jbv jcp
 rw [List.take_of_length_le h, List.range_succ, List.flatMap_append]
 simp
theorem jlc {f : FunV} {k j : Nat} {v : Int} (h : (nxt f k)[j]? = some v) : jbv f k j ++ [((k : Int), v)] = jbv f k (j + 1) := by
 unfold jbv
 rw [List.append_assoc, List.take_add_one, h]
 simp
theorem jh5 (f : FunV) (k : Nat) : (jcp f k).length <= 2 * k := by
 induction k with
 | zero => simp [jcp]
 | succ k ih =>
  rw [<- jh6 (Nat.le_refl _)]
  unfold jbv
  rw [List.length_append, List.length_map, List.take_length]
  have := jfl f k
  omega
theorem jmm (f : FunV) (k j : Nat) : (jbv f k j).length <= 2 * k + 2 := by
 unfold jbv
 rw [List.length_append, List.length_map]
 have h1 := jh5 f k
 have h2 := jfl f k
 have h3 : ((nxt f k).take j).length <= (nxt f k).length := List.length_take_le' _ _
 omega
theorem jqw (x : InsV) (A : Option Addr) (n c : Nat) (w : World) :
  Calls Tryz.prog 130 #[.agg #[.int .i64 x.op, .int .i64 x.d, .int .i64 x.a, .int .i64 x.b, .int .i64 x.n, .int .i64 x.m, .slice A n c]] w fun e w' => ∃ A' c', e = .returned (.slice A' (jau x).length c') /\ Sl w' w'.heap.size .i64 A' (jau x) /\ (jau x).length <= c' /\ c' <= 2 /\ (∀ b o, A' = some ⟨b, o, none⟩ -> w.heap.size <= b) /\ Below w.heap.size w w' := by
 by_cases h21 : x.op = 21
 ·have hv := hide (show jau x = [x.n] by unfold jau; rw [if_pos (.inl h21)])
  rw [h21]
  clear h21
  go_enter Tryz.func130, Tryz.ntmps130
  go_wp2
  go_ret
  refine ⟨some ⟨w.heap.size + 1, 0, none⟩, 1, by rw [hv.out]; rfl, ?_, by rw [hv.out]; exact Nat.le_refl _, by omega, fun b o h => (by cases h; omega), (ja4 w _).alloc (by simp) _⟩
  rw [hv.out]
  have h := fun o => Sl.lit (w.alloc o) 3 .i64 #[.int .i64 x.n] [x.n] rfl
  simp only [World.size_alloc] at h
  exact (h _).more (by simp only [World.size_alloc]; omega)
 ·have b21 : (x.op == 21) = false := by simpa using h21
  by_cases h22 : x.op = 22
  ·by_cases hnm : x.n = x.m
   ·have hv := hide (show jau x = [x.n] by unfold jau; rw [if_pos (.inr ⟨h22, hnm⟩)])
    rw [h22] at b21 ⊢
    rw [<- hnm]
    clear h22 h21 hnm
    go_enter Tryz.func130, Tryz.ntmps130
    go_wp2
    go_ret
    refine ⟨some ⟨w.heap.size + 1, 0, none⟩, 1, by rw [hv.out]; rfl, ?_, by rw [hv.out]; exact Nat.le_refl _, by omega, fun b o h => (by cases h; omega), (ja4 w _).alloc (by simp) _⟩
    rw [hv.out]
    have h := fun o => Sl.lit (w.alloc o) 3 .i64 #[.int .i64 x.n] [x.n] rfl
    simp only [World.size_alloc] at h
    exact (h _).more (by simp only [World.size_alloc]; omega)
   ·have hv := hide (show jau x = [min x.n x.m, max x.n x.m] by unfold jau; rw [if_neg (by omega), if_pos h22])
    have bnm : (x.n == x.m) = false := by simpa using hnm
    rw [h22] at b21 ⊢
    clear h22 h21 hnm
    go_enter Tryz.func130, Tryz.ntmps130
    go_wp2
    go_ret
    refine ⟨some ⟨w.heap.size + 1, 0, none⟩, 2, by rw [hv.out]; rfl, ?_, by rw [hv.out]; exact Nat.le_refl _, by omega, fun b o h => (by cases h; omega), (ja4 w _).alloc (by simp) _⟩
    rw [hv.out]
    have h := fun o => Sl.lit (w.alloc o) 3 .i64 #[.int .i64 (min x.n x.m), .int .i64 (max x.n x.m)] [min x.n x.m, max x.n x.m] rfl
    simp only [World.size_alloc] at h
    exact (h _).more (by simp only [World.size_alloc]; omega)
  ·have hv := hide (show jau x = [] by unfold jau; rw [if_neg (by omega), if_neg h22])
   have b22 : (x.op == 22) = false := by simpa using h22
   clear h22 h21
   go_enter Tryz.func130, Tryz.ntmps130
   go_wp2
   go_ret
   exact ⟨none, 0, by rw [hv.out]; rfl, by rw [hv.out]; exact Sl.nil _ _ _ _, by rw [hv.out]; exact Nat.le_refl _, by omega, fun b o h => (by cases h), ja4 w _⟩
theorem joi (x : InsV) (A : Option Addr) (n c : Nat) (w : World) :
  Calls Tryz.prog 72 #[.agg #[.int .i64 x.op, .int .i64 x.d, .int .i64 x.a, .int .i64 x.b, .int .i64 x.n, .int .i64 x.m, .slice A n c]] w fun e w' => ∃ A' c', e = .returned (.slice A' (jau x).length c') /\ Sl w' w'.heap.size .i64 A' (jau x) /\ (jau x).length <= c' /\ c' <= 2 /\ (∀ b o, A' = some ⟨b, o, none⟩ -> w.heap.size <= b) /\ Below w.heap.size w w' := by
 by_cases h21 : x.op = 21
 ·have hv := hide (show jau x = [x.n] by unfold jau; rw [if_pos (.inl h21)])
  rw [h21]
  clear h21
  go_enter Tryz.func72, Tryz.ntmps72
  go_wp2
  go_ret
  refine ⟨some ⟨w.heap.size + 1, 0, none⟩, 1, by rw [hv.out]; rfl, ?_, by rw [hv.out]; exact Nat.le_refl _, by omega, fun b o h => (by cases h; omega), (ja4 w _).alloc (by simp) _⟩
  rw [hv.out]
  have h := fun o => Sl.lit (w.alloc o) 3 .i64 #[.int .i64 x.n] [x.n] rfl
  simp only [World.size_alloc] at h
  exact (h _).more (by simp only [World.size_alloc]; omega)
 ·have b21 : (x.op == 21) = false := by simpa using h21
  by_cases h22 : x.op = 22
  ·by_cases hnm : x.n = x.m
   ·have hv := hide (show jau x = [x.n] by unfold jau; rw [if_pos (.inr ⟨h22, hnm⟩)])
    rw [h22] at b21 ⊢
    rw [<- hnm]
    clear h22 h21 hnm
    go_enter Tryz.func72, Tryz.ntmps72
    go_wp2
    go_ret
    refine ⟨some ⟨w.heap.size + 1, 0, none⟩, 1, by rw [hv.out]; rfl, ?_, by rw [hv.out]; exact Nat.le_refl _, by omega, fun b o h => (by cases h; omega), (ja4 w _).alloc (by simp) _⟩
    rw [hv.out]
    have h := fun o => Sl.lit (w.alloc o) 3 .i64 #[.int .i64 x.n] [x.n] rfl
    simp only [World.size_alloc] at h
    exact (h _).more (by simp only [World.size_alloc]; omega)
   ·have hv := hide (show jau x = [min x.n x.m, max x.n x.m] by unfold jau; rw [if_neg (by omega), if_pos h22])
    have bnm : (x.n == x.m) = false := by simpa using hnm
    rw [h22] at b21 ⊢
    clear h22 h21 hnm
    go_enter Tryz.func72, Tryz.ntmps72
    go_wp2
    go_ret
    refine ⟨some ⟨w.heap.size + 1, 0, none⟩, 2, by rw [hv.out]; rfl, ?_, by rw [hv.out]; exact Nat.le_refl _, by omega, fun b o h => (by cases h; omega), (ja4 w _).alloc (by simp) _⟩
    rw [hv.out]
    have h := fun o => Sl.lit (w.alloc o) 3 .i64 #[.int .i64 (min x.n x.m), .int .i64 (max x.n x.m)] [min x.n x.m, max x.n x.m] rfl
    simp only [World.size_alloc] at h
    exact (h _).more (by simp only [World.size_alloc]; omega)
  ·have hv := hide (show jau x = [] by unfold jau; rw [if_neg (by omega), if_neg h22])
   have b22 : (x.op == 22) = false := by simpa using h22
   clear h22 h21
   go_enter Tryz.func72, Tryz.ntmps72
   go_wp2
   go_ret
   exact ⟨none, 0, by rw [hv.out]; rfl, by rw [hv.out]; exact Sl.nil _ _ _ _, by rw [hv.out]; exact Nat.le_refl _, by omega, fun b o h => (by cases h), ja4 w _⟩
theorem joz (vk vb vs : Value) (f : FunV) (z : Int) (w : World) (B : Nat) (hB : B <= w.heap.size) (hi : FunI w (· < B) vk vb vs f) (hok : jbn f) :
  Calls Tryz.prog 102 #[.agg #[vk, vb, .int .i64 f.params, .int .i64 f.result, vs], .int .i64 z] w fun e w' => ∃ A c, e = .returned (.slice A (nxtI f z).length c) /\ Sl w' w'.heap.size .i64 A (nxtI f z) /\ (nxtI f z).length <= c /\ c <= 2 /\ (∀ b o, A = some ⟨b, o, none⟩ -> w.heap.size <= b) /\ Below w.heap.size w w' := by
 obtain ⟨Ak, ck, rfl, hck, hmk⟩ := hi.1.open'
 obtain ⟨Ab, cb, rfl, hcb, hmb⟩ := hi.2.1.open'
 obtain ⟨As, cs, rfl, hcs, hms⟩ := hi.2.2.1.open'
 have HBK := hide (fun (W : World) (hW : Below w.heap.size w W) => hi.2.2.1.keep (up hW hB) (fun _ h => h))
 by_cases hin : inB 0 ((f.blocks.length : Int) - 1) z = true
 case neg =>
  have hin' := Bool.eq_false_iff.2 hin
  rw [jnc hin']
  obtain ⟨ls, hls⟩ := zl f.blocks.length
  rw [hls] at hin' ⊢
  generalize f.kinds.length = lk, f.base.length = lb, f.params = fp, f.result = fr at *
  have HT := hide (fun W => (show Calls Tryz.prog 127 #[.agg #[.slice Ak lk ck, .slice Ab lb cb, .int .i64 fp, .int .i64 fr, .slice As ls cs], .int .i64 z] W fun e w' => e = .returned (.bool false) /\ Below W.heap.size W w' by have h := jgh z Ak Ab As lk ck lb cb ls cs fp fr W; rw [hin'] at h; exact h))
  clear hin hin' hi hls hcs hck hcb
  go_enter Tryz.func102, Tryz.ntmps102
  go_wp2_with (go_at_call 127; refine (HT.out _).mono ?_; rintro e w1 ⟨rfl, hb1⟩)
  go_ret
  exact ⟨none, 0, rfl, Sl.nil _ _ _ _, Nat.le_refl _, by omega, fun b o h => (by cases h), (ja4 w _).trans (hb1.mono (by simp))⟩
 have hin2 := inB_iff.1 hin
 obtain ⟨k, hk⟩ : ∃ k : Nat, z = k := ⟨z.toNat, by omega⟩
 subst hk
 obtain ⟨ls, hls⟩ := zl f.blocks.length
 obtain ⟨x, hx⟩ : ∃ x, f.blocks[k]? = some x := ⟨_, List.getElem?_eq_getElem (by omega)⟩
 rw [jf1 (by omega)]
 have hxm := hok.2.1 x (List.mem_of_getElem? hx)
 have HNR := hide (nxt_R hok k)
 have HNI := hide (show ∀ v ∈ nxt f k, inB 0 ((f.blocks.length : Int) - 1) v = true from fun v hv => by have := hok.2.2 k v hv; rw [inB_iff]; omega)
 have hlen := jfl f k
 have HX := hide hx
 have HNM := hide (fun (mp : Nat) (u : InsV) (h1 : x.length = mp + 1) (h2 : x[mp]? = some u) => jnb hx h1 h2)
 have HN0 := hide (fun (h1 : x.length = 0) => jna hx h1)
 rw [hls] at hin hin2 HNI HBK hcs ⊢
 obtain ⟨nx, hnx⟩ := zl (nxt f k)
 rw [hnx] at HNR HNI HNM HN0 hlen ⊢
 obtain ⟨nl, hnl'⟩ := zl nx.length
 have HNL := hide hnl'
 rw [hnl'] at hlen ⊢
 clear hnl'
 generalize f.kinds.length = lk, f.base.length = lb, f.params = fp, f.result = fr at *
 have HT := hide (fun W => (show Calls Tryz.prog 127 #[.agg #[.slice Ak lk ck, .slice Ab lb cb, .int .i64 fp, .int .i64 fr, .slice As ls cs], .int .i64 (k : Int)] W fun e w' => e = .returned (.bool true) /\ Below W.heap.size W w' by have h := jgh (k : Int) Ak Ab As lk ck lb cb ls cs fp fr W; rw [hin] at h; exact h))
 have hkl : k < ls := by omega
 clear hin hin2 hi hls hnx hx hok hck hcb
 go_enter Tryz.func102, Tryz.ntmps102
 go_upto_region 1 with (fail)
 obtain ⟨w1, hw1⟩ := zr (w.alloc (.cells #[.slice Ak lk ck, .slice Ab lb cb, .int .i64 fp, .int .i64 fr, .slice As ls cs] 52))
 have HX1 := zx1 hw1 rfl
 have HB1 := zb1 hw1
 rw [<- hw1]
 clear hw1
 have l1 := HX1.out.lt
 have c0 := (HX1.out.cell 0 (v := .slice Ak lk ck) rfl).1
 have c1 := (HX1.out.cell 1 (v := .slice Ab lb cb) rfl).1
 have c2 := (HX1.out.cell 2 (v := .int .i64 fp) rfl).1
 have c3 := (HX1.out.cell 3 (v := .int .i64 fr) rfl).1
 have c4 := (HX1.out.cell 4 (v := .slice As ls cs) rfl).1
 have hki : (0 : Int) <= (k : Int) := by omega
 have hkli : (k : Int) < (ls : Int) := by omega
 obtain ⟨m, hm⟩ := zl x.length
 rw [hm] at HNM HN0 hxm
 by_cases hm0 : m = 0
 ·obtain ⟨b1, o1, A1, c1', hA1, hbb1, g0, -⟩ := (HBK.out w1 HB1.out).get HX.out
  rw [hm] at g0
  have hbs : b1 < w1.heap.size := by have := HB1.out.size; omega
  have hnil := HN0.out hm0
  subst hA1
  subst hm0
  subst hnil
  have hnl0 : nl = 0 := by have := HNL.out; simpa using this.symm
  subst hnl0
  clear hm
  go_wp2_with (go_at_call 127; refine (HT.out w1).mono ?_; rintro e w2 ⟨rfl, hb2⟩; have y4 := (hb2.cell (p := ⟨w.heap.size, 4, none⟩) l1).trans c4; have z0 := (hb2.cell (p := ⟨b1, o1 + k, none⟩) hbs).trans g0)
  go_ret
  exact ⟨none, 0, rfl, Sl.nil _ _ _ _, Nat.le_refl _, by omega, fun b o h => (by cases h), HB1.out.trans (hb2.mono HB1.out.size)⟩
 obtain ⟨mp, hmp⟩ : ∃ mp, m = mp + 1 := ⟨m - 1, by omega⟩
 obtain ⟨u, hu⟩ : ∃ u, x[mp]? = some u := ⟨_, List.getElem?_eq_getElem (by omega)⟩
 have HXI := hide (fun (W : World) (hW : Below w.heap.size w W) => (HBK.out W hW).get HX.out)
 obtain ⟨b1, o1, A1, c1', hA1, hbb1, g0, hx1⟩ := HXI.out w1 HB1.out
 obtain ⟨b2, o2, A2, c2', hA2, hbb2, ⟨i0, i1, i2, i3, i4, i5, i6⟩, -⟩ := hx1.get hu
 rw [hm] at g0
 have hnl := HNM.out mp u hmp hu
 have hbs1 : b1 < w1.heap.size := by have := HB1.out.size; omega
 have hbs2 : b2 < w1.heap.size := by have := HB1.out.size; omega
 have HNX := hide (fun (W : World) => jqw u A2 u.args.length c2' W)
 rw [<- hnl] at HNX
 subst hA1
 subst hA2
 have hd1 : ((m : Int) == 0) = false := by simp; omega
 have hwr : IntKind.i64.wrap ((m : Int) - 1) = (mp : Int) := by rw [show (m : Int) - 1 = (mp : Int) by omega]; exact IntWalk.i64_in _ ⟨by omega, by omega⟩
 have hmm : mp < m := by omega
 have hmi : (0 : Int) <= (mp : Int) := by omega
 have hml : (mp : Int) < (m : Int) := by omega
 have HI7 := hide (fun (W : World) (hW : Below w1.heap.size w1 W) => And.intro ((hW.cell (p := ⟨b2, o2 + mp * 7, none⟩) hbs2).trans i0) (And.intro ((hW.cell (p := ⟨b2, o2 + mp * 7 + 1, none⟩) hbs2).trans i1) (And.intro ((hW.cell (p := ⟨b2, o2 + mp * 7 + 2, none⟩) hbs2).trans i2) (And.intro ((hW.cell (p := ⟨b2, o2 + mp * 7 + 3, none⟩) hbs2).trans i3) (And.intro ((hW.cell (p := ⟨b2, o2 + mp * 7 + 4, none⟩) hbs2).trans i4) (And.intro ((hW.cell (p := ⟨b2, o2 + mp * 7 + 5, none⟩) hbs2).trans i5) ((hW.cell (p := ⟨b2, o2 + mp * 7 + 6, none⟩) hbs2).trans i6)))))))
 rw [HNL.out] at HNX
 generalize u.args.length = la at *
 generalize u.op = xop, u.d = xd, u.a = xa, u.b = xb, u.n = xn, u.m = xm at *
 clear hx1 hu hnl hm hmp i0 i1 i2 i3 i4 i5 i6 hm0
 go_upto_region 3 with (go_at_call 127; refine (HT.out w1).mono ?_; rintro e w2 ⟨rfl, hb2⟩; have y4 := (hb2.cell (p := ⟨w.heap.size, 4, none⟩) l1).trans c4; have z0 := (hb2.cell (p := ⟨b1, o1 + k, none⟩) hbs1).trans g0)
 obtain ⟨i0, i1, i2, i3, i4, i5, i6⟩ := HI7.out w2 hb2
 have hz2 := hb2.size
 have hbs1' : b1 < w2.heap.size := by omega
 have hbs2' : b2 < w2.heap.size := by omega
 have l2 : w.heap.size < w2.heap.size := by omega
 have HB2 := hide (HB1.out.trans (hb2.mono HB1.out.size))
 have HX2 := hide (HX1.out.below hb2)
 clear hb2 c0 c1 c2 c3 c4 g0
 go_wp2_with (first
  | (go_at_call 129; refine (HD3.out).mono ?_; rintro e w4 ⟨rfl, hb4⟩)
  | (go_at_call 130; refine (HNX.out w2).mono ?_; rintro e w3 ⟨A3, c3, rfl, hs3, hl3, hm3, hn3, hb3⟩; have HD3 := hide (jlf nx (.slice A3 nl c3) w.heap.size ls w3 w3.heap.size (Nat.le_refl _) (by rw [<- HNL.out]; exact hs3.vec (by rw [HNL.out]; exact hl3) (by omega) HNR.out) ⟨_, _, _, _, _, _, _, _, _, _, HX2.out.below hb3⟩ HNI.out); have HB3 := hide (HB2.out.trans (hb3.mono HB2.out.size)); have HS3 := hide hs3; have HN3 := hide (fun b o h => Nat.le_trans HB2.out.size (hn3 b o h)); clear hb3 hs3 hn3))
 go_ret
 exact ⟨A3, c3, rfl, (HS3.out.below hb4).more hb4.size, hl3, hm3, HN3.out, HB3.out.trans (hb4.mono HB3.out.size)⟩
theorem jhx (vk vb vs : Value) (f : FunV) (z : Int) (w : World) (B : Nat) (hB : B <= w.heap.size) (hi : FunI w (· < B) vk vb vs f) (hok : jbn f) :
  Calls Tryz.prog 53 #[.agg #[vk, vb, .int .i64 f.params, .int .i64 f.result, vs], .int .i64 z] w fun e w' => ∃ A c, e = .returned (.slice A (nxtI f z).length c) /\ Sl w' w'.heap.size .i64 A (nxtI f z) /\ (nxtI f z).length <= c /\ c <= 2 /\ (∀ b o, A = some ⟨b, o, none⟩ -> w.heap.size <= b) /\ Below w.heap.size w w' := by
 obtain ⟨Ak, ck, rfl, hck, hmk⟩ := hi.1.open'
 obtain ⟨Ab, cb, rfl, hcb, hmb⟩ := hi.2.1.open'
 obtain ⟨As, cs, rfl, hcs, hms⟩ := hi.2.2.1.open'
 have HBK := hide (fun (W : World) (hW : Below w.heap.size w W) => hi.2.2.1.keep (up hW hB) (fun _ h => h))
 by_cases hin : inB 0 ((f.blocks.length : Int) - 1) z = true
 case neg =>
  have hin' := Bool.eq_false_iff.2 hin
  rw [jnc hin']
  obtain ⟨ls, hls⟩ := zl f.blocks.length
  rw [hls] at hin ⊢
  have hin3 : z < 0 \/ (0 <= z /\ (ls : Int) <= z) := by
   apply Classical.byContradiction; intro hc
   exact hin (inB_iff.2 (by omega))
  generalize f.kinds.length = lk, f.base.length = lb, f.params = fp, f.result = fr at *
  clear hin hin' hi hls hcs hck hcb
  rcases hin3 with h0 | ⟨h0, h1⟩
  ·go_enter Tryz.func53, Tryz.ntmps53
   go_wp2
   go_ret
   exact ⟨none, 0, rfl, Sl.nil _ _ _ _, Nat.le_refl _, by omega, fun b o h => (by cases h), ja4 w _⟩
  ·have h2 : decide (z < 0) = false := by simp; omega
   have h3 : decide ((ls : Int) <= z) = true := by simpa using h1
   go_enter Tryz.func53, Tryz.ntmps53
   go_wp2
   go_ret
   exact ⟨none, 0, rfl, Sl.nil _ _ _ _, Nat.le_refl _, by omega, fun b o h => (by cases h), ja4 w _⟩
 have hin2 := inB_iff.1 hin
 obtain ⟨k, hk⟩ : ∃ k : Nat, z = k := ⟨z.toNat, by omega⟩
 subst hk
 obtain ⟨ls, hls⟩ := zl f.blocks.length
 obtain ⟨x, hx⟩ : ∃ x, f.blocks[k]? = some x := ⟨_, List.getElem?_eq_getElem (by omega)⟩
 rw [jf1 (by omega)]
 have hxm := hok.2.1 x (List.mem_of_getElem? hx)
 have HNR := hide (nxt_R hok k)
 have HNI := hide (show ∀ v ∈ nxt f k, inB 0 ((f.blocks.length : Int) - 1) v = true from fun v hv => by have := hok.2.2 k v hv; rw [inB_iff]; omega)
 have hlen := jfl f k
 have HX := hide hx
 have HNM := hide (fun (mp : Nat) (u : InsV) (h1 : x.length = mp + 1) (h2 : x[mp]? = some u) => jnb hx h1 h2)
 have HN0 := hide (fun (h1 : x.length = 0) => jna hx h1)
 rw [hls] at hin hin2 HNI HBK hcs ⊢
 obtain ⟨nx, hnx⟩ := zl (nxt f k)
 rw [hnx] at HNR HNI HNM HN0 hlen ⊢
 obtain ⟨nl, hnl'⟩ := zl nx.length
 have HNL := hide hnl'
 rw [hnl'] at hlen ⊢
 clear hnl'
 generalize f.kinds.length = lk, f.base.length = lb, f.params = fp, f.result = fr at *
 have hkl : k < ls := by omega
 have hk0 : ¬ (k : Int) < 0 := by omega
 have hk1 : ¬ ls <= k := by omega
 clear hin hin2 hi hls hnx hx hok hck hcb
 go_enter Tryz.func53, Tryz.ntmps53
 go_upto_region 1 with (fail)
 obtain ⟨w1, hw1⟩ := zr (w.alloc (.cells #[.slice Ak lk ck, .slice Ab lb cb, .int .i64 fp, .int .i64 fr, .slice As ls cs] 52))
 have HX1 := zx1 hw1 rfl
 have HB1 := zb1 hw1
 rw [<- hw1]
 clear hw1
 have l1 := HX1.out.lt
 have c0 := (HX1.out.cell 0 (v := .slice Ak lk ck) rfl).1
 have c1 := (HX1.out.cell 1 (v := .slice Ab lb cb) rfl).1
 have c2 := (HX1.out.cell 2 (v := .int .i64 fp) rfl).1
 have c3 := (HX1.out.cell 3 (v := .int .i64 fr) rfl).1
 have c4 := (HX1.out.cell 4 (v := .slice As ls cs) rfl).1
 have hki : (0 : Int) <= (k : Int) := by omega
 have hkli : (k : Int) < (ls : Int) := by omega
 obtain ⟨m, hm⟩ := zl x.length
 rw [hm] at HNM HN0 hxm
 by_cases hm0 : m = 0
 ·obtain ⟨b1, o1, A1, c1', hA1, hbb1, g0, -⟩ := (HBK.out w1 HB1.out).get HX.out
  rw [hm] at g0
  have hbs : b1 < w1.heap.size := by have := HB1.out.size; omega
  have HNIL := hide (HN0.out hm0)
  have HZ := hide (show nl = 0 by rw [<- HNL.out, HNIL.out]; rfl)
  subst hA1
  subst hm0
  clear hm HN0 HNM
  go_wp2
  go_ret
  exact ⟨none, 0, by rw [HZ.out]; rfl, by rw [HNIL.out]; exact Sl.nil _ _ _ _, by rw [HZ.out]; exact Nat.le_refl _, by omega, fun b o h => (by cases h), HB1.out⟩
 obtain ⟨mp, hmp⟩ : ∃ mp, m = mp + 1 := ⟨m - 1, by omega⟩
 obtain ⟨u, hu⟩ : ∃ u, x[mp]? = some u := ⟨_, List.getElem?_eq_getElem (by omega)⟩
 have HXI := hide (fun (W : World) (hW : Below w.heap.size w W) => (HBK.out W hW).get HX.out)
 obtain ⟨b1, o1, A1, c1', hA1, hbb1, g0, hx1⟩ := HXI.out w1 HB1.out
 obtain ⟨b2, o2, A2, c2', hA2, hbb2, ⟨i0, i1, i2, i3, i4, i5, i6⟩, -⟩ := hx1.get hu
 rw [hm] at g0
 have hnl := HNM.out mp u hmp hu
 have hbs1 : b1 < w1.heap.size := by have := HB1.out.size; omega
 have hbs2 : b2 < w1.heap.size := by have := HB1.out.size; omega
 have HNX := hide (fun (W : World) => joi u A2 u.args.length c2' W)
 rw [<- hnl] at HNX
 subst hA1
 subst hA2
 have hd1 : ((m : Int) == 0) = false := by simp; omega
 have hwr : IntKind.i64.wrap ((m : Int) - 1) = (mp : Int) := by rw [show (m : Int) - 1 = (mp : Int) by omega]; exact IntWalk.i64_in _ ⟨by omega, by omega⟩
 have hmm : mp < m := by omega
 have hmi : (0 : Int) <= (mp : Int) := by omega
 have hml : (mp : Int) < (m : Int) := by omega
 rw [HNL.out] at HNX
 generalize u.args.length = la at *
 generalize u.op = xop, u.d = xd, u.a = xa, u.b = xb, u.n = xn, u.m = xm at *
 clear hx1 hu hnl hm hmp hm0
 go_wp2_with (go_at_call 72; refine (HNX.out w1).mono ?_; rintro e w3 ⟨A3, c3, rfl, hs3, hl3, hm3, hn3, hb3⟩)
 go_ret
 exact ⟨A3, c3, rfl, hs3, hl3, hm3, fun b o h => Nat.le_trans HB1.out.size (hn3 b o h), HB1.out.trans (hb3.mono HB1.out.size)⟩
theorem Sl.far {w w' : World} {B : Nat} {k : IntKind} {A : Option Addr} {zs : List Int} {own : Option Nat} (h : Sl w B k A zs) (hf : ∀ b o, A = some ⟨b, o, none⟩ -> some b ≠ own) (hk : ∀ p : Addr, p.block < B -> some p.block ≠ own -> w'.cell? p = w.cell? p) : Sl w' B k A zs := fun hp => by
 obtain ⟨b, o, e, hb, hc⟩ := h hp
 exact ⟨b, o, e, hb, fun j hj => (hk _ hb (hf b o e)).trans (hc j hj)⟩
theorem OwE.lt {w : World} {base : Nat} {v : Value} {es : List (Int × Int)} (h : OwE w base v es) : ∀ k, v.ownBlock = some k -> k < w.heap.size := fun k hk => (World.ownsRow.lt h k hk).2
theorem joa (vk vb vs : Value) (f : FunV) (w : World) (B : Nat) (hB : B <= w.heap.size) (hi : FunI w (· < B) vk vb vs f) (hok : jbn f) :
  Calls Tryz.prog 50 #[.agg #[vk, vb, .int .i64 f.params, .int .i64 f.result, vs]] w fun e w' => ∃ v, e = .returned v /\ OwE w' w.heap.size v (jbi f) /\ Below w.heap.size w w' := by
 obtain ⟨Ak, ck, rfl, hck, hmk⟩ := hi.1.open'
 obtain ⟨Ab, cb, rfl, hcb, hmb⟩ := hi.2.1.open'
 obtain ⟨As, cs, rfl, hcs, hms⟩ := hi.2.2.1.open'
 obtain ⟨i0, hi0, iz0, iz1, iz2⟩ := info_parts jru
 have HI := hide hi0
 clear hi0
 have HNX := hide (fun (W : World) (hW : Below w.heap.size w W) (k : Nat) (hk : k < f.blocks.length) => (show Calls Tryz.prog 53 #[.agg #[.slice Ak f.kinds.length ck, .slice Ab f.base.length cb, .int .i64 f.params, .int .i64 f.result, .slice As f.blocks.length cs], .int .i64 (k : Int)] W fun e w' => ∃ A c, e = .returned (.slice A (nxt f k).length c) /\ Sl w' w'.heap.size .i64 A (nxt f k) /\ (nxt f k).length <= c /\ c <= 2 /\ (∀ b o, A = some ⟨b, o, none⟩ -> W.heap.size <= b) /\ Below W.heap.size W w' by
  have h := jhx _ _ _ f (k : Int) W B (by have := hW.size; omega) (hi.keep (up hW hB) (fun _ h => h)) hok
  rw [jf1 hk] at h
  exact h))
 have hls40 := hok.1
 have HED := hide (show jcp f f.blocks.length = jbi f from rfl)
 obtain ⟨ls, hls⟩ := zl f.blocks.length
 rw [hls] at HNX hls40 HED hcs ⊢
 generalize jbi f = en at *
 generalize f.kinds.length = lk, f.base.length = lb, f.params = fp, f.result = fr at *
 clear hi hok hls
 go_enter Tryz.func50, Tryz.ntmps50
 go_upto_region 1 with (fail)
 obtain ⟨w1, hw1⟩ := zr (w.alloc (.cells #[.slice Ak lk ck, .slice Ab lb cb, .int .i64 fp, .int .i64 fr, .slice As ls cs] 52))
 have HX1 := zx1 hw1 rfl
 have HB1 := zb1 hw1
 rw [<- hw1]
 clear hw1
 have l1 := HX1.out.lt
 have c4 := (HX1.out.cell 4 (v := .slice As ls cs) rfl).1
 go_wp2
 go_loopw [3, 4] (fun l i wr => ∃ (v : Value) (k : Nat), v = l /\ k <= ls /\ i = .int .i64 k /\ Below w1.heap.size w1 wr /\ Hid (OwE wr w1.heap.size v (jcp f k))) (fun _ i _ => ls - (intOf i).toNat)
 case atStart => exact ⟨_, 0, rfl, Nat.zero_le _, rfl, Below.refl _ _, hide (OwE.nil _ _)⟩
 case round =>
  obtain ⟨v, k, rfl, hk, rfl, hb, how⟩ := hrel
  obtain ⟨wo, rfl⟩ := zr wr
  have hsz := hb.size
  have HBW := hide hb
  have HBEL := hide (HB1.out.trans (hb.mono HB1.out.size))
  have HXO := hide (HX1.out.below hb)
  clear hb
  clear c4
  have c0 := (HXO.out.cell 0 (v := .slice Ak lk ck) rfl).1
  have c1 := (HXO.out.cell 1 (v := .slice Ab lb cb) rfl).1
  have c2 := (HXO.out.cell 2 (v := .int .i64 fp) rfl).1
  have c3 := (HXO.out.cell 3 (v := .int .i64 fr) rfl).1
  have c4 := (HXO.out.cell 4 (v := .slice As ls cs) rfl).1
  have lo := HXO.out.lt
  by_cases hlt : k < ls
  case neg =>
   obtain rfl : k = ls := by omega
   have HO := hide (show OwE wo w.heap.size v en by rw [<- HED.out]; exact how.out.lower HB1.out.size)
   go_wp2
   go_ret
   exact ⟨_, rfl, HO.out, HBEL.out⟩
  have HNK := hide (HNX.out wo HBEL.out k hlt)
  have hnl2 := jfl f k
  have HE0 := hide (jlb f k)
  have HEA := hide (fun j (h : (nxt f k).length <= j) => jh6 h)
  have HES := hide (fun j (v : Int) (h : (nxt f k)[j]? = some v) => jlc h)
  have HEL := hide (fun j => jmm f k j)
  obtain ⟨nx, hnx⟩ := zl (nxt f k)
  rw [hnx] at HNK hnl2 HEA HES
  obtain ⟨nl, hnl⟩ := zl nx.length
  rw [hnl] at HNK hnl2 HEA
  have HNL := hide hnl
  have hlt' := how.out.lt
  have HLT := hide hlt'
  clear hnx hnl hlt'
  go_wp2_with (go_at_call 53; refine HNK.out.mono ?_; rintro e w3 ⟨A3, c3', rfl, hs3, hl3, hm3, hn3, hb3⟩; have hz3 := hb3.size; have HS3 := hide hs3; have HN3 := hide hn3; have HO3 := hide (how.out.below hb3); have HC3 := hide (HBW.out.trans (hb3.mono hsz)); clear hb3 hs3 hn3)
  clear c0 c1 c2 c3 c4
  go_loopw [3, 6] (fun l' i wr => ∃ (v : Value) (j : Nat), v = l' /\ j <= nl /\ i = .int .i64 j /\ Below w1.heap.size w1 wr /\ w3.heap.size <= wr.heap.size /\ Hid (OwE wr w1.heap.size v (jbv f k j)) /\ Hid (Sl wr w3.heap.size .i64 A3 nx) /\ Hid (∀ b o, A3 = some ⟨b, o, none⟩ -> b < w3.heap.size -> some b ≠ v.ownBlock)) (fun _ i _ => nl - (intOf i).toNat)
  case atStart => exact ⟨_, 0, rfl, Nat.zero_le _, rfl, HC3.out, Nat.le_refl _, hide (by rw [HE0.out]; exact HO3.out), HS3, hide (fun b o hA hb he => by have h1 := HN3.out b o hA; have h2 := HLT.out b he.symm; omega)⟩
  case round =>
   obtain ⟨v, j, rfl, hj, rfl, hbj, hgj, hoj, hsj, hdj⟩ := hrel
   obtain ⟨wq, rfl⟩ := zr wr
   have hszj := hbj.size
   have HBJ := hide hbj
   clear hbj
   by_cases hlj : j < nl
   ·obtain ⟨y, hy⟩ : ∃ y, nx[j]? = some y := ⟨_, List.getElem?_eq_getElem (by have := HNL.out; omega)⟩
    obtain ⟨b3, o3, rfl, hb3, hc3⟩ := hsj.out (by have := HNL.out; omega)
    have cj := hc3 j (by have := HNL.out; omega)
    rw [List.getD_eq_getElem?_getD, hy] at cj
    simp only [Option.getD_some] at cj
    have hb3s : b3 < wq.heap.size := by omega
    have HST := hide (HES.out j y hy)
    have hel := HEL.out j
    have hro : (jbv f k j).length < 1000000 := by omega
    have HRO := hide hro
    clear hc3 hy hel hro
    go_wp2_with (at_builtin; refine jes wq rfl (.tmp 23) (.tmp 30) _ rfl w1.heap.size i0 _ Tryz.underlying103 HI.out iz0 iz1 iz2 rfl v (jbv f k j) (by rfl) hoj.out (k : Int) y (by rfl) HRO.out hszj ?_; intro v5 w5 ho5 hb5 hf5 hv5)
    have ho5' : OwE w5 w1.heap.size v5 (jbv f k (j + 1)) := by rw [<- HST.out]; exact ho5
    have hg5 : w3.heap.size <= w5.heap.size := by
     rcases Nat.lt_or_ge w5.heap.size wq.heap.size with h | h
     ·exact absurd (hb5.size) (by have := hb5.size; omega)
     ·omega
    go_roundw
    case rel => exact ⟨v5, j + 1, rfl, by omega, by go_num, HBJ.out.trans hb5, hg5, hide ho5', hide (hsj.out.far (fun b o hA => hdj.out b o hA (by cases hA; omega)) (fun p hp hne => hf5 p (by omega) hne)), hide (fun b o hA hb => by
      rcases hv5 with h | h
      ·rw [h]; exact hdj.out b o hA hb
      ·rw [h]; intro hc; injection hc with hc; omega)⟩
    case measure => simp [intOf]; omega
   ·obtain rfl : j = nl := by omega
    have HO := hide (show OwE wq w1.heap.size v (jcp f (k + 1)) by rw [<- HEA.out j (Nat.le_refl _)]; exact hoj.out)
    go_wp2
    go_roundw
    case rel => exact ⟨_, k + 1, rfl, by omega, by go_num, HBJ.out, HO⟩
    case measure => simp [intOf]; omega
theorem jp2 {f : FunV} (hok : jbn f) : (jbi f).length <= 80 := by
 have h1 := jh5 f f.blocks.length
 have h2 := hok.1
 unfold jbi
 omega
theorem jj2 {l : List Int} {z y : Int} {k : Nat} (h : z ∉ l.take k) (hy : l[k]? = some y) (hz : ¬ y = z) : z ∉ l.take (k + 1) := by
 rw [List.take_add_one, hy]
 intro hm
 rcases List.mem_append.1 hm with h1 | h1
 ·exact h h1
 ·simp at h1; exact hz h1.symm
end Go.Proofs.YthbnbaikdcfbmaaGreatDoor
