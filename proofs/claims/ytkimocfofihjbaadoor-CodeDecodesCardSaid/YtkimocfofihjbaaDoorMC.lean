/- The contracts of the writer's put and putSigned. Condition: no more than 2^30 bytes. -/
import Derived.Test.YtkimocfofihjbaaDoorMB
import Derived.Test.YtkimocfofihjbaaDoorMV
import Derived.Deep.RegionHeld3
import Derived.Deep.RegionLaw
import Derived.Deep.AppendLies
import Derived.Deep.DrawnRows
set_option linter.unusedSimpArgs false
set_option linter.unusedVariables false
namespace Go.Proofs.YtkimocfofihjbaaDoor
open Go.RowKit
attribute [local go_sem ↓] Go.wp_at_zero Go.wp_at_succ

section
variable {P : Program} (w : World)
/-- append(v, x..) at a step of a region that draws its order: v the call's own, x a slice that reads as 'news', nil or not. -/
theorem step_append_sl {ops : Array Oper} {o : Oper} {a : Act} {K : Act → World → Prop} {Q : Exit → Act → World → Prop} {E : Prop} (hgd : o.guard = none) (s x : Operand) (t : TypeId)
    (ho : o.op = .call { callee := .builtin .append, args := #[s, x], argTypes := #[t, t] })
    (base : Nat) (e : TypeId) (k : IntKind) (i : TypeInfo) (z : Value) (bytes : Nat) (ht : P.underlying t = some (.slice e)) (hi : P.info? e = some i) (hz : i.zero = some z)
    (hsize : i.size = 1) (hby : i.bytes = bytes) (hzs : z.cells.size = 1) (hb8 : bytes ≤ 8)
    (v : Value) (zs : List Int) (hs : a.eval s = v) (hown : Ow w base e k v zs)
    (B : Nat) (A : Option Addr) (m c : Nat) (news : List Int) (hx : a.eval x = .slice A m c) (hm : news.length = m) (hr : Sl w B k A news)
    (hroom : zs.length + m ≤ 1099511627776) (hbase : base ≤ w.heap.size)
    (h : ∀ v' w', Ow w' base e k v' (zs ++ news) → w.grownBy w' v.ownBlock → K (a.put o.dst v') w') :
    if Region.wanted o (yielded ops a.tmps) = true then Oper.wp P o a w K Q else E := by
  subst hm
  have hw : Region.wanted o (yielded ops a.tmps) = true := by simp [Region.wanted, hgd]
  rw [if_pos hw]
  have key : ∃ v' w', (Builtin.append_ #[t, t] o.type #[v, .slice A news.length c]).run P w = .ok v' w' ∧ Ow w' base e k v' (zs ++ news) ∧ w.grownBy w' v.ownBlock := by
    by_cases h0 : news = []
    · subst h0
      refine ⟨v, w, ?_, by simpa using hown, World.grownBy.refl _ _⟩
      rcases hown.2 with ⟨rfl, _⟩ | ⟨g, cap, cur, rfl, _, _, hnc, _⟩
      · cases A <;> simp [Builtin.append_, run_underlying ht, sizeOf, typeInfo, hi, Builtin.lenOf, Builtin.firstCells, loadCells, loadCellsFrom]
      · cases A <;> simp [Builtin.append_, run_underlying ht, sizeOf, typeInfo, hi, Builtin.lenOf, Builtin.firstCells, hnc, storeCells, loadCells, loadCellsFrom]
        all_goals simp [List.length_map] at hnc
        all_goals first | omega | (simp [storeCells])
    · obtain ⟨b, off, rfl, _, hc⟩ := hr (List.length_pos_iff.2 h0)
      obtain ⟨v', w', hrun, h2, h3, _⟩ := run_append_own (P := P) w base t o.type e i z 1 bytes ht hi hz hsize hby hzs (by omega) v zs.length (zs.map (Value.int k)) hown ⟨b, off, none⟩ news.length c (news.map (Value.int k)) (by simp)
        (fun j u hu => by
          have hj : j < news.length := by have := (List.getElem?_eq_some_iff.1 hu).1; simpa using this
          rw [Addr.add_lit, hc j hj]
          rw [← hu]
          simp [List.getD, hj]) (ints_one k news) (by simp only [maxLen]; omega)
        (by have : (zs.length + news.length) * bytes ≤ 1099511627776 * 8 := Nat.mul_le_mul hroom hb8; omega) hbase
      exact ⟨v', w', hrun, by unfold Ow; simpa using h2, h3⟩
  obtain ⟨v', w', hrun, h2, h3⟩ := key
  unfold Oper.wp execOp
  simp only [ho, resolve, invoke, builtin, Sem.run_bind, Sem.run_pure, Result.andThen_ok, List.map_toArray, List.map_cons, List.map_nil, hs, hx, hrun]
  exact h v' w' h2 h3
end

/-- The writer: a block with the slice that it owns. -/
def WS (w : World) (g base : Nat) (zs : List Int) : Prop := ∃ v, Box w g #[v] 63 ∧ Ow w base 5 .u8 v zs ∧ base ≤ g
/-- What a writer's method leaves. -/
structure Wrote (w : World) (g base : Nat) (zs : List Int) (w' : World) : Prop where
  ws : WS w' g base zs
  below : Below base w w'
  kept : Lib.OthersKept 5 (some g) w w'
theorem Ow.row {w : World} {base : Nat} {e : TypeId} {k : IntKind} {v : Value} {zs : List Int} (h : Ow w base e k v zs) : ∀ g, v.ownBlock = some g → base ≤ g ∧ ∃ c fz, w.heap[g]? = some (.cells c e fz) := fun g hg => by
  rcases h.2 with ⟨rfl, _⟩ | ⟨g', cap, cur, rfl, hb, hgg, _⟩
  · simp [Value.ownBlock] at hg
  · simp [Value.ownBlock] at hg
    subst hg
    exact ⟨hb, cur, _, hgg⟩
theorem Ow.apart {w : World} {base g : Nat} {k : IntKind} {v : Value} {zs : List Int} {cs : Array Value} {e T : TypeId} (h : Ow w base e k v zs) (hb : Box w g cs T) (hT : T ≠ e) : v.ownBlock ≠ some g := fun hv => by
  obtain ⟨-, c, fz, hc⟩ := h.row g hv
  rw [Box] at hb
  rw [hb] at hc
  injection hc with hc
  injection hc with _ h2 _
  exact hT h2
theorem Wrote.mk' {w w1 w2 : World} {g base : Nat} {v v2 : Value} {zs ys : List Int} (hb : Box w g #[v] 63) (ho : Ow w base 5 .u8 v zs) (hg : base ≤ g) (hb1 : Below w.heap.size w w1) (ho2 : Ow w2 base 5 .u8 v2 ys) (hgr : w1.grownBy w2 v.ownBlock) :
    Wrote w g base ys (w2.setCell ⟨g, 0, none⟩ v2) := by
  have hlt := hb.lt
  have hsz := hb1.size
  have hap := ho.apart hb (by decide)
  have hB1 : Box w1 g #[v] 63 := hb.below hb1
  have hB2 : Box w2 g #[v] 63 := (hgr.block g (by omega) (fun h => hap h.symm)).trans hB1
  have hB3 := hB2.set 0 v2
  have k1 : Lib.OthersKept 5 (some g) w w1 := fun k o hk _ _ => (hb1.block k (Array.getElem?_eq_some_iff.1 hk).1).trans hk
  have hne : ∀ j, v2.ownBlock = some j → j ≠ g := fun j hj hjg => (ho2.apart hB2 (by decide)) (by rw [hj, hjg])
  refine ⟨⟨v2, hB3, ?_, hg⟩, ?_, ?_⟩
  · refine ⟨ho2.1, ?_⟩
    rcases ho2.2 with h2 | ⟨g', cap, cur, hv, hbg, hh, r⟩
    · exact .inl h2
    · refine .inr ⟨g', cap, cur, hv, hbg, ?_, r⟩
      rw [heap_setCell_other _ _ _ _ (hne g' (by rw [hv]; rfl))]
      exact hh
  · refine Below.setCell ((hb1.mono (by omega)).grown hgr (by omega) fun k hk => (ho.row k hk).1) hg _
  · refine Lib.OthersKept.setCell (k1.grown hgr fun j hj => ?_) _ rfl _
    obtain ⟨-, c, fz, hc⟩ := ho.row j hj
    exact ⟨c, fz, (hb1.block j (Array.getElem?_eq_some_iff.1 hc).1).trans hc⟩

set_option maxRecDepth 100000 in
theorem put_any (va : Value) (l : List Int) (g base : Nat) (zs : List Int) (w : World) (hW : WS w g base zs) (hl : IntsV w (· < w.heap.size) va l) (hn : l.length ≤ 1000) (hroom : zs.length ≤ 1073741824) :
    Calls Tryd.prog 32 #[.pointer (some ⟨g, 0, none⟩), va] w fun e w' => e = .returned (.tuple #[]) ∧ Wrote w g base (zs ++ encL l) w' := by
  obtain ⟨v, hb, ho, hg⟩ := hW
  obtain ⟨i0, hi0, hz0, hz1, hz2⟩ := info_parts info_u8
  obtain ⟨A, c, rfl, -, -, hsl, hr⟩ := hl.sl
  have hll := encL_len l (fun z hz => (hr z hz).2)
  have HL := hide (fun q => list_any A l.length c l (w.drewN q) hsl rfl (by omega) hr)
  have hmk := hide (fun w1 w2 v2 (h1 : Below w.heap.size w w1) (h2 : Ow w2 base 5 .u8 v2 (zs ++ encL l)) (h3 : w1.grownBy w2 v.ownBlock) => Wrote.mk' hb ho hg h1 h2 h3)
  obtain ⟨A0, c0, rfl, -, -, -⟩ := ho.sl
  have hc := (hb.cell 0 (v := .slice A0 zs.length c0) rfl).1
  have hf := (hb.cell 0 (v := .slice A0 zs.length c0) rfl).2
  have hlt := hb.lt
  have hap := ho.apart hb (by decide)
  have HO := hide ho
  have HI := hide hi0
  generalize l.length = n at *
  clear hsl hr hl hb ho hi0
  go_enter Tryd.func32, Tryd.ntmps32
  go_wp2_with fail
  go_region_law
    (first
      | (refine step_append_sl _ (by rfl) _ _ _ (by rfl) base 5 .u8 i0 _ 1 Tryd.underlying22 HI.out hz0 hz1 hz2 rfl (by omega) (.slice A0 zs.length c0) zs (by rfl) (HO.out.below hb1) w1.heap.size A1 _ c1 (encL l) (by rfl) rfl hs1 (by omega) (by omega) ?_; intro v2 w2 ho2 hgr; obtain ⟨A2, c2, rfl, -, -, -⟩ := ho2.sl; have hcg := (hgr.cell_far ⟨g, 0, none⟩ (by simp; omega) (Ne.symm hap)).trans ((hb1.cell (p := ⟨g, 0, none⟩) hlt).trans hc); have hfg := (hgr.frozen_far ⟨g, 0, none⟩ (by simp; omega) (Ne.symm hap)).trans ((hb1.frozen (p := ⟨g, 0, none⟩) hlt).trans hf))
      | (rw [if_pos (by rfl)]; go_simp; go_at_call 45; refine (HL.out 1).mono ?_; rintro e w1 ⟨v1, rfl, ho1, hb0⟩; have hb1 : Below w.heap.size w w1 := ⟨hb0.os, hb0.tape, hb0.output, hb0.size, hb0.block⟩; have hz := hb1.size; have hcg := (hb1.cell (p := ⟨g, 0, none⟩) hlt).trans hc; obtain ⟨A1, c1, rfl, -, -, hs1⟩ := ho1.sl))
  all_goals
    have hend := hmk.out w1 w2 _ hb1 ho2 hgr
    rw [List.length_append] at hend
    have HE := hide hend
    clear hend
    go_end0
    exact ⟨rfl, HE.out⟩

set_option maxRecDepth 100000 in
theorem putSigned_any (x : Int) (g base : Nat) (zs : List Int) (w : World) (hW : WS w g base zs) (hx : i64R x) (hroom : zs.length ≤ 1073741824) :
    Calls Tryd.prog 52 #[.pointer (some ⟨g, 0, none⟩), .int .i64 x] w fun e w' => e = .returned (.tuple #[]) ∧ Wrote w g base (zs ++ enc (zz x)) w' := by
  obtain ⟨v, hb, ho, hg⟩ := hW
  obtain ⟨i0, hi0, hz0, hz1, hz2⟩ := info_parts info_u8
  have hll := enc_len10 (zz_lt hx)
  have HL := hide (fun q => puts_any none 0 0 [] x (w.drewN q) (Sl.nil _ _ _ _) rfl (by omega) hx)
  have hmk := hide (fun w1 w2 v2 (h1 : Below w.heap.size w w1) (h2 : Ow w2 base 5 .u8 v2 (zs ++ enc (zz x))) (h3 : w1.grownBy w2 v.ownBlock) => Wrote.mk' hb ho hg h1 h2 h3)
  obtain ⟨A0, c0, rfl, -, -, -⟩ := ho.sl
  have hc := (hb.cell 0 (v := .slice A0 zs.length c0) rfl).1
  have hf := (hb.cell 0 (v := .slice A0 zs.length c0) rfl).2
  have hlt := hb.lt
  have hap := ho.apart hb (by decide)
  have HO := hide ho
  have HI := hide hi0
  generalize enc (zz x) = ez at *
  clear hb ho hi0
  go_enter Tryd.func52, Tryd.ntmps52
  go_wp2_with fail
  go_region_law
    (first
      | (refine step_append_sl _ (by rfl) _ _ _ (by rfl) base 5 .u8 i0 _ 1 Tryd.underlying22 HI.out hz0 hz1 hz2 rfl (by omega) (.slice A0 zs.length c0) zs (by rfl) (HO.out.below hb1) w1.heap.size A1 _ c1 ez (by rfl) rfl hs1 (by omega) (by omega) ?_; intro v2 w2 ho2 hgr; obtain ⟨A2, c2, rfl, -, -, -⟩ := ho2.sl; have hcg := (hgr.cell_far ⟨g, 0, none⟩ (by simp; omega) (Ne.symm hap)).trans ((hb1.cell (p := ⟨g, 0, none⟩) hlt).trans hc); have hfg := (hgr.frozen_far ⟨g, 0, none⟩ (by simp; omega) (Ne.symm hap)).trans ((hb1.frozen (p := ⟨g, 0, none⟩) hlt).trans hf))
      | (rw [if_pos (by rfl)]; go_simp; go_at_call 56; refine (HL.out 1).mono ?_; rintro e w1 ⟨v1, rfl, ho1, hb0⟩; rw [List.nil_append] at ho1; have hb1 : Below w.heap.size w w1 := ⟨hb0.os, hb0.tape, hb0.output, hb0.size, hb0.block⟩; have hz := hb1.size; have hcg := (hb1.cell (p := ⟨g, 0, none⟩) hlt).trans hc; obtain ⟨A1, c1, rfl, -, -, hs1⟩ := ho1.sl))
  all_goals
    have hend := hmk.out w1 w2 _ hb1 ho2 hgr
    rw [List.length_append] at hend
    have HE := hide hend
    clear hend
    go_end0
    exact ⟨rfl, HE.out⟩
end Go.Proofs.YtkimocfofihjbaaDoor
namespace Go.Proofs.YtkimocfofihjbaaDoor
open Go.RowKit

def encPart (x : InsV) (c : Nat) : List Int := if c = 110 then enc (zz x.n) else if c = 76 then encL [(x.args.length : Int)] ++ encL x.args else encL [fieldOf c x]
def encIns (x : InsV) : List Int := encL [x.op] ++ (partsN x.op).flatMap (encPart x)

theorem IntsV.lit (w : World) (l : List Int) (cs : Array Value) (T : TypeId) (h : cs.toList = l.map (Value.int .i64)) (hr : ∀ z ∈ l, i64R z) (hl : l.length ≤ 100) :
    IntsV (w.alloc (.cells cs T)) (· < (w.alloc (.cells cs T)).heap.size) (.slice (some ⟨w.heap.size, 0, none⟩) l.length l.length) l := by
  refine ⟨_, _, rfl, Nat.le_refl _, by omega, fun _ => ⟨_, _, rfl, by simp, fun j z hj => ⟨?_, hr z (List.mem_of_getElem? hj)⟩⟩⟩
  rw [(Box.new w cs T).cell (0 + j * 1) (v := .int .i64 z) ?_ |>.1]
  rw [← Array.getElem?_toList, h, List.getElem?_map, Nat.zero_add, Nat.mul_one, hj]; rfl
theorem WS.alloc {w : World} {g base : Nat} {zs : List Int} (h : WS w g base zs) (o : Obj) : WS (w.alloc o) g base zs := by
  obtain ⟨v, hb, ho, hg⟩ := h
  exact ⟨v, hb.alloc o, ho.alloc o, hg⟩
theorem WS.lt {w : World} {g base : Nat} {zs : List Int} (h : WS w g base zs) : base ≤ g ∧ g < w.heap.size := by
  obtain ⟨v, hb, ho, hg⟩ := h
  exact ⟨hg, hb.lt⟩
theorem Wrote.refl {w : World} {g base : Nat} {zs : List Int} (h : WS w g base zs) : Wrote w g base zs w := ⟨h, Below.refl _ _, Lib.OthersKept.refl _ _ _⟩
section
variable {w w1 w2 : World} {g base : Nat} {zs ys : List Int}
theorem Wrote.alloc (h : Wrote w g base zs w1) (o : Obj) : Wrote w g base zs (w1.alloc o) :=
  ⟨h.ws.alloc o, h.below.alloc (by have := h.ws.lt; omega) o, h.kept.alloc o⟩
theorem Wrote.trans (h : Wrote w g base zs w1) (h2 : Wrote w1 g base ys w2) : Wrote w g base ys w2 := ⟨h2.ws, h.below.trans h2.below, h.kept.trans h2.kept⟩
theorem Ow.iter {w : World} {base k : Nat} {e : TypeId} {q : IntKind} {v : Value} {zs : List Int} {s : ByteArray} {p p' : Nat} (h : Ow w base e q v zs) (hk : w.heap[k]? = some (.stringIter s p)) : Ow (w.iterAt k s p') base e q v zs := by
  refine ⟨h.1, ?_⟩
  rcases h.2 with h2 | ⟨g', cap, cur, hv, hbg, hh, r⟩
  · exact .inl h2
  · refine .inr ⟨g', cap, cur, hv, hbg, ?_, r⟩
    rw [Lib.iterAt_other _ _ _ _ _ (fun e => by rw [e, hk] at hh; cases hh)]
    exact hh
theorem Wrote.iter {k : Nat} {s : ByteArray} {p p' : Nat} (h : Wrote w g base zs w1) (hk : w1.heap[k]? = some (.stringIter s p)) (hw : w.heap.size ≤ k) (hbw : base ≤ w.heap.size) : Wrote w g base zs (w1.iterAt k s p') := by
  obtain ⟨⟨v, hb, ho, hg⟩, h2, h3⟩ := h
  have hne : g ≠ k := fun e => by rw [Box, e, hk] at hb; cases hb
  refine ⟨⟨v, hb.iter hne, ho.iter hk, hg⟩, Lib.below_iterAt h2 (by omega) s p', fun i o hi hib ho' => ?_⟩
  rw [Lib.iterAt_other _ _ _ _ _ (by have := (Array.getElem?_eq_some_iff.1 hi).1; omega)]
  exact h3 i o hi hib ho'
theorem Wrote.cast (h : Wrote w g base zs w1) (e : zs = ys) : Wrote w g base ys w1 := e ▸ h
end
theorem flatMap_take {α : Type} {l : List α} {k : Nat} {c : α} {f : α → List Int} (h : l[k]? = some c) : (l.take (k + 1)).flatMap f = (l.take k).flatMap f ++ f c := by
  rw [List.take_add_one, h]; simp
theorem flatMap_take_le {α : Type} (l : List α) (k : Nat) (f : α → List Int) : ((l.take k).flatMap f).length ≤ (l.flatMap f).length := by
  conv => rhs; rw [← List.take_append_drop k l, List.flatMap_append, List.length_append]
  omega

def WInsRel (x : InsV) (va : Value) (w : World) (g base : Nat) (zs : List Int) (h H : Nat) (wr : World) : Prop :=
  ∃ k : Nat, k ≤ (partsN x.op).length ∧ wr.heap[H]? = some (.stringIter (strOf (partsN x.op)) k) ∧ Box wr h (insBox x va) 40 ∧ Wrote w g base (zs ++ encL [x.op] ++ ((partsN x.op).take k).flatMap (encPart x)) wr

set_option maxHeartbeats 1000000 in
set_option maxRecDepth 100000 in
theorem wins_any (va : Value) (x : InsV) (g base : Nat) (zs : List Int) (w : World) (B : Nat) (hB : B ≤ base) (hB0 : 0 < base) (hbw : base ≤ w.heap.size) (hW : WS w g base zs) (hT : TabP w) (hx : InsI w (· < B) va x) (hargs : x.args.length ≤ 4) (hroom : zs.length + (encIns x).length ≤ 1073741824) :
    Calls Tryd.prog 46 #[.pointer (some ⟨g, 0, none⟩), .agg #[.int .i64 x.op, .int .i64 x.d, .int .i64 x.a, .int .i64 x.b, .int .i64 x.n, .int .i64 x.m, va]] w fun e w' => e = .returned (.tuple #[]) ∧ Wrote w g base (zs ++ encIns x) w' := by
  obtain ⟨hx, hop, hrd, hra, hrb, hrn, hrm⟩ := hx
  have hl1 : (encIns x).length = (encL [x.op]).length + ((partsN x.op).flatMap (encPart x)).length := by unfold encIns; rw [List.length_append]
  have hl2 := fun k => flatMap_take_le (partsN x.op) k (encPart x)
  have HP := hide (fun (W : World) (hW : Below base w W) => parts_any x.op W (hT.below hW hB0) hop)
  have HL := hide (partsN_letter x.op)
  obtain ⟨A, c, rfl, hac, hcm⟩ := hx.open'
  obtain ⟨n, hn⟩ : ∃ n, x.args.length = n := ⟨_, rfl⟩
  rw [hn] at hx hargs ⊢
  have HN := hide hn
  have HX := hide hx
  have HW := hide hW
  have HR := hide hroom
  have HL1 := hide hl1
  have HL2 := hide hl2
  have hgw := hW.lt.2
  have HOP := hide hop
  have HRS := hide (show i64R x.d ∧ i64R x.a ∧ i64R x.b ∧ i64R x.n ∧ i64R x.m from ⟨hrd, hra, hrb, hrn, hrm⟩)
  clear hop hrd hra hrb hrn hrm hW hx hn hT hroom hl1 hl2
  have hp1 := put_any (.slice (some ⟨w.heap.size + 1, 0, none⟩) 1 1) [x.op] g base zs ((w.alloc (.cells (insBox x (.slice A n c)) 40)).alloc (.cells #[.int .i64 x.op] 3)) ((HW.out.alloc _).alloc _)
    (by have := IntsV.lit (w.alloc (.cells (insBox x (.slice A n c)) 40)) [x.op] #[.int .i64 x.op] 3 rfl (by simpa using HOP.out) (by simp); simpa using this) (by simp) (by have := HR.out; omega)
  have H1 := hide hp1
  clear hp1
  go_enter Tryd.func46, Tryd.ntmps46
  go_wp2_with (first
    | (go_at_call 32; refine H1.out.mono ?_; rintro e w1 ⟨rfl, hw1⟩
       have hbx : Box w1 w.heap.size (insBox x (.slice A n c)) 40 := ((Box.new w _ _).alloc _).kept hw1.kept (by omega) (by decide)
       have hw2 := (((Wrote.refl HW.out).alloc (.cells (insBox x (.slice A n c)) 40)).alloc (.cells #[.int .i64 x.op] 3)).trans hw1
       have x0 := (hbx.cell 0 (v := .int .i64 x.op) rfl).1)
    | (go_at_call 8; refine (HP.out _ hw2.below).mono ?_; rintro e w' ⟨rfl, rfl⟩))
  go_loopw [] (fun wr => WInsRel x (.slice A n c) w g base zs w.heap.size w1.heap.size wr) (fun wr => (partsN x.op).length - wr.iterPos w1.heap.size)
  case atStart => exact ⟨0, Nat.zero_le _, World.iter_heap w1 _ 0, hbx.alloc _, (hw2.alloc _).cast (by simp)⟩
  case round =>
    obtain ⟨k, hk, hit, hbr, hwr⟩ := hrel
    have hH := iter_lt hit
    have hsz := hwr.below.size
    have hpos0 := iterPos_of hit
    have hHw : w.heap.size ≤ w1.heap.size := hw2.below.size
    have hlt0 := hbx.lt
    obtain ⟨H, hHe⟩ : ∃ H, w1.heap.size = H := ⟨_, rfl⟩
    have hwH := hw2.below.size
    rw [hHe] at hit hH hwH hpos0 hHw hlt0 ⊢
    by_cases hlt : k < (partsN x.op).length
    · obtain ⟨c0, hc0⟩ : ∃ c0, (partsN x.op)[k]? = some c0 := ⟨_, List.getElem?_eq_getElem hlt⟩
      have hlc := HL.out c0 (List.mem_of_getElem? hc0)
      have hnx : ∀ ty, (Instr.next (.pointer (some ⟨H, 0, none⟩)) true ty).run Tryd.prog wr = _ := fun ty => next_letter wr H k c0 _ ty hit HL.out hc0
      have hit2 := Lib.iterAt_heap wr H (strOf (partsN x.op)) k (k + 1) hit
      have hbx2 := hbr.iter (k := H) (s := strOf (partsN x.op)) (p := k + 1) (by omega)
      have hwI := hwr.iter (p' := k + 1) hit hwH hbw
      obtain ⟨W1, hW1⟩ : ∃ W1, W1 = wr.iterAt H (strOf (partsN x.op)) (k + 1) := ⟨_, rfl⟩
      rw [← hW1] at hnx hit2 hbx2 hwI
      have hfm := flatMap_take (f := encPart x) hc0
      have hle := HL2.out (k + 1)
      rw [hfm, List.length_append] at hle
      have hrm1 := HR.out
      rw [HL1.out] at hrm1
      obtain ⟨pre, hpre⟩ : ∃ pre, zs ++ encL [x.op] ++ ((partsN x.op).take k).flatMap (encPart x) = pre := ⟨_, rfl⟩
      have hpl := congrArg List.length hpre
      simp only [List.length_append] at hpl
      rw [hpre] at hwI
      have HFM := hide (show zs ++ encL [x.op] ++ ((partsN x.op).take (k + 1)).flatMap (encPart x) = pre ++ encPart x c0 by rw [hfm, ← List.append_assoc, hpre])
      have HRM := hide (show pre.length + (encPart x c0).length ≤ 1073741824 by omega)
      have HBX := hide hbx2
      have HIT := hide hit2
      have HWI := hide hwI
      have HK := hide hlt
      have HP0 := hide hpos0
      have y1 := (hbx2.cell 1 (v := .int .i64 x.d) rfl).1
      have y2 := (hbx2.cell 2 (v := .int .i64 x.a) rfl).1
      have y3 := (hbx2.cell 3 (v := .int .i64 x.b) rfl).1
      have y4 := (hbx2.cell 4 (v := .int .i64 x.n) rfl).1
      have y5 := (hbx2.cell 5 (v := .int .i64 x.m) rfl).1
      have y6 := (hbx2.cell 6 (v := .slice A n c) rfl).1
      have hq1 := hbx2.lt
      have hgH : H ≠ g := by omega
      clear hW1 hit hbr hwr hit2 hbx2 hwI hc0 hsz hH hpos0 hlt hfm hle hrm1 hpre hpl hHe hlt0
      unfold isLetter at hlc
      rcases hlc with rfl | rfl | rfl | rfl | rfl | rfl | rfl
      · have hep := hide (show encPart x 68 = encL [x.d] from rfl)
        have hp2 := hide (put_any (.slice (some ⟨W1.heap.size, 0, none⟩) 1 1) [x.d] g base pre (W1.alloc (.cells #[.int .i64 x.d] 3)) (HWI.out.ws.alloc _)
          (by have := IntsV.lit W1 [x.d] #[.int .i64 x.d] 3 rfl (by simpa using HRS.out.1) (by simp); simpa using this) (by simp) (by have := HRM.out; omega))
        go_wp2_with (first
          | (go_at_call 43; refine (field_at _ 68 1 _ (by unfold isLetter; omega) rfl).mono ?_; rintro e w' ⟨rfl, rfl⟩)
          | (go_at_call 32; refine hp2.out.mono ?_; rintro e w3 ⟨rfl, hw3⟩))
        go_roundw
        case rel => exact ⟨k + 1, HK.out, hw3.kept.iter ((Below.heap_alloc _ _ _ (iter_lt HIT.out)).trans HIT.out) hgH, (HBX.out.alloc _).kept hw3.kept (by omega) (by decide), ((HWI.out.alloc _).trans hw3).cast (by rw [HFM.out, hep.out])⟩
        case measure => rw [iterPos_of (hw3.kept.iter ((Below.heap_alloc _ _ _ (iter_lt HIT.out)).trans HIT.out) hgH), HP0.out]; have := HK.out; omega
      · have hep := hide (show encPart x 65 = encL [x.a] from rfl)
        have hp2 := hide (put_any (.slice (some ⟨W1.heap.size, 0, none⟩) 1 1) [x.a] g base pre (W1.alloc (.cells #[.int .i64 x.a] 3)) (HWI.out.ws.alloc _)
          (by have := IntsV.lit W1 [x.a] #[.int .i64 x.a] 3 rfl (by simpa using HRS.out.2.1) (by simp); simpa using this) (by simp) (by have := HRM.out; omega))
        go_wp2_with (first
          | (go_at_call 43; refine (field_at _ 65 2 _ (by unfold isLetter; omega) rfl).mono ?_; rintro e w' ⟨rfl, rfl⟩)
          | (go_at_call 32; refine hp2.out.mono ?_; rintro e w3 ⟨rfl, hw3⟩))
        go_roundw
        case rel => exact ⟨k + 1, HK.out, hw3.kept.iter ((Below.heap_alloc _ _ _ (iter_lt HIT.out)).trans HIT.out) hgH, (HBX.out.alloc _).kept hw3.kept (by omega) (by decide), ((HWI.out.alloc _).trans hw3).cast (by rw [HFM.out, hep.out])⟩
        case measure => rw [iterPos_of (hw3.kept.iter ((Below.heap_alloc _ _ _ (iter_lt HIT.out)).trans HIT.out) hgH), HP0.out]; have := HK.out; omega
      · have hep := hide (show encPart x 66 = encL [x.b] from rfl)
        have hp2 := hide (put_any (.slice (some ⟨W1.heap.size, 0, none⟩) 1 1) [x.b] g base pre (W1.alloc (.cells #[.int .i64 x.b] 3)) (HWI.out.ws.alloc _)
          (by have := IntsV.lit W1 [x.b] #[.int .i64 x.b] 3 rfl (by simpa using HRS.out.2.2.1) (by simp); simpa using this) (by simp) (by have := HRM.out; omega))
        go_wp2_with (first
          | (go_at_call 43; refine (field_at _ 66 3 _ (by unfold isLetter; omega) rfl).mono ?_; rintro e w' ⟨rfl, rfl⟩)
          | (go_at_call 32; refine hp2.out.mono ?_; rintro e w3 ⟨rfl, hw3⟩))
        go_roundw
        case rel => exact ⟨k + 1, HK.out, hw3.kept.iter ((Below.heap_alloc _ _ _ (iter_lt HIT.out)).trans HIT.out) hgH, (HBX.out.alloc _).kept hw3.kept (by omega) (by decide), ((HWI.out.alloc _).trans hw3).cast (by rw [HFM.out, hep.out])⟩
        case measure => rw [iterPos_of (hw3.kept.iter ((Below.heap_alloc _ _ _ (iter_lt HIT.out)).trans HIT.out) hgH), HP0.out]; have := HK.out; omega
      · have hep := hide (show encPart x 78 = encL [x.n] from rfl)
        have hp2 := hide (put_any (.slice (some ⟨W1.heap.size, 0, none⟩) 1 1) [x.n] g base pre (W1.alloc (.cells #[.int .i64 x.n] 3)) (HWI.out.ws.alloc _)
          (by have := IntsV.lit W1 [x.n] #[.int .i64 x.n] 3 rfl (by simpa using HRS.out.2.2.2.1) (by simp); simpa using this) (by simp) (by have := HRM.out; omega))
        go_wp2_with (first
          | (go_at_call 43; refine (field_at _ 78 4 _ (by unfold isLetter; omega) rfl).mono ?_; rintro e w' ⟨rfl, rfl⟩)
          | (go_at_call 32; refine hp2.out.mono ?_; rintro e w3 ⟨rfl, hw3⟩))
        go_roundw
        case rel => exact ⟨k + 1, HK.out, hw3.kept.iter ((Below.heap_alloc _ _ _ (iter_lt HIT.out)).trans HIT.out) hgH, (HBX.out.alloc _).kept hw3.kept (by omega) (by decide), ((HWI.out.alloc _).trans hw3).cast (by rw [HFM.out, hep.out])⟩
        case measure => rw [iterPos_of (hw3.kept.iter ((Below.heap_alloc _ _ _ (iter_lt HIT.out)).trans HIT.out) hgH), HP0.out]; have := HK.out; omega
      · have hep := hide (show encPart x 77 = encL [x.m] from rfl)
        have hp2 := hide (put_any (.slice (some ⟨W1.heap.size, 0, none⟩) 1 1) [x.m] g base pre (W1.alloc (.cells #[.int .i64 x.m] 3)) (HWI.out.ws.alloc _)
          (by have := IntsV.lit W1 [x.m] #[.int .i64 x.m] 3 rfl (by simpa using HRS.out.2.2.2.2) (by simp); simpa using this) (by simp) (by have := HRM.out; omega))
        go_wp2_with (first
          | (go_at_call 43; refine (field_at _ 77 5 _ (by unfold isLetter; omega) rfl).mono ?_; rintro e w' ⟨rfl, rfl⟩)
          | (go_at_call 32; refine hp2.out.mono ?_; rintro e w3 ⟨rfl, hw3⟩))
        go_roundw
        case rel => exact ⟨k + 1, HK.out, hw3.kept.iter ((Below.heap_alloc _ _ _ (iter_lt HIT.out)).trans HIT.out) hgH, (HBX.out.alloc _).kept hw3.kept (by omega) (by decide), ((HWI.out.alloc _).trans hw3).cast (by rw [HFM.out, hep.out])⟩
        case measure => rw [iterPos_of (hw3.kept.iter ((Below.heap_alloc _ _ _ (iter_lt HIT.out)).trans HIT.out) hgH), HP0.out]; have := HK.out; omega
      · have hep := hide (show encPart x 110 = enc (zz x.n) from rfl)
        have hp2 := hide (putSigned_any x.n g base pre W1 HWI.out.ws HRS.out.2.2.2.1 (by have := HRM.out; omega))
        go_wp2_with (go_at_call 52; refine hp2.out.mono ?_; rintro e w3 ⟨rfl, hw3⟩)
        go_roundw
        case rel => exact ⟨k + 1, HK.out, hw3.kept.iter HIT.out hgH, HBX.out.kept hw3.kept (by omega) (by decide), (HWI.out.trans hw3).cast (by rw [HFM.out, hep.out])⟩
        case measure => rw [iterPos_of (hw3.kept.iter HIT.out hgH), HP0.out]; have := HK.out; omega
      · have hep := hide (show encPart x 76 = encL [(n : Int)] ++ encL x.args by unfold encPart; rw [HN.out]; rfl)
        have hrl : pre.length + (encL [(n : Int)]).length ≤ 1073741824 := by have := HRM.out; rw [hep.out, List.length_append] at this; omega
        have hp2 := hide (put_any (.slice (some ⟨W1.heap.size, 0, none⟩) 1 1) [(n : Int)] g base pre (W1.alloc (.cells #[.int .i64 (n : Int)] 3)) (HWI.out.ws.alloc _)
          (by have := IntsV.lit W1 [(n : Int)] #[.int .i64 (n : Int)] 3 rfl (by simp [i64R]; omega) (by simp); simpa using this) (by simp) (by have := HRM.out; omega))
        go_wp2_with (first
          | (go_at_call 32; refine (put_any (.slice A n c) x.args g base (pre ++ encL [(n : Int)]) w3 hw3.ws (HX.out.keep (fun b o hb => (((HWI.out.alloc _).trans hw3).below).cell (p := ⟨b, o, none⟩) (by show b < base; omega)) (fun b hb => by have := ((HWI.out.alloc (.cells #[.int .i64 (n : Int)] 3)).trans hw3).below.size; omega)) (by have := HN.out; omega) (by rw [List.length_append]; omega)).mono ?_; rintro e w4 ⟨rfl, hw4⟩)
          | (go_at_call 32; refine hp2.out.mono ?_; rintro e w3 ⟨rfl, hw3⟩
             have hb3 := (HBX.out.alloc (.cells #[.int .i64 (n : Int)] 3)).kept hw3.kept (by omega) (by decide)
             have HB3 := hide hb3
             have q6 := (hb3.cell 6 (v := .slice A n c) rfl).1
             have q7 := hb3.lt
             clear hb3))
        have hit3 := hw3.kept.iter ((Below.heap_alloc _ _ _ (iter_lt HIT.out)).trans HIT.out) hgH
        go_roundw
        case rel => exact ⟨k + 1, HK.out, hw4.kept.iter hit3 hgH, HB3.out.kept hw4.kept (by omega) (by decide), (((HWI.out.alloc _).trans hw3).trans hw4).cast (by rw [HFM.out, hep.out, List.append_assoc])⟩
        case measure => rw [iterPos_of (hw4.kept.iter hit3 hgH), HP0.out]; have := HK.out; omega
    · have hnx : ∀ ty, (Instr.next (.pointer (some ⟨H, 0, none⟩)) true ty).run Tryd.prog wr = _ := fun ty => next_end wr H k _ ty hit (by omega)
      have hend := hide (hwr.cast (ys := zs ++ encIns x) (by rw [List.take_of_length_le (by omega)]; unfold encIns; rw [List.append_assoc]))
      clear hit hbr hwr hpos0
      go_wp2
      go_end0
      exact ⟨rfl, hend.out⟩
end Go.Proofs.YtkimocfofihjbaaDoor
namespace Go.Proofs.YtkimocfofihjbaaDoor
open Go.RowKit

def encVar (kb : Int × Int) : List Int := encL [kb.1] ++ (if kb.1 = 2 then encL [kb.2] else [])
def encBlk (b : List InsV) : List Int := encL [(b.length : Int)] ++ b.flatMap encIns
def encFun (f : FunV) : List Int := encL [(f.kinds.length : Int)] ++ (f.kinds.zip f.base).flatMap encVar ++ encL [f.params, f.result, (f.blocks.length : Int)] ++ f.blocks.flatMap encBlk
def encProg (p : List FunV) : List Int := encL [(p.length : Int)] ++ p.flatMap encFun
/-- What the counts give the writer. -/
def blkFew (b : List InsV) : Prop := b.length ≤ 40 ∧ ∀ x ∈ b, x.args.length ≤ 4
def funFew (f : FunV) : Prop := f.kinds.length ≤ 48 ∧ f.base.length = f.kinds.length ∧ f.blocks.length ≤ 40 ∧ ∀ b ∈ f.blocks, blkFew b

theorem putLit {w W : World} {g base : Nat} {pre : List Int} (l : List Int) (cs : Array Value) (s : Nat) (hs : W.heap.size = s) (hW : Wrote w g base pre W) (hcs : cs.toList = l.map (Value.int .i64)) (hr : ∀ z ∈ l, i64R z) (hl : l.length ≤ 100) (hroom : pre.length ≤ 1073741824) :
    Calls Tryd.prog 32 #[.pointer (some ⟨g, 0, none⟩), .slice (some ⟨s, 0, none⟩) l.length l.length] (W.alloc (.cells cs 3)) fun e w' => e = .returned (.tuple #[]) ∧ Wrote w g base (pre ++ encL l) w' ∧ Lib.OthersKept 5 (some g) W w' := by
  subst hs
  exact (put_any _ l g base pre (W.alloc (.cells cs 3)) (hW.ws.alloc _) (IntsV.lit W l cs 3 hcs hr hl) (by omega) hroom).mono fun e w' ⟨he, hw⟩ =>
    ⟨he, (hW.alloc _).trans hw, ((Lib.OthersKept.refl 5 (some g) W).alloc _).trans hw.kept⟩
theorem Wrote.up {w W : World} {g base B : Nat} {pre : List Int} (h : Wrote w g base pre W) (hB : B ≤ base) : Same' (· < B) w W := fun b o hb => h.below.cell (p := ⟨b, o, none⟩) (by show b < base; omega)
theorem Wrote.step {w W W2 : World} {g base : Nat} {pre ys : List Int} (h : Wrote w g base pre W) (h2 : Wrote W g base ys W2) : Wrote w g base ys W2 ∧ Lib.OthersKept 5 (some g) W W2 := ⟨h.trans h2, h2.kept⟩

def FBox (w : World) (h : Nat) (f : FunV) (vk vb vs : Value) : Prop := Box w h #[vk, vb, .int .i64 f.params, .int .i64 f.result, vs] 38

set_option maxHeartbeats 400000 in
set_option maxRecDepth 100000 in
theorem wfun_any (vk vb vs : Value) (f : FunV) (g base : Nat) (zs : List Int) (w : World) (B : Nat) (hB : B ≤ base) (hB0 : 0 < base) (hbw : base ≤ w.heap.size) (hW : WS w g base zs) (hT : TabP w) (hf : FunI w (· < B) vk vb vs f) (hfew : funFew f) (hroom : zs.length + (encFun f).length ≤ 1073741824) :
    Calls Tryd.prog 33 #[.pointer (some ⟨g, 0, none⟩), .agg #[vk, vb, .int .i64 f.params, .int .i64 f.result, vs]] w fun e w' => e = .returned (.tuple #[]) ∧ Wrote w g base (zs ++ encFun f) w' := by
  obtain ⟨hk, hb, hs, hpr, hrr⟩ := hf
  obtain ⟨hfk, hfb, hfs, hfx⟩ := hfew
  obtain ⟨Ak, ck, rfl, -, -⟩ := hk.open'
  obtain ⟨Ab, cb, rfl, -, -⟩ := hb.open'
  obtain ⟨As, cs, rfl, -, -⟩ := hs.open'
  obtain ⟨n, hn⟩ : ∃ n, f.kinds.length = n := ⟨_, rfl⟩
  obtain ⟨l, hl⟩ : ∃ l, f.blocks.length = l := ⟨_, rfl⟩
  have HT0 := hide (show encFun f = encL [(n : Int)] ++ (f.kinds.zip f.base).flatMap encVar ++ encL [f.params, f.result, (l : Int)] ++ f.blocks.flatMap encBlk by unfold encFun; rw [hn, hl])
  have hlen : (encFun f).length = (encL [(n : Int)]).length + ((f.kinds.zip f.base).flatMap encVar).length + (encL [f.params, f.result, (l : Int)]).length + (f.blocks.flatMap encBlk).length := by rw [HT0.out]; simp only [List.length_append]
  have HV := hide (fun k => flatMap_take_le (f.kinds.zip f.base) k encVar)
  have HBk := hide (fun k => flatMap_take_le f.blocks k encBlk)
  rw [hfb] at hb ⊢
  rw [hn] at hk hb hfk hfb ⊢
  rw [hl] at hs hfs ⊢
  have HRM := hide (show zs.length + ((encL [(n : Int)]).length + ((f.kinds.zip f.base).flatMap encVar).length + (encL [f.params, f.result, (l : Int)]).length + (f.blocks.flatMap encBlk).length) ≤ 1073741824 by rw [← hlen]; exact hroom)
  have HK := hide hk; have HBs := hide hb; have HS := hide hs; have HN := hide hn; have HM := hide hfb; have HL := hide hl; have HT := hide hT; have HW := hide hW; have HX := hide hfx
  have HPR := hide hpr; have HRR := hide hrr
  have hgw := hW.lt.2
  clear hk hb hs hn hfb hl hT hW hfx hpr hrr hroom hlen
  generalize f.params = fp at *
  generalize f.result = fr at *
  have hW1 := (Wrote.refl HW.out).alloc (.cells #[.slice Ak n ck, .slice Ab n cb, .int .i64 fp, .int .i64 fr, .slice As l cs] 38)
  have H1 := hide (putLit [(n : Int)] #[.int .i64 (n : Int)] (w.heap.size + 1) (by simp) hW1 rfl (by simp [i64R]; omega) (by simp) (by have := HRM.out; omega))
  have hgH : w.heap.size ≠ g := by omega
  clear hW1
  go_enter Tryd.func33, Tryd.ntmps33
  go_wp2_with (go_at_call 32; refine H1.out.mono ?_; rintro e w1 ⟨rfl, hw1, hk1⟩; have hbx : Box w1 w.heap.size #[.slice Ak n ck, .slice Ab n cb, .int .i64 fp, .int .i64 fr, .slice As l cs] 38 := (Box.new w _ _).kept hk1 hgH (by decide); have HBX := hide hbx; have x0 := (hbx.cell 0 (v := .slice Ak n ck) rfl).1; have x1 := (hbx.cell 1 (v := .slice Ab n cb) rfl).1; have x2 := (hbx.cell 2 (v := .int .i64 fp) rfl).1; have x3 := (hbx.cell 3 (v := .int .i64 fr) rfl).1; have x4 := (hbx.cell 4 (v := .slice As l cs) rfl).1; clear hbx)
  have HW1 := hide hw1
  clear hw1 hk1
  go_loopw [19] (fun i wr => ∃ k : Nat, k ≤ n ∧ i = .int .i64 k ∧ Box wr w.heap.size #[.slice Ak n ck, .slice Ab n cb, .int .i64 fp, .int .i64 fr, .slice As l cs] 38 ∧ Wrote w g base (zs ++ encL [(n : Int)] ++ ((f.kinds.zip f.base).take k).flatMap encVar) wr) (fun i _ => n - (intOf i).toNat)
  case atStart => exact ⟨0, Nat.zero_le _, rfl, HBX.out, HW1.out.cast (by simp)⟩
  case round =>
    obtain ⟨k, hk, rfl, hbx, hwr⟩ := hrel
    have hlt0 := hbx.lt
    by_cases hlt : k < n
    · obtain ⟨x, hx⟩ : ∃ x, f.kinds[k]? = some x := ⟨_, List.getElem?_eq_getElem (by have := HN.out; omega)⟩
      obtain ⟨y, hy⟩ : ∃ y, f.base[k]? = some y := ⟨_, List.getElem?_eq_getElem (by have := HM.out; omega)⟩
      obtain ⟨b1, o1, rfl, hb1, e1, hr1⟩ := (HK.out.keep (hwr.up hB) (fun _ h => h)).get hx
      obtain ⟨b2, o2, rfl, hb2, e2, hr2⟩ := HBs.out.get hy
      have hfm := flatMap_take (f := encVar) (zip_get hx hy)
      have hle := HV.out (k + 1)
      rw [hfm, List.length_append] at hle
      obtain ⟨pre, hpre⟩ : ∃ pre, zs ++ encL [(n : Int)] ++ ((f.kinds.zip f.base).take k).flatMap encVar = pre := ⟨_, rfl⟩
      have hpl := congrArg List.length hpre
      simp only [List.length_append] at hpl
      rw [hpre] at hwr
      have hrm := HRM.out
      have HFM := hide (show zs ++ encL [(n : Int)] ++ ((f.kinds.zip f.base).take (k + 1)).flatMap encVar = pre ++ encVar (x, y) by rw [hfm, ← List.append_assoc, hpre])
      have hroom1 : pre.length + (encVar (x, y)).length ≤ 1073741824 := by omega
      have H2 := hide (putLit [x] #[.int .i64 x] wr.heap.size rfl hwr rfl (by simpa using hr1) (by simp) (by omega))
      have HBX2 := hide hbx
      have hbs1 : b1 < wr.heap.size := by have := hwr.below.size; omega
      have hbs0 := hwr.below.size
      clear hx hy hfm hle hpre hpl hrm
      by_cases h2 : x = 2
      · subst h2
        have hev := hide (show encVar (2, y) = encL [2] ++ encL [y] from rfl)
        rw [hev.out, List.length_append] at hroom1
        go_wp2_with (first
          | (go_at_call 32; refine (putLit [y] #[.int .i64 y] w3.heap.size rfl hw3 rfl (by simpa using hr2) (by simp) (by rw [List.length_append]; omega)).mono ?_; rintro e w4 ⟨rfl, hw4, hk4⟩)
          | (go_at_call 32; refine H2.out.mono ?_; rintro e w3 ⟨rfl, hw3, hk3⟩
             have hb3 := HBX2.out.kept hk3 hgH (by decide)
             have HB3 := hide hb3
             have q1 := (hb3.cell 1 (v := .slice (some ⟨b2, o2, none⟩) n cb) rfl).1
             have q2 := hb3.lt
             have q3 := (hw3.up hB b2 (o2 + k) hb2).trans e2
             have q4 : b2 < w3.heap.size := by have := hw3.below.size; omega
             clear hb3))
        go_roundw
        case rel => exact ⟨k + 1, by omega, by go_num, HB3.out.kept hk4 hgH (by decide), hw4.cast (by rw [HFM.out, hev.out, List.append_assoc])⟩
        case measure => simp [intOf]; omega
      · have h2b : (x == 2) = false := by simpa using h2
        have hev := hide (show encVar (x, y) = encL [x] by unfold encVar; simp [h2])
        clear h2
        go_wp2_with (go_at_call 32; refine H2.out.mono ?_; rintro e w3 ⟨rfl, hw3, hk3⟩)
        go_roundw
        case rel => exact ⟨k + 1, by omega, by go_num, HBX2.out.kept hk3 hgH (by decide), hw3.cast (by rw [HFM.out, hev.out])⟩
        case measure => simp [intOf]; omega
    · obtain ⟨wo, rfl⟩ : ∃ wo, wo = wr := ⟨_, rfl⟩
      obtain ⟨pre, hpre⟩ : ∃ pre, zs ++ encL [(n : Int)] ++ (f.kinds.zip f.base).flatMap encVar = pre := ⟨_, rfl⟩
      rw [List.take_of_length_le (by have := HN.out; have := HM.out; simp; omega), hpre] at hwr
      have hpl := congrArg List.length hpre
      simp only [List.length_append] at hpl
      have hrm := HRM.out
      have HPRE := hide hpre
      have hroom1 : pre.length + ((encL [fp, fr, (l : Int)]).length + (f.blocks.flatMap encBlk).length) ≤ 1073741824 := by omega
      have H3 := hide (putLit [fp, fr, (l : Int)] #[.int .i64 fp, .int .i64 fr, .int .i64 (l : Int)] wo.heap.size rfl hwr rfl (by have h1 := HPR.out; have h2 := HRR.out; intro z hz; simp at hz; rcases hz with rfl | rfl | rfl; exact h1; exact h2; unfold i64R; omega) (by simp) (by omega))
      have y2 := (hbx.cell 2 (v := .int .i64 fp) rfl).1
      have y3 := (hbx.cell 3 (v := .int .i64 fr) rfl).1
      have y4 := (hbx.cell 4 (v := .slice As l cs) rfl).1
      have HBX2 := hide hbx
      clear hpre hpl hrm x0 x1 x2 x3 x4 hbx hwr
      go_wp2_with (go_at_call 32; refine H3.out.mono ?_; rintro e w3 ⟨rfl, hw3, hk3⟩; have hb3 := HBX2.out.kept hk3 hgH (by decide); have q4 := (hb3.cell 4 (v := .slice As l cs) rfl).1; have q5 := hb3.lt; have HW3 := hide hw3; clear hb3)
      clear hw3 hk3 hlt0
      obtain ⟨pre2, hpre2⟩ : ∃ pre2, pre ++ encL [fp, fr, (l : Int)] = pre2 := ⟨_, rfl⟩
      have hpl2 := congrArg List.length hpre2
      rw [List.length_append] at hpl2
      rw [hpre2] at HW3
      have hroom2 : pre2.length + (f.blocks.flatMap encBlk).length ≤ 1073741824 := by omega
      have HP2 := hide hpre2
      clear hpl2 hpre2 hroom1
      go_loopw [52] (fun i wr => ∃ k : Nat, k ≤ l ∧ i = .int .i64 k ∧ Wrote w g base (pre2 ++ (f.blocks.take k).flatMap encBlk) wr) (fun i _ => l - (intOf i).toNat)
      case atStart => exact ⟨0, Nat.zero_le _, rfl, HW3.out.cast (by simp)⟩
      case round =>
        obtain ⟨i, hi, rfl, hwr⟩ := hrel
        obtain ⟨wi, rfl⟩ : ∃ wi, wi = wr := ⟨_, rfl⟩
        have hbs0 := hwr.below.size
        by_cases hlt : i < l
        · obtain ⟨x, hx⟩ : ∃ x, f.blocks[i]? = some x := ⟨_, List.getElem?_eq_getElem (by have := HL.out; omega)⟩
          obtain ⟨b1, o1, A1, c1, rfl, hb1, e1, hx1⟩ := (HS.out.keep (hwr.up hB) (fun _ h => h)).get hx
          have hs1 : b1 < wi.heap.size := by omega
          obtain ⟨hxl, hxa⟩ := HX.out x (List.mem_of_getElem? hx)
          have hfm := flatMap_take (f := encBlk) hx
          have hle := HBk.out (i + 1)
          rw [hfm, List.length_append] at hle
          obtain ⟨pre3, hpre3⟩ : ∃ pre3, pre2 ++ (f.blocks.take i).flatMap encBlk = pre3 := ⟨_, rfl⟩
          have hpl3 := congrArg List.length hpre3
          simp only [List.length_append] at hpl3
          rw [hpre3] at hwr
          have HFM := hide (show pre2 ++ (f.blocks.take (i + 1)).flatMap encBlk = pre3 ++ encBlk x by rw [hfm, ← List.append_assoc, hpre3])
          obtain ⟨d1, hd1⟩ : ∃ d, x.length = d := ⟨_, rfl⟩
          have hev := hide (show encBlk x = encL [(d1 : Int)] ++ x.flatMap encIns by unfold encBlk; rw [hd1])
          have hroom3 : pre3.length + ((encL [(d1 : Int)]).length + (x.flatMap encIns).length) ≤ 1073741824 := by rw [hev.out, List.length_append] at hle; omega
          rw [hd1] at e1 hx1 hxl
          have H4 := hide (putLit [(d1 : Int)] #[.int .i64 (d1 : Int)] (wi.heap.size + 1) (by simp) (hwr.alloc (.cells #[.slice A1 d1 c1] 43)) rfl (by simp [i64R]; omega) (by simp) (by omega))
          have HX1 := hide hx1
          have HD := hide hd1
          have HXA := hide hxa
          have HWI := hide hwr
          have HXI := hide (fun k => flatMap_take_le x k encIns)
          have hgi : wi.heap.size ≠ g := by have := hwr.ws.lt; omega
          clear hx hfm hle hpre3 hpl3 hd1 hx1 hxa hwr
          go_wp2_with (go_at_call 32; refine H4.out.mono ?_; rintro e w5 ⟨rfl, hw5, hk5⟩; have hb5 := (Box.new wi #[.slice A1 d1 c1] 43).kept hk5 hgi (by decide); have z0 := (hb5.cell 0 (v := .slice A1 d1 c1) rfl).1; have z1 := hb5.lt; have HW5 := hide hw5; clear hb5 hw5 hk5)
          obtain ⟨pre4, hpre4⟩ : ∃ pre4, pre3 ++ encL [(d1 : Int)] = pre4 := ⟨_, rfl⟩
          have hpl4 := congrArg List.length hpre4
          rw [List.length_append] at hpl4
          rw [hpre4] at HW5
          have hroom4 : pre4.length + (x.flatMap encIns).length ≤ 1073741824 := by omega
          have HP4 := hide hpre4
          clear hpre4 hpl4 hroom3
          go_loopw [65] (fun j wr => ∃ q : Nat, q ≤ d1 ∧ j = .int .i64 q ∧ Wrote w g base (pre4 ++ (x.take q).flatMap encIns) wr) (fun j _ => d1 - (intOf j).toNat)
          case atStart => exact ⟨0, Nat.zero_le _, rfl, HW5.out.cast (by simp)⟩
          case round =>
            obtain ⟨q, hq, rfl, hwr⟩ := hrel
            have hbs1 := hwr.below.size
            by_cases hlq : q < d1
            · obtain ⟨y, hy⟩ : ∃ y, x[q]? = some y := ⟨_, List.getElem?_eq_getElem (by have := HD.out; omega)⟩
              obtain ⟨b2, o2, A2, c2, rfl, hb2, ⟨f0, f1, f2, f3, f4, f5, f6⟩, hy1⟩ := (HX1.out.keep (Same'.trans (fun b o hb => ((HWI.out.up hB) b o hb).symm) (hwr.up hB)) (fun _ h => h)).get hy
              have hs2 : b2 < wr.heap.size := by omega
              have hfm := flatMap_take (f := encIns) hy
              have hle := HXI.out (q + 1)
              rw [hfm, List.length_append] at hle
              obtain ⟨pre5, hpre5⟩ : ∃ pre5, pre4 ++ (x.take q).flatMap encIns = pre5 := ⟨_, rfl⟩
              have hpl5 := congrArg List.length hpre5
              simp only [List.length_append] at hpl5
              rw [hpre5] at hwr
              have HF5 := hide (show pre4 ++ (x.take (q + 1)).flatMap encIns = pre5 ++ encIns y by rw [hfm, ← List.append_assoc, hpre5])
              have hW6 := hwr.alloc (.cells #[.int .i64 y.op, .int .i64 y.d, .int .i64 y.a, .int .i64 y.b, .int .i64 y.n, .int .i64 y.m, .slice A2 y.args.length c2] 40)
              have hC := wins_any (.slice A2 y.args.length c2) y g base pre5 _ B hB hB0 (by have := hW6.below.size; omega) hW6.ws (HT.out.below hW6.below hB0) (hy1.keep (fun b o hb => World.cell?_alloc_lt _ _ _ (by show b < _; omega)) (fun _ h => h)) (HXA.out y (List.mem_of_getElem? hy)) (by omega)
              generalize y.args.length = l2 at *
              have HC := hide hC
              have HW6 := hide hW6
              clear hC hW6 hy hy1 hfm hle hpre5 hpl5 hwr
              go_wp2_with (go_at_call 46; refine HC.out.mono ?_; rintro e w7 ⟨rfl, hw7⟩)
              go_roundw
              case rel => exact ⟨q + 1, by omega, by go_num, (HW6.out.trans hw7).cast (by rw [HF5.out])⟩
              case measure => simp [intOf]; omega
            · have hend := hide (hwr.cast (ys := pre2 ++ (f.blocks.take (i + 1)).flatMap encBlk) (by rw [List.take_of_length_le (by have := HD.out; omega), HFM.out, hev.out, ← HP4.out, List.append_assoc]))
              clear hwr
              go_wp2
              go_roundw
              case rel => exact ⟨i + 1, by omega, by go_num, hend.out⟩
              case measure => simp [intOf]; omega
        · have hend := hide (hwr.cast (ys := zs ++ encFun f) (by rw [List.take_of_length_le (by have := HL.out; omega), HT0.out, ← HP2.out, ← HPRE.out]; simp only [List.append_assoc]))
          clear hwr
          go_wp2
          go_end0
          exact ⟨rfl, hend.out⟩
end Go.Proofs.YtkimocfofihjbaaDoor
namespace Go.Proofs.YtkimocfofihjbaaDoor
open Go.RowKit

def InsRR (x : InsV) : Prop := InsR x ∧ ∀ z ∈ x.args, i64R z
def FunR (f : FunV) : Prop := i64R f.params ∧ i64R f.result ∧ (∀ z ∈ f.kinds, i64R z) ∧ (∀ z ∈ f.base, i64R z) ∧ ∀ b ∈ f.blocks, ∀ x ∈ b, InsRR x
theorem Vec.each {α : Type} {s : Nat} {P : Nat → Nat → α → Prop} {S : Nat → Prop} {v : Value} {xs : List α} (h : Vec s P S v xs) : ∀ x ∈ xs, ∃ b o, P b o x := fun x hx => by
  obtain ⟨A, c, -, -, -, h3⟩ := h
  obtain ⟨j, hj⟩ := List.getElem?_of_mem hx
  obtain ⟨b, o, -, -, hc⟩ := h3 (by have := (List.getElem?_eq_some_iff.1 hj).1; omega)
  exact ⟨b, _, hc j x hj⟩
theorem IntsV.range {w : World} {S : Nat → Prop} {v : Value} {zs : List Int} (h : IntsV w S v zs) : ∀ z ∈ zs, i64R z := fun z hz => by
  obtain ⟨b, o, hc⟩ := Vec.each h z hz
  exact hc.2
theorem FunsV.range {w : World} {S : Nat → Prop} {v : Value} {p : List FunV} (h : FunsV w S v p) : ∀ f ∈ p, FunR f := fun f hf => by
  obtain ⟨b, o, vk, vb, vs, -, hi⟩ := Vec.each h f hf
  obtain ⟨h1, h2, h3, h4, h5⟩ := hi
  refine ⟨h4, h5, h1.range, h2.range, fun bl hbl x hx => ?_⟩
  obtain ⟨b', o', v', -, hb⟩ := Vec.each h3 bl hbl
  obtain ⟨b2, o2, va, -, hx2⟩ := Vec.each hb x hx
  exact ⟨hx2.2, hx2.1.range⟩

theorem flatMap_len {α : Type} (l : List α) (f : α → List Int) (m : Nat) (h : ∀ x ∈ l, (f x).length ≤ m) : (l.flatMap f).length ≤ l.length * m := by
  induction l with
  | nil => simp
  | cons a l ih =>
    have h1 := h a (by simp)
    have h2 := ih (fun x hx => h x (by simp [hx]))
    rw [List.flatMap_cons, List.length_append, List.length_cons, Nat.add_mul]
    omega
theorem encL_len' (l : List Int) (h : ∀ z ∈ l, i64R z) : (encL l).length ≤ 9 * l.length := encL_len l (fun z hz => (h z hz).2)
theorem i64R_nat {n : Nat} (h : n ≤ 9223372036854775807) : i64R (n : Int) := ⟨by omega, by omega⟩
theorem fieldOf_R {x : InsV} (h : InsR x) (c : Nat) : i64R (fieldOf c x) := by
  obtain ⟨-, h1, h2, h3, h4, h5⟩ := h
  unfold fieldOf
  split
  · exact h1
  · split
    · exact h2
    · split
      · exact h3
      · split
        · exact h5
        · exact h4
theorem encPart_len {x : InsV} (h : InsRR x) (ha : x.args.length ≤ 4) (c : Nat) : (encPart x c).length ≤ 45 := by
  unfold encPart
  split
  · have := enc_len10 (zz_lt h.1.2.2.2.2.1); omega
  · split
    · rw [List.length_append]
      have h1 := encL_len' [(x.args.length : Int)] (by simpa using i64R_nat (by omega))
      have h2 := encL_len' x.args h.2
      simp at h1
      omega
    · have := encL_len' [fieldOf c x] (by simpa using fieldOf_R h.1 c)
      simp at this
      omega
theorem encIns_len {x : InsV} (h : InsRR x) (ha : x.args.length ≤ 4) : (encIns x).length ≤ 144 := by
  unfold encIns
  rw [List.length_append]
  have h1 := encL_len' [x.op] (by simpa using h.1.1)
  have h2 := flatMap_len (partsN x.op) (encPart x) 45 (fun c _ => encPart_len h ha c)
  have h3 := partsN_len x.op
  have h4 : (partsN x.op).length * 45 ≤ 3 * 45 := Nat.mul_le_mul_right _ h3
  simp at h1
  omega
theorem encBlk_len {b : List InsV} (h : ∀ x ∈ b, InsRR x) (hf : blkFew b) : (encBlk b).length ≤ 5769 := by
  unfold encBlk
  rw [List.length_append]
  have h1 := encL_len' [(b.length : Int)] (by simpa using i64R_nat (by have := hf.1; omega))
  have h2 := flatMap_len b encIns 144 (fun x hx => encIns_len (h x hx) (hf.2 x hx))
  have h4 : b.length * 144 ≤ 40 * 144 := Nat.mul_le_mul_right _ hf.1
  simp at h1
  omega
theorem encVar_len {kb : Int × Int} (h1 : i64R kb.1) (h2 : i64R kb.2) : (encVar kb).length ≤ 18 := by
  unfold encVar
  have a := encL_len' [kb.1] (by simpa using h1)
  have b := encL_len' [kb.2] (by simpa using h2)
  rw [List.length_append]
  simp at a b
  split
  · omega
  · simp; omega
theorem encFun_len {f : FunV} (h : FunR f) (hf : funFew f) : (encFun f).length ≤ 231660 := by
  obtain ⟨hp, hr, hk, hb, hx⟩ := h
  obtain ⟨f1, f2, f3, f4⟩ := hf
  unfold encFun
  simp only [List.length_append]
  have h1 := encL_len' [(f.kinds.length : Int)] (by simpa using i64R_nat (by omega))
  have h2 := encL_len' [f.params, f.result, (f.blocks.length : Int)] (by
    intro z hz
    simp at hz
    rcases hz with rfl | rfl | rfl
    · exact hp
    · exact hr
    · exact i64R_nat (by omega))
  have h3 := flatMap_len (f.kinds.zip f.base) encVar 18 (fun kb hkb => by
    obtain ⟨a, b⟩ := kb
    have := List.of_mem_zip hkb
    exact encVar_len (hk _ this.1) (hb _ this.2))
  have h4 := flatMap_len f.blocks encBlk 5769 (fun b hb' => encBlk_len (hx b hb') (f4 b hb'))
  have h5 : f.blocks.length * 5769 ≤ 40 * 5769 := Nat.mul_le_mul_right _ f3
  have h6 : (f.kinds.zip f.base).length * 18 ≤ 48 * 18 := Nat.mul_le_mul_right _ (by simp; omega)
  simp at h1 h2
  omega
theorem encProg_len {p : List FunV} (h : ∀ f ∈ p, FunR f) (hf : ∀ f ∈ p, funFew f) (hp : p.length ≤ 8) : (encProg p).length ≤ 1853289 := by
  unfold encProg
  rw [List.length_append]
  have h1 := encL_len' [(p.length : Int)] (by simpa using i64R_nat (by omega))
  have h2 := flatMap_len p encFun 231660 (fun f hf' => encFun_len (h f hf') (hf f hf'))
  have h3 : p.length * 231660 ≤ 8 * 231660 := Nat.mul_le_mul_right _ hp
  simp at h1
  omega

theorem mayL_args {x : InsV} : ∀ {cs : List Nat} {r : InsV}, mayL x cs r = true → 76 ∉ cs → r.args = []
  | [], r, h, _ => by
    simp only [mayL, decide_eq_true_eq] at h
    rw [h]; rfl
  | c :: cs, r, h, hn => by
    have hn' : 76 ∉ cs := fun hh => hn (by simp [hh])
    have hc : ¬ c = 76 := fun hh => hn (by simp [hh])
    simp only [mayL, if_neg hc] at h
    split at h
    · exact mayL_args (r := { r with n := 0 }) h hn'
    · rw [Bool.and_eq_true] at h
      have := mayL_args h.2 hn'
      unfold setF at this
      split at this
      · exact this
      · split at this
        · exact this
        · split at this
          · exact this
          · split at this
            · exact this
            · exact this
theorem parts_call (op : Int) (h : 76 ∈ partsN op) : op = 19 := by
  unfold partsN at h
  split at h
  · cases h
  · rename_i h0
    have hall : ∀ j, j < 24 → 76 ∈ partsT.getD j [] → j = 19 := by decide
    by_cases hj : op.toNat < 24
    · have := hall _ hj h; omega
    · rw [List.getD, List.getElem?_eq_none (show partsT.length ≤ op.toNat by show 24 ≤ _; omega)] at h
      cases h
theorem may_few {p : List FunV} (h1 : cntB p = true) (h2 : p.all funMayB = true) : p.length ≤ 8 ∧ ∀ f ∈ p, funFew f := by
  simp only [cntB, Bool.and_eq_true, decide_eq_true_eq, List.all_eq_true] at h1 h2
  obtain ⟨-, h8, hc⟩ := h1
  refine ⟨h8, fun f hf => ?_⟩
  have a := hc f hf
  have b := h2 f hf
  simp only [funCnt, Bool.and_eq_true, decide_eq_true_eq, List.all_eq_true] at a
  simp only [funMayB, Bool.and_eq_true, decide_eq_true_eq, List.all_eq_true] at b
  refine ⟨a.1, b.1.1, a.2.1, fun bl hbl => ?_⟩
  have a2 := a.2.2 bl hbl
  simp only [blkCnt, Bool.and_eq_true, decide_eq_true_eq, List.all_eq_true] at a2
  refine ⟨a2.1, fun x hx => ?_⟩
  have a3 := a2.2 x hx
  have b3 := b.2.2 bl hbl x hx
  by_cases hop : x.op = 19
  · simp [insCnt, hop] at a3; exact a3
  · simp only [insMayB, Bool.and_eq_true] at b3
    have := mayL_args b3.2 (fun hh => hop (parts_call _ hh))
    rw [this]; simp

/-- What Encode answers: bytes, and an error's number. -/
def encR (p : List FunV) : List Int × Nat := if cntB p = true then (if p.all funMayB = true then (encProg p, 0) else ([], 1)) else ([], 9)
end Go.Proofs.YtkimocfofihjbaaDoor
namespace Go.Proofs.YtkimocfofihjbaaDoor
open Go.RowKit

set_option maxHeartbeats 400000 in
set_option maxRecDepth 100000 in
theorem wprog_any (vp : Value) (p : List FunV) (g base : Nat) (zs : List Int) (w : World) (B : Nat) (hB : B ≤ base) (hB0 : 0 < base) (hbw : base ≤ w.heap.size) (hW : WS w g base zs) (hT : TabP w) (hp : FunsV w (· < B) vp p) (hfew : ∀ f ∈ p, funFew f) (hroom : zs.length + (encProg p).length ≤ 1073741824) :
    Calls Tryd.prog 19 #[.pointer (some ⟨g, 0, none⟩), .agg #[vp]] w fun e w' => e = .returned (.tuple #[]) ∧ Wrote w g base (zs ++ encProg p) w' := by
  obtain ⟨A, c, rfl, hpc, hpm⟩ := hp.open'
  obtain ⟨n, hn⟩ : ∃ n, p.length = n := ⟨_, rfl⟩
  have HT0 := hide (show encProg p = encL [(n : Int)] ++ p.flatMap encFun by unfold encProg; rw [hn])
  rw [HT0.out, List.length_append] at hroom
  rw [hn] at hp hpc ⊢
  have HP := hide hp; have HN := hide hn; have HT := hide hT; have HW := hide hW; have HX := hide hfew
  have HF := hide (fun k => flatMap_take_le p k encFun)
  have hgw := hW.lt.2
  have hgH : w.heap.size ≠ g := by omega
  clear hp hn hT hW hfew
  have H1 := hide (putLit [(n : Int)] #[.int .i64 (n : Int)] (w.heap.size + 1) (by simp) ((Wrote.refl HW.out).alloc (.cells #[.slice A n c] 26)) rfl (by simp [i64R]; omega) (by simp) (by omega))
  go_enter Tryd.func19, Tryd.ntmps19
  go_wp2_with (go_at_call 32; refine H1.out.mono ?_; rintro e w1 ⟨rfl, hw1, hk1⟩; have hbx : Box w1 w.heap.size #[.slice A n c] 26 := (Box.new w _ _).kept hk1 hgH (by decide); have x0 := (hbx.cell 0 (v := .slice A n c) rfl).1; have x1 := hbx.lt; have HW1 := hide hw1; clear hw1 hk1 hbx)
  obtain ⟨pre, hpre⟩ : ∃ pre, zs ++ encL [(n : Int)] = pre := ⟨_, rfl⟩
  have hpl := congrArg List.length hpre
  rw [List.length_append] at hpl
  rw [hpre] at HW1
  have hroom2 : pre.length + (p.flatMap encFun).length ≤ 1073741824 := by omega
  have HP2 := hide hpre
  clear hpre hpl hroom
  go_loopw [15] (fun i wr => ∃ k : Nat, k ≤ n ∧ i = .int .i64 k ∧ Wrote w g base (pre ++ (p.take k).flatMap encFun) wr) (fun i _ => n - (intOf i).toNat)
  case atStart => exact ⟨0, Nat.zero_le _, rfl, HW1.out.cast (by simp)⟩
  case round =>
    obtain ⟨k, hk, rfl, hwr⟩ := hrel
    have hbs1 := hwr.below.size
    by_cases hlt : k < n
    · obtain ⟨y, hy⟩ : ∃ y, p[k]? = some y := ⟨_, List.getElem?_eq_getElem (by have := HN.out; omega)⟩
      obtain ⟨b, o, Ak, ck, Ab, cb, As, cs, rfl, hbb, ⟨e0, e1, e2, e3, e4⟩, hi⟩ := (HP.out.keep (hwr.up hB) (fun _ h => h)).get hy
      have hbs2 : b < wr.heap.size := by omega
      have hfm := flatMap_take (f := encFun) hy
      have hle := HF.out (k + 1)
      rw [hfm, List.length_append] at hle
      obtain ⟨pre5, hpre5⟩ : ∃ pre5, pre ++ (p.take k).flatMap encFun = pre5 := ⟨_, rfl⟩
      have hpl5 := congrArg List.length hpre5
      simp only [List.length_append] at hpl5
      rw [hpre5] at hwr
      have HF5 := hide (show pre ++ (p.take (k + 1)).flatMap encFun = pre5 ++ encFun y by rw [hfm, ← List.append_assoc, hpre5])
      have hW6 := hwr.alloc (.cells #[.slice Ak y.kinds.length ck, .slice Ab y.base.length cb, .int .i64 y.params, .int .i64 y.result, .slice As y.blocks.length cs] 38)
      have hC := wfun_any _ _ _ y g base pre5 _ B hB hB0 (by have := hW6.below.size; omega) hW6.ws (HT.out.below hW6.below hB0) (hi.keep (fun b o hb => World.cell?_alloc_lt _ _ _ (by show b < _; omega)) (fun _ h => h)) (HX.out y (List.mem_of_getElem? hy)) (by omega)
      generalize y.kinds.length = lk at *
      generalize y.base.length = lb at *
      generalize y.blocks.length = ls at *
      have HC := hide hC
      have HW6 := hide hW6
      clear hC hW6 hy hi hfm hle hpre5 hpl5 hwr
      go_wp2_with (go_at_call 33; refine HC.out.mono ?_; rintro e w7 ⟨rfl, hw7⟩)
      go_roundw
      case rel => exact ⟨k + 1, by omega, by go_num, (HW6.out.trans hw7).cast (by rw [HF5.out])⟩
      case measure => simp [intOf]; omega
    · have hend := hide (hwr.cast (ys := zs ++ encProg p) (by rw [List.take_of_length_le (by have := HN.out; omega), HT0.out, ← HP2.out, List.append_assoc]))
      clear hwr
      go_wp2
      go_end0
      exact ⟨rfl, hend.out⟩

/-- What Encode answers, in memory. -/
def EncA (W : World) (p : List FunV) (e : Ending) (w' : World) : Prop :=
  ∃ A c, e = .returned (.tuple #[.slice A (encR p).1.length c, .int .i64 ((encR p).2 : Int)]) ∧ Sl w' w'.heap.size .u8 A (encR p).1 ∧ (encR p).1.length ≤ c ∧ c ≤ 9223372036854775807 ∧ (encR p).1.length ≤ 2000000 ∧ Below W.heap.size W w'
theorem EncA.no {W w' : World} {p : List FunV} {k : Nat} (h : encR p = ([], k)) (hb : Below W.heap.size W w') : EncA W p (.returned (.tuple #[.slice none 0 0, .int .i64 (k : Int)])) w' :=
  ⟨none, 0, by rw [h]; rfl, by rw [h]; exact Sl.nil _ _ _ _, by rw [h]; exact Nat.le_refl _, by omega, by rw [h]; exact Nat.zero_le _, hb⟩
end Go.Proofs.YtkimocfofihjbaaDoor
namespace Go.Proofs.YtkimocfofihjbaaDoor
open Go.RowKit

theorem Wrote.out {w w1 : World} {g base : Nat} {zs : List Int} (h : Wrote w g base zs w1) : ∃ A c, Box w1 g #[.slice A zs.length c] 63 ∧ Sl w1 w1.heap.size .u8 A zs ∧ zs.length ≤ c ∧ c ≤ 9223372036854775807 := by
  obtain ⟨v, hb, ho, -⟩ := h.ws
  obtain ⟨A, c, rfl, h1, h2, h3⟩ := ho.sl
  exact ⟨A, c, hb, h3, h1, by simp only [maxLen] at h2; omega⟩

set_option maxHeartbeats 400000 in
set_option maxRecDepth 100000 in
theorem encode_any (vp : Value) (p : List FunV) (w : World) (B : Nat) (hB : B ≤ w.heap.size) (hT : TabP w) (hp : FunsV w (· < B) vp p) :
    Calls Tryd.prog 10 #[.agg #[vp]] w (EncA w p) := by
  have hR := hp.range
  have hLm := fun (q : Nat) => limits_any ((w.alloc (.cells #[vp] 26)).drewN q)
  have hLp := fun (W : World) (hW : Below w.heap.size w W) (l0 l1 l2 l3 l4 : Value) (hL : LimsC W (· < W.heap.size) l0 l1 l2 l3 l4) => lprog_any l0 l1 l2 l3 l4 vp p W W.heap.size (Nat.le_refl _) hL (hp.keep (up hW hB) (fun b h => by have := hW.size; omega))
  obtain ⟨A, c, rfl, hpc, hpm⟩ := hp.open'
  obtain ⟨n, hn⟩ : ∃ n, p.length = n := ⟨_, rfl⟩
  rw [hn] at hp hpc hLm hLp ⊢
  have HN := hide hn
  have HP := hide hp
  have HR := hide hR
  have HLm := hide hLm
  have HT := hide hT
  by_cases hc : cntB p = true
  · rw [hc] at hLp
    have HLp := hide hLp
    have HC := hide hc
    clear hLm hLp hc hn hp hR hT
    go_enter Tryd.func10, Tryd.ntmps10
    go_wp2_with fail
    go_region_held3 (fun w' => w'.cell? ⟨w.heap.size, 0, none⟩ = some (.slice A n c)) (first | go_keep | (exact (hb1.cell (p := ⟨w.heap.size, 0, none⟩) (by simp)).trans (by simp)) | (exact (hb2.cell (p := ⟨w.heap.size, 0, none⟩) (by show w.heap.size < _; omega)).trans hcell1))
      (first
        | (go_at_call 11; refine (HLm.out 1).mono ?_; rintro e w1 ⟨l0, l1, l2, l3, l4, rfl, hl, hb1⟩; have hcell1 := (hb1.cell (p := ⟨w.heap.size, 0, none⟩) (by simp)).trans (show _ = some (Value.slice A n c) by simp); have hz1 := hb1.size; simp at hz1)
        | (go_at_call 17; refine (HLp.out _ ((below_drewN (alloc1 w _) 1).trans (hb1.mono (by simp))) _ _ _ _ _ hl).mono ?_; rintro e w2 ⟨rfl, hb2⟩; have hz2 := hb2.size))
    have hbw2 : Below w.heap.size w w2 := ((below_drewN (alloc1 w _) 1).trans (hb1.mono (by simp))).trans (hb2.mono (by omega))
    have x0 : w2.cell? ⟨w.heap.size, 0, none⟩ = some (.slice A n c) := by assumption
    have x1 : w.heap.size < w2.heap.size := by omega
    clear hl hb1 hcell1 hz1 hz2 hb2
    go_wp2
    go_loopw [14] (fun i wr => ∃ k : Nat, k ≤ n ∧ i = .int .i64 k ∧ Below w.heap.size w wr ∧ w.heap.size < wr.heap.size ∧ wr.cell? ⟨w.heap.size, 0, none⟩ = some (.slice A n c) ∧ Hid ((p.take k).all funMayB = true)) (fun i _ => n - (intOf i).toNat)
    case atStart => exact ⟨0, Nat.zero_le _, rfl, hbw2, x1, x0, hide (by simp)⟩
    case round =>
      obtain ⟨k, hk, rfl, hb, hs1, hx0, hall⟩ := hrel
      by_cases hlt : k < n
      · obtain ⟨y, hy⟩ : ∃ y, p[k]? = some y := ⟨_, List.getElem?_eq_getElem (by have := HN.out; omega)⟩
        obtain ⟨b, o, Ak, ck, Ab, cb, As, cs, rfl, hbb, ⟨e0, e1, e2, e3, e4⟩, hi⟩ := (HP.out.keep (up hb hB) (fun _ h => h)).get hy
        have hbs : b < wr.heap.size := by omega
        have HY := hide hy
        have hC := fun (W : World) (hW : Below wr.heap.size wr W) => funcMay_any (.slice Ak y.kinds.length ck) (.slice Ab y.base.length cb) (.slice As y.blocks.length cs) y W B (by have := hW.size; omega) ((HT.out.below hb HT.out.1).below hW (by omega)) (hi.keep (up hW (by omega)) (fun _ h => h))
        generalize y.kinds.length = lk at *
        generalize y.base.length = lb at *
        generalize y.blocks.length = ls at *
        by_cases hp0 : funMayB y = true
        · have hp := hide hp0
          rw [hp0] at hC
          have HC2 := hide hC
          clear hp0 hC hy hi
          go_wp2_with (go_at_call 18; refine (HC2.out _ (alloc1 wr _)).mono ?_; rintro e w3 ⟨rfl, hb3⟩)
          have hb4 := (alloc1 wr (.cells #[.slice Ak lk ck, .slice Ab lb cb, .int .i64 y.params, .int .i64 y.result, .slice As ls cs] 38)).trans (hb3.mono (by simp))
          go_roundw
          case rel => exact ⟨k + 1, by omega, by go_num, hb.trans (hb4.mono (by omega)), by have := hb4.size; omega, (hb4.cell (p := ⟨w.heap.size, 0, none⟩) hs1).trans hx0, hide (allB_take hall.out HY.out hp.out)⟩
          case measure => simp [intOf]; omega
        · have hpf := Bool.eq_false_iff.2 hp0
          have hv := hide (show encR p = ([], 1) by unfold encR; rw [HC.out, allB_not HY.out hpf]; rfl)
          rw [hpf] at hC
          have HC2 := hide hC
          clear hp0 hC hy hi hpf
          go_wp2_with (go_at_call 18; refine (HC2.out _ (alloc1 wr _)).mono ?_; rintro e w3 ⟨rfl, hb3⟩)
          have hb4 := (alloc1 wr (.cells #[.slice Ak lk ck, .slice Ab lb cb, .int .i64 y.params, .int .i64 y.result, .slice As ls cs] 38)).trans (hb3.mono (by simp))
          go_ret2
          exact EncA.no hv.out (hb.trans (hb4.mono (by omega)))
      · have hmay := allB_end hall.out HN.out (by omega)
        have hfew := may_few HC.out hmay
        have hlen := encProg_len HR.out hfew.2 hfew.1
        have hv := hide (show encR p = (encProg p, 0) by unfold encR; rw [HC.out, hmay]; rfl)
        have hws : WS (wr.alloc (.cells #[.slice none 0 0] 63)) wr.heap.size wr.heap.size [] := ⟨_, Box.new wr _ _, Ow.nil _ _ _ _, Nat.le_refl _⟩
        have HWP := hide (wprog_any (.slice A n c) p wr.heap.size wr.heap.size [] _ B (by have := hb.size; omega) (by omega) (by simp) hws ((HT.out.below hb HT.out.1).below (alloc1 wr _) (by omega)) ((HP.out.keep (up hb hB) (fun _ h => h)).keep (fun b o hb' => World.cell?_alloc_lt _ _ _ (by show b < _; have := hb.size; omega)) (fun _ h => h)) hfew.2 (by simp; omega))
        have HLen := hide hlen
        clear hmay hfew hlen hws
        go_wp2_with (go_at_call 19; refine HWP.out.mono ?_; rintro e w3 ⟨rfl, hw3⟩; rw [List.nil_append] at hw3; obtain ⟨A3, c3, hb3, hs3, hl3, hm3⟩ := hw3.out; have y0 := (hb3.cell 0 (v := .slice A3 (encProg p).length c3) rfl).1; have y1 := hb3.lt; have HW3 := hide hw3.below; have HS3 := hide hs3; clear hw3 hb3 hs3)
        go_ret2
        have h1 := hv.out
        refine ⟨A3, c3, by rw [h1]; rfl, by rw [h1]; exact HS3.out, by rw [h1]; exact hl3, hm3, by rw [h1]; exact Nat.le_trans HLen.out (by omega), hb.trans (((alloc1 wr _).trans HW3.out).mono (by omega))⟩
  · have hcf := Bool.eq_false_iff.2 hc
    rw [hcf] at hLp
    have hv := hide (show encR p = ([], 9) by unfold encR; rw [if_neg hc])
    have HLp := hide hLp
    clear hLm hLp hc hcf hn hp hR hT
    go_enter Tryd.func10, Tryd.ntmps10
    go_wp2_with fail
    go_region_held3 (fun w' => w'.cell? ⟨w.heap.size, 0, none⟩ = some (.slice A n c)) (first | go_keep | (exact (hb1.cell (p := ⟨w.heap.size, 0, none⟩) (by simp)).trans (by simp)) | (exact (hb2.cell (p := ⟨w.heap.size, 0, none⟩) (by show w.heap.size < _; omega)).trans hcell1))
      (first
        | (go_at_call 11; refine (HLm.out 1).mono ?_; rintro e w1 ⟨l0, l1, l2, l3, l4, rfl, hl, hb1⟩; have hcell1 := (hb1.cell (p := ⟨w.heap.size, 0, none⟩) (by simp)).trans (show _ = some (Value.slice A n c) by simp); have hz1 := hb1.size; simp at hz1)
        | (go_at_call 17; refine (HLp.out _ ((below_drewN (alloc1 w _) 1).trans (hb1.mono (by simp))) _ _ _ _ _ hl).mono ?_; rintro e w2 ⟨rfl, hb2⟩; have hz2 := hb2.size))
    have hbw2 : Below w.heap.size w w2 := ((below_drewN (alloc1 w _) 1).trans (hb1.mono (by simp))).trans (hb2.mono (by omega))
    go_wp2
    go_ret2
    exact EncA.no hv.out hbw2
end Go.Proofs.YtkimocfofihjbaaDoor
