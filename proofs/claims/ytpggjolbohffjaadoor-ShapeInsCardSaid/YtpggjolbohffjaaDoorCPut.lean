/- The contracts of the writer's put and putSigned. Condition: no more than 2^30 bytes. -/
import Derived.Test.YtpggjolbohffjaaDoorCMayW
import Derived.Test.YtpggjolbohffjaaDoorVPut
import Derived.Deep.RegionHeld3
import Derived.Deep.RegionLaw
import Derived.Deep.AppendLies
import Derived.Deep.DrawnRows
set_option linter.unusedSimpArgs false
set_option linter.unusedVariables false
namespace Go.Proofs.YtpggjolbohffjaaDoor
open Go.RowKit
attribute [local go_sem ↓] Go.wp_at_zero Go.wp_at_succ

section
variable {P : Program} (w : World)
/-- append(v, x..) at a step of a region that draws its order: v the call's own, x a slice that reads as 'news', nil or not. -/
theorem step_append_sl {ops : Array Oper} {o : Oper} {a : Act} {K : Act → World → Prop} {Q : Exit → Act → World → Prop} {E : Prop} (hgd : o.guard = none) (s x : Operand) (t : TypeId)
    (ho : o.op = .call { callee := .builtin .append, args := #[s, x], argTypes := #[t, t] })
    (base : Nat) (e : TypeId) (k : IntKind) (i : TypeInfo) (z : Value) (bytes : Nat) (ht : P.underlying t = some (.slice e)) (hi : P.info? e = some i) (hz : i.zero = some z)
    (hsize : i.size = 1) (hby : i.bytes = bytes) (hzs : z.cells.size = 1) (hb8 : bytes ≤ 8)
    (v : Value) (zs : List Int) (hs : a.eval s = v) (hown : Ow w base e k v zs)
    (B : Nat) (A : Option Addr) (m c : Nat) (news : List Int) (hx : a.eval x = .slice A m c) (hm : news.length = m) (hr : Sl w B k A news)
    (hroom : zs.length + m ≤ 1099511627776) (hbase : base ≤ w.heap.size)
    (h : ∀ v' w', Ow w' base e k v' (zs ++ news) → w.grownBy w' v.ownBlock → K (a.put o.dst v') w') :
    if Region.wanted o (yielded ops a.tmps) = true then Oper.wp P o a w K Q else E := by
  subst hm
  have hw : Region.wanted o (yielded ops a.tmps) = true := by simp [Region.wanted, hgd]
  rw [if_pos hw]
  have key : ∃ v' w', (Builtin.append_ #[t, t] o.type #[v, .slice A news.length c]).run P w = .ok v' w' ∧ Ow w' base e k v' (zs ++ news) ∧ w.grownBy w' v.ownBlock := by
    by_cases h0 : news = []
    · subst h0
      refine ⟨v, w, ?_, by simpa using hown, World.grownBy.refl _ _⟩
      rcases hown.2 with ⟨rfl, _⟩ | ⟨g, cap, cur, rfl, _, _, hnc, _⟩
      · cases A <;> simp [Builtin.append_, run_underlying ht, sizeOf, typeInfo, hi, Builtin.lenOf, Builtin.firstCells, loadCells, loadCellsFrom]
      · cases A <;> simp [Builtin.append_, run_underlying ht, sizeOf, typeInfo, hi, Builtin.lenOf, Builtin.firstCells, hnc, storeCells, loadCells, loadCellsFrom]
        all_goals simp [List.length_map] at hnc
        all_goals first | omega | (simp [storeCells])
    · obtain ⟨b, off, rfl, _, hc⟩ := hr (List.length_pos_iff.2 h0)
      obtain ⟨v', w', hrun, h2, h3, _⟩ := run_append_own (P := P) w base t o.type e i z 1 bytes ht hi hz hsize hby hzs (by omega) v zs.length (zs.map (Value.int k)) hown ⟨b, off, none⟩ news.length c (news.map (Value.int k)) (by simp)
        (fun j u hu => by
          have hj : j < news.length := by have := (List.getElem?_eq_some_iff.1 hu).1; simpa using this
          rw [Addr.add_lit, hc j hj]
          rw [← hu]
          simp [List.getD, hj]) (ints_one k news) (by simp only [maxLen]; omega)
        (by have : (zs.length + news.length) * bytes ≤ 1099511627776 * 8 := Nat.mul_le_mul hroom hb8; omega) hbase
      exact ⟨v', w', hrun, by unfold Ow; simpa using h2, h3⟩
  obtain ⟨v', w', hrun, h2, h3⟩ := key
  unfold Oper.wp execOp
  simp only [ho, resolve, invoke, builtin, Sem.run_bind, Sem.run_pure, Result.andThen_ok, List.map_toArray, List.map_cons, List.map_nil, hs, hx, hrun]
  exact h v' w' h2 h3
end

/-- The writer: a block with the slice that it owns. -/
def WS (w : World) (g base : Nat) (zs : List Int) : Prop := ∃ v, Box w g #[v] 78 ∧ Ow w base 5 .u8 v zs ∧ base ≤ g
/-- What a writer's method leaves. -/
structure Wrote (w : World) (g base : Nat) (zs : List Int) (w' : World) : Prop where
  ws : WS w' g base zs
  below : Below base w w'
  kept : Lib.OthersKept 5 (some g) w w'
theorem Ow.row {w : World} {base : Nat} {e : TypeId} {k : IntKind} {v : Value} {zs : List Int} (h : Ow w base e k v zs) : ∀ g, v.ownBlock = some g → base ≤ g ∧ ∃ c fz, w.heap[g]? = some (.cells c e fz) := fun g hg => by
  rcases h.2 with ⟨rfl, _⟩ | ⟨g', cap, cur, rfl, hb, hgg, _⟩
  · simp [Value.ownBlock] at hg
  · simp [Value.ownBlock] at hg
    subst hg
    exact ⟨hb, cur, _, hgg⟩
theorem Ow.apart {w : World} {base g : Nat} {k : IntKind} {v : Value} {zs : List Int} {cs : Array Value} {e T : TypeId} (h : Ow w base e k v zs) (hb : Box w g cs T) (hT : T ≠ e) : v.ownBlock ≠ some g := fun hv => by
  obtain ⟨-, c, fz, hc⟩ := h.row g hv
  rw [Box] at hb
  rw [hb] at hc
  injection hc with hc
  injection hc with _ h2 _
  exact hT h2
theorem Wrote.mk' {w w1 w2 : World} {g base : Nat} {v v2 : Value} {zs ys : List Int} (hb : Box w g #[v] 78) (ho : Ow w base 5 .u8 v zs) (hg : base ≤ g) (hb1 : Below w.heap.size w w1) (ho2 : Ow w2 base 5 .u8 v2 ys) (hgr : w1.grownBy w2 v.ownBlock) :
    Wrote w g base ys (w2.setCell ⟨g, 0, none⟩ v2) := by
  have hlt := hb.lt
  have hsz := hb1.size
  have hap := ho.apart hb (by decide)
  have hB1 : Box w1 g #[v] 78 := hb.below hb1
  have hB2 : Box w2 g #[v] 78 := (hgr.block g (by omega) (fun h => hap h.symm)).trans hB1
  have hB3 := hB2.set 0 v2
  have k1 : Lib.OthersKept 5 (some g) w w1 := fun k o hk _ _ => (hb1.block k (Array.getElem?_eq_some_iff.1 hk).1).trans hk
  have hne : ∀ j, v2.ownBlock = some j → j ≠ g := fun j hj hjg => (ho2.apart hB2 (by decide)) (by rw [hj, hjg])
  refine ⟨⟨v2, hB3, ?_, hg⟩, ?_, ?_⟩
  · refine ⟨ho2.1, ?_⟩
    rcases ho2.2 with h2 | ⟨g', cap, cur, hv, hbg, hh, r⟩
    · exact .inl h2
    · refine .inr ⟨g', cap, cur, hv, hbg, ?_, r⟩
      rw [heap_setCell_other _ _ _ _ (hne g' (by rw [hv]; rfl))]
      exact hh
  · refine Below.setCell ((hb1.mono (by omega)).grown hgr (by omega) fun k hk => (ho.row k hk).1) hg _
  · refine Lib.OthersKept.setCell (k1.grown hgr fun j hj => ?_) _ rfl _
    obtain ⟨-, c, fz, hc⟩ := ho.row j hj
    exact ⟨c, fz, (hb1.block j (Array.getElem?_eq_some_iff.1 hc).1).trans hc⟩

set_option maxRecDepth 100000 in
theorem put_any (va : Value) (l : List Int) (g base : Nat) (zs : List Int) (w : World) (hW : WS w g base zs) (hl : IntsV w (· < w.heap.size) va l) (hn : l.length ≤ 1000) (hroom : zs.length ≤ 1073741824) :
    Calls Tryd.prog 77 #[.pointer (some ⟨g, 0, none⟩), va] w fun e w' => e = .returned (.tuple #[]) ∧ Wrote w g base (zs ++ encL l) w' := by
  obtain ⟨v, hb, ho, hg⟩ := hW
  obtain ⟨i0, hi0, hz0, hz1, hz2⟩ := info_parts info_u8
  obtain ⟨A, c, rfl, -, -, hsl, hr⟩ := hl.sl
  have hll := encL_len l (fun z hz => (hr z hz).2)
  have HL := hide (fun q => list_any A l.length c l (w.drewN q) hsl rfl (by omega) hr)
  have hmk := hide (fun w1 w2 v2 (h1 : Below w.heap.size w w1) (h2 : Ow w2 base 5 .u8 v2 (zs ++ encL l)) (h3 : w1.grownBy w2 v.ownBlock) => Wrote.mk' hb ho hg h1 h2 h3)
  obtain ⟨A0, c0, rfl, -, -, -⟩ := ho.sl
  have hc := (hb.cell 0 (v := .slice A0 zs.length c0) rfl).1
  have hf := (hb.cell 0 (v := .slice A0 zs.length c0) rfl).2
  have hlt := hb.lt
  have hap := ho.apart hb (by decide)
  have HO := hide ho
  have HI := hide hi0
  generalize l.length = n at *
  clear hsl hr hl hb ho hi0
  go_enter Tryd.func77, Tryd.ntmps77
  go_wp2_with fail
  go_region_law
    (first
      | (refine step_append_sl _ (by rfl) _ _ _ (by rfl) base 5 .u8 i0 _ 1 Tryd.underlying22 HI.out hz0 hz1 hz2 rfl (by omega) (.slice A0 zs.length c0) zs (by rfl) (HO.out.below hb1) w1.heap.size A1 _ c1 (encL l) (by rfl) rfl hs1 (by omega) (by omega) ?_; intro v2 w2 ho2 hgr; obtain ⟨A2, c2, rfl, -, -, -⟩ := ho2.sl; have hcg := (hgr.cell_far ⟨g, 0, none⟩ (by simp; omega) (Ne.symm hap)).trans ((hb1.cell (p := ⟨g, 0, none⟩) hlt).trans hc); have hfg := (hgr.frozen_far ⟨g, 0, none⟩ (by simp; omega) (Ne.symm hap)).trans ((hb1.frozen (p := ⟨g, 0, none⟩) hlt).trans hf))
      | (rw [if_pos (by rfl)]; go_simp; go_at_call 95; refine (HL.out 1).mono ?_; rintro e w1 ⟨v1, rfl, ho1, hb0⟩; have hb1 : Below w.heap.size w w1 := ⟨hb0.os, hb0.tape, hb0.output, hb0.size, hb0.block⟩; have hz := hb1.size; have hcg := (hb1.cell (p := ⟨g, 0, none⟩) hlt).trans hc; obtain ⟨A1, c1, rfl, -, -, hs1⟩ := ho1.sl))
  all_goals
    have hend := hmk.out w1 w2 _ hb1 ho2 hgr
    rw [List.length_append] at hend
    have HE := hide hend
    clear hend
    go_end0
    exact ⟨rfl, HE.out⟩

set_option maxRecDepth 100000 in
theorem putSigned_any (x : Int) (g base : Nat) (zs : List Int) (w : World) (hW : WS w g base zs) (hx : i64R x) (hroom : zs.length ≤ 1073741824) :
    Calls Tryd.prog 106 #[.pointer (some ⟨g, 0, none⟩), .int .i64 x] w fun e w' => e = .returned (.tuple #[]) ∧ Wrote w g base (zs ++ enc (zz x)) w' := by
  obtain ⟨v, hb, ho, hg⟩ := hW
  obtain ⟨i0, hi0, hz0, hz1, hz2⟩ := info_parts info_u8
  have hll := enc_len10 (zz_lt hx)
  have HL := hide (fun q => puts_any none 0 0 [] x (w.drewN q) (Sl.nil _ _ _ _) rfl (by omega) hx)
  have hmk := hide (fun w1 w2 v2 (h1 : Below w.heap.size w w1) (h2 : Ow w2 base 5 .u8 v2 (zs ++ enc (zz x))) (h3 : w1.grownBy w2 v.ownBlock) => Wrote.mk' hb ho hg h1 h2 h3)
  obtain ⟨A0, c0, rfl, -, -, -⟩ := ho.sl
  have hc := (hb.cell 0 (v := .slice A0 zs.length c0) rfl).1
  have hf := (hb.cell 0 (v := .slice A0 zs.length c0) rfl).2
  have hlt := hb.lt
  have hap := ho.apart hb (by decide)
  have HO := hide ho
  have HI := hide hi0
  generalize enc (zz x) = ez at *
  clear hb ho hi0
  go_enter Tryd.func106, Tryd.ntmps106
  go_wp2_with fail
  go_region_law
    (first
      | (refine step_append_sl _ (by rfl) _ _ _ (by rfl) base 5 .u8 i0 _ 1 Tryd.underlying22 HI.out hz0 hz1 hz2 rfl (by omega) (.slice A0 zs.length c0) zs (by rfl) (HO.out.below hb1) w1.heap.size A1 _ c1 ez (by rfl) rfl hs1 (by omega) (by omega) ?_; intro v2 w2 ho2 hgr; obtain ⟨A2, c2, rfl, -, -, -⟩ := ho2.sl; have hcg := (hgr.cell_far ⟨g, 0, none⟩ (by simp; omega) (Ne.symm hap)).trans ((hb1.cell (p := ⟨g, 0, none⟩) hlt).trans hc); have hfg := (hgr.frozen_far ⟨g, 0, none⟩ (by simp; omega) (Ne.symm hap)).trans ((hb1.frozen (p := ⟨g, 0, none⟩) hlt).trans hf))
      | (rw [if_pos (by rfl)]; go_simp; go_at_call 114; refine (HL.out 1).mono ?_; rintro e w1 ⟨v1, rfl, ho1, hb0⟩; rw [List.nil_append] at ho1; have hb1 : Below w.heap.size w w1 := ⟨hb0.os, hb0.tape, hb0.output, hb0.size, hb0.block⟩; have hz := hb1.size; have hcg := (hb1.cell (p := ⟨g, 0, none⟩) hlt).trans hc; obtain ⟨A1, c1, rfl, -, -, hs1⟩ := ho1.sl))
  all_goals
    have hend := hmk.out w1 w2 _ hb1 ho2 hgr
    rw [List.length_append] at hend
    have HE := hide hend
    clear hend
    go_end0
    exact ⟨rfl, HE.out⟩
end Go.Proofs.YtpggjolbohffjaaDoor
