/- Layer 14: the reference's Lay, by what its Split answers. Condition: the function is one that may be. -/
import Derived.Test.YtnoknodijombpaaPgPQ
import Derived.Test.YtnoknodijombpaaPgLR
import Derived.Deep.RegionHeld3
import Derived.Deep.AppendLies
set_option linter.unusedSimpArgs false
set_option linter.unusedVariables false
namespace Go.Proofs.Ytnoknodijombpaa
open Go.RowKit

theorem OwC.lit14 {w : World} {H B : Nat} (hb : Box w H #[] 50) (hB : B ≤ H) : OwC insC 50 7 w B (.slice (some ⟨H, 0, none⟩) 0 0) [] :=
  ⟨rfl, .inr ⟨H, 0, #[], rfl, hB, hb, Nat.le_refl _, by simp [maxLen], rfl, rfl⟩⟩
theorem srcIns14 {W : World} {h : Nat} {xo xd xa xb xn xm : Int} {ags : List Int} {A2 : Option Addr} {na c2 : Nat} (hb : Box W h #[.int .i64 xo, .int .i64 xd, .int .i64 xa, .int .i64 xb, .int .i64 xn, .int .i64 xm, .slice A2 na c2] 50) : SrcI W (some ⟨h, 0, none⟩) 1 [((⟨xo, xd, xa, xb, xn, xm, ags⟩ : InsV), Value.slice A2 na c2)] := by
  refine ⟨rfl, fun u hu => ?_, fun _ => ⟨h, 0, rfl, hb.lt, fun j u hu => ?_⟩⟩
  · simp only [List.flatMap_cons, List.flatMap_nil, List.append_nil, insC, List.mem_cons, List.mem_nil_iff, or_false] at hu
    rcases hu with rfl | rfl | rfl | rfl | rfl | rfl | rfl <;> rfl
  · rw [Nat.zero_add]
    exact (hb.cell j (by rw [← hu, List.getElem?_toArray]; rfl)).1
/-- append(s, x..) of instructions at a step of a region that draws its order; s has a block of one's own. -/
theorem step_append_src14 {P : Program} (w : World) {ops : Array Oper} {o : Oper} {a : Act} {K : Act → World → Prop} {Q : Exit → Act → World → Prop} {E : Prop} (hgd : o.guard = none) (s x : Operand) (t : TypeId)
    (ho : o.op = .call { callee := .builtin .append, args := #[s, x], argTypes := #[t, t] })
    (i : TypeInfo) (z : Value) (ht : P.underlying t = some (.slice 50)) (hi : P.info? 50 = some i) (hz : i.zero = some z)
    (hsize : i.size = 7) (hby : i.bytes = 72) (hzs : z.cells.size = 7)
    (base g0 cap0 n : Nat) (l : List (InsV × Value)) (hln : l.length = n) (hs : a.eval s = .slice (some ⟨g0, 0, none⟩) n cap0) (hown : OwC insC 50 7 w base (.slice (some ⟨g0, 0, none⟩) n cap0) l)
    (A : Option Addr) (m c : Nat) (news : List (InsV × Value)) (nm : Nat) (hnm : n + m = nm) (hx : a.eval x = .slice A m c) (hr : SrcI w A m news)
    (hroom : nm ≤ 100000) (hbase : base ≤ w.heap.size)
    (h : ∀ g cap w', OwC insC 50 7 w' base (.slice (some ⟨g, 0, none⟩) nm cap) (l ++ news) → w.grownBy w' (some g0) → (g = g0 ∨ g = w.heap.size) → g < w'.heap.size → K (a.put o.dst (.slice (some ⟨g, 0, none⟩) nm cap)) w') :
    if Region.wanted o (yielded ops a.tmps) = true then Oper.wp P o a w K Q else E := by
  subst hnm
  subst hln
  obtain ⟨hm, h1, hc⟩ := hr
  by_cases h0 : m = 0
  · subst h0
    have hn0 : news = [] := List.eq_nil_of_length_eq_zero hm
    subst hn0
    have hcap : l.length ≤ cap0 := by
      rcases hown.2 with ⟨h2, -⟩ | ⟨g', cap, cur, hv, -, -, hnc, -⟩
      · cases h2
      · injection hv with _ _ e
        omega
    have hw : Region.wanted o (yielded ops a.tmps) = true := by simp [Region.wanted, hgd]
    rw [if_pos hw]
    have hrun : (Builtin.append_ #[t, t] o.type #[.slice (some ⟨g0, 0, none⟩) l.length cap0, .slice A 0 c]).run P w = .ok (.slice (some ⟨g0, 0, none⟩) l.length cap0) w := by
      cases A <;> simp [Builtin.append_, run_underlying ht, sizeOf, typeInfo, hi, Builtin.lenOf, Builtin.firstCells, storeCells, loadCells, loadCellsFrom, hcap]
    unfold Oper.wp execOp
    simp only [ho, resolve, invoke, builtin, Sem.run_bind, Sem.run_pure, Result.andThen_ok, List.map_toArray, List.map_cons, List.map_nil, hs, hx, hrun]
    exact h g0 cap0 w (by simpa using hown) (World.grownBy.refl _ _) (.inl rfl) (hown.lt g0 rfl).2
  · obtain ⟨b, off, rfl, hb, hcell⟩ := hc (by omega)
    refine step_append_lies w hgd s x t ho base 50 i z 7 72 ht hi hz hsize hby hzs (by omega) (.slice (some ⟨g0, 0, none⟩) l.length cap0) l.length (l.flatMap insC) hs hown ⟨b, off, none⟩ m c (news.flatMap insC) hx (by rw [flat_len (c := insC) (sz := 7) (fun _ => rfl), hm])
      (fun j u hu => by rw [Addr.add_lit]; exact hcell j u hu) h1 (by omega) (by simp only [maxLen]; omega) (by omega) hbase w.heap.size rfl
      fun g cap w' h2 h3 h4 h5 => ?_
    refine h g cap w' (by unfold OwC; rw [List.flatMap_append, List.length_append, hm]; exact h2) h3 ?_ h5
    rcases h4 with h4 | h4
    · left
      have : some g0 = some g := h4
      injection this with this
      exact this.symm
    · exact .inr h4
theorem CodeM.inssNG {w : World} {base g : Nat} {p : List InsV × Value} (h : CodeM w base p) (hg : TB w 53 g) : InssV w (NG w g) p.2 p.1 := by
  obtain ⟨q, h1, h2, h3⟩ := h
  rw [← h1]
  exact codes_vec h2 (fun r hr => (h3 r hr).keep (fun _ _ _ => rfl) (fun b hb => ⟨.inl hb, tb_ne hb hg (by decide)⟩)) (fun b hb => ⟨.inr (.inr (h2.row b hb)), tb_ne (h2.row b hb) hg (by decide)⟩)
theorem layTo_short {xs : List (List InsV)} {T : Nat → Bool} {k : Nat} {l : List InsV} (h : ∀ l ∈ layTo xs T k, l.length ≤ 40) (hT : T k = true) (hl : xs[k]? = some l) (h2 : (pollB l).length ≤ 40) : ∀ l ∈ layTo xs T (k + 1), l.length ≤ 40 := by
  rw [layTo_yes hT hl]
  intro x hx
  rcases List.mem_or_eq_of_mem_set hx with hx | rfl
  · exact h x hx
  · exact h2
/-- What is as it was: all blocks of w6 but g. -/
structure KeepG (g : Nat) (w6 w : World) : Prop where
  size : w6.heap.size ≤ w.heap.size
  block : ∀ x, x < w6.heap.size → x ≠ g → w.heap[x]? = w6.heap[x]?
theorem KeepG.refl (g : Nat) (w : World) : KeepG g w w := ⟨Nat.le_refl _, fun _ _ _ => rfl⟩
theorem KeepG.below {g : Nat} {w6 w w' : World} (h : KeepG g w6 w) (hb : Below w.heap.size w w') : KeepG g w6 w' := ⟨Nat.le_trans h.size hb.size, fun x hx hg => (hb.block x (Nat.lt_of_lt_of_le hx h.size)).trans (h.block x hx hg)⟩
theorem KeepG.set {g k : Nat} {w6 w : World} (h : KeepG g w6 w) (v : Value) : KeepG g w6 (w.setCell ⟨g, k, none⟩ v) := ⟨by rw [World.size_setCell]; exact h.size, fun x hx hg => (heap_setCell_other w ⟨g, k, none⟩ x v hg).trans (h.block x hx hg)⟩
theorem KeepG.box {g b : Nat} {w6 w : World} {cs : Array Value} {T : TypeId} (h : KeepG g w6 w) (hb : Box w6 b cs T) (hg : b ≠ g) : Box w b cs T := (h.block b hb.lt hg).trans hb
set_option maxHeartbeats 8000000 in
set_option maxRecDepth 100000 in
theorem rlay_of (vk vb vs : Value) (f : FunV) (w : World) (B : Nat) (hB : B ≤ w.heap.size) (hi : FunI w (· < B) vk vb vs f) (hs : SOk f) (hS : ∀ (W : World) (vk vb vs : Value) (B : Nat), B ≤ W.heap.size → FunI W (· < B) vk vb vs f → Calls Try.prog 10 #[.agg #[vk, vb, .int .i64 f.params, .int .i64 f.result, vs]] W (SplA f W)) :
    Calls Try.prog 21 #[.agg #[vk, vb, .int .i64 f.params, .int .i64 f.result, vs]] w (LayA f w) := by
  have kI := fun (W : World) (hW : Below w.heap.size w W) => hi.keep (w := w) (S := (· < B)) (up hW hB) (fun _ h => h)
  have HSP := hide (fun (W : World) (hW : Below w.heap.size w W) => (hS W _ _ _ B (by have := hW.size; omega) (kI W hW)).mono (R' := fun e w' => (fitsB f = true → ∃ v1 v2 v3, e = .returned (.tuple #[.agg #[v1, v2, .int .i64 f.params, .int .i64 f.result, v3], .int .i64 0]) ∧ FunI w' (NF w') v1 v2 v3 (splitF f) ∧ (IntsV w' (TB w' 3) v1 (splitF f).kinds ∧ IntsV w' (TB w' 3) v2 (splitF f).base) ∧ (∃ l, BlkM w' W.heap.size v3 l ∧ l.map (·.1) = (splitF f).blocks) ∧ Below W.heap.size W w') ∧ (fitsB f = false → e = .returned (.tuple #[.agg #[.slice none 0 0, .slice none 0 0, .int .i64 0, .int .i64 0, .slice none 0 0], .int .i64 9]) ∧ Below W.heap.size W w')) (fun e w' h => ⟨fun hf => by
      obtain ⟨v1, v2, v3, l, h1, h2, h3, h4, h5, h6⟩ := h.1 hf
      obtain ⟨-, -, -, -, -, -, hR1⟩ := (kI W hW).1.sl
      obtain ⟨-, -, -, -, -, -, hR2⟩ := (kI W hW).2.1.sl
      exact ⟨v1, v2, v3, h1, spl_funNF (kI W hW) h2 h3 h4 h5, ⟨ints_vec h2 hR1 (fun b hb => h2.tbI hb), ints_vec h3 hR2 (fun b hb => h3.tbI hb)⟩, ⟨l, h4, h5⟩, h6⟩, h.2⟩))
  have HS := hide hs
  obtain ⟨Ak, ck, rfl, -, -⟩ := hi.1.open'
  obtain ⟨Ab, cb, rfl, -, -⟩ := hi.2.1.open'
  obtain ⟨As, cs, rfl, -, -⟩ := hi.2.2.1.open'
  obtain ⟨fp, hfp⟩ : ∃ fp, f.params = fp := ⟨_, rfl⟩
  obtain ⟨fr, hfr⟩ : ∃ fr, f.result = fr := ⟨_, rfl⟩
  have HFP := hide hfp
  have HFR := hide hfr
  rw [hfp, hfr] at HSP
  rw [hfp, hfr]
  generalize f.kinds.length = lk, f.base.length = lb, f.blocks.length = ls at *
  obtain ⟨ft, hft⟩ : ∃ ft, fitsB f = ft := ⟨_, rfl⟩
  have HFT := hide hft
  rw [hft] at HSP
  obtain ⟨i0, hi0, iz0, iz1, iz2⟩ := info_parts info_ins13
  have HI := hide hi0
  clear hi kI hs hB hS hfp hfr hft hi0
  go_enter Try.func21, Try.ntmps21
  go_upto_region 1 with (fail)
  obtain ⟨w1, hw1⟩ : ∃ w1, w1 = (w.alloc (.cells #[.slice Ak lk ck, .slice Ab lb cb, .int .i64 fp, .int .i64 fr, .slice As ls cs] 30)).alloc (.cells #[.slice none 0 0, .slice none 0 0, .int .i64 0, .int .i64 0, .slice none 0 0] 30) := ⟨_, rfl⟩
  obtain ⟨h1, hh1⟩ : ∃ h1, w.heap.size = h1 := ⟨_, rfl⟩
  have HX1 := hide (show Box w1 h1 #[.slice Ak lk ck, .slice Ab lb cb, .int .i64 fp, .int .i64 fr, .slice As ls cs] 30 by rw [hw1, ← hh1]; exact (Box.new w _ _).alloc _)
  have HY1 := hide (show Box w1 (h1 + 1) #[.slice none 0 0, .slice none 0 0, .int .i64 0, .int .i64 0, .slice none 0 0] 30 by
    have t := Box.new (w.alloc (.cells #[.slice Ak lk ck, .slice Ab lb cb, .int .i64 fp, .int .i64 fr, .slice As ls cs] 30)) #[.slice none 0 0, .slice none 0 0, .int .i64 0, .int .i64 0, .slice none 0 0] 30
    rw [World.size_alloc, hh1] at t
    rw [hw1]
    exact t)
  have HB1 := hide (show Below w.heap.size w w1 by rw [hw1]; exact alloc2 w _ _)
  have w1s := HB1.out.size
  have HH1 := hide hh1
  rw [← hw1, hh1]
  clear hw1 hh1
  have lX1 := HX1.out.lt
  have lY1 := HY1.out.lt
  have c0 := (HX1.out.cell 0 (v := .slice Ak lk ck) rfl).1
  have c1 := (HX1.out.cell 1 (v := .slice Ab lb cb) rfl).1
  have c2 := (HX1.out.cell 2 (v := .int .i64 fp) rfl).1
  have c3 := (HX1.out.cell 3 (v := .int .i64 fr) rfl).1
  have c4 := (HX1.out.cell 4 (v := .slice As ls cs) rfl).1
  have HSPW := hide (HSP.out w1 HB1.out)
  cases ft with
  | false =>
    have HFL := hide (show fitsL f = false by unfold fitsL; rw [HFT.out]; rfl)
    go_upto_region 2 with (go_at_call 10; (with_reducible refine HSPW.out.mono ?_); rintro e w3 ⟨-, h3⟩; obtain ⟨rfl, hb3⟩ := h3 rfl; have HB3 := hide hb3; clear h3 hb3 c0 c1 c2 c3 c4 lX1 lY1)
    have HY5 := hide (show Box (w3.alloc (.cells #[.slice none 0 0, .slice none 0 0, .int .i64 0, .int .i64 0, .slice none 0 0] 30)) (h1 + 1) #[.slice none 0 0, .slice none 0 0, .int .i64 0, .int .i64 0, .slice none 0 0] 30 from (HY1.out.below HB3.out).alloc _)
    have HB5 := hide (show Below w.heap.size w (w3.alloc (.cells #[.slice none 0 0, .slice none 0 0, .int .i64 0, .int .i64 0, .slice none 0 0] 30)) from HB1.out.trans ((HB3.out.trans ((alloc1 w3 _).mono HB3.out.size)).mono w1s))
    obtain ⟨w5, hw5⟩ : ∃ w5, w5 = w3.alloc (.cells #[.slice none 0 0, .slice none 0 0, .int .i64 0, .int .i64 0, .slice none 0 0] 30) := ⟨_, rfl⟩
    rw [← hw5] at HY5 HB5
    rw [← hw5]
    clear hw5
    have lY5 := HY5.out.lt
    obtain ⟨y0, g0⟩ := HY5.out.cell 0 (v := .slice none 0 0) rfl
    obtain ⟨y1, g1⟩ := HY5.out.cell 1 (v := .slice none 0 0) rfl
    obtain ⟨y2, g2⟩ := HY5.out.cell 2 (v := .int .i64 0) rfl
    obtain ⟨y3, g3⟩ := HY5.out.cell 3 (v := .int .i64 0) rfl
    obtain ⟨y4, g4⟩ := HY5.out.cell 4 (v := .slice none 0 0) rfl
    have HZ := hide (HY5.out.end5 (v0 := .slice none 0 0) (v1 := .slice none 0 0) (v2 := .int .i64 0) (v3 := .int .i64 0) (v4 := .slice none 0 0))
    have HBE := hide (end5_below (h := h1 + 1) (v0 := .slice none 0 0) (v1 := .slice none 0 0) (v2 := .int .i64 0) (v3 := .int .i64 0) (v4 := .slice none 0 0) HB5.out (by have := HH1.out; omega))
    go_wp2
    (try simp only [Exit.inBlock, Exit.then])
    refine bodyPost_ret (results_cell_row_tmp rfl _ _ (h1 + 1) 30 #[.slice none 0 0, .slice none 0 0, .int .i64 0, .int .i64 0, .slice none 0 0] (0, 0) _ (by rfl) HZ.out Try.underlying30 rfl size_func) rfl ?_
    exact ⟨fun h => (by rw [HFL.out] at h; cases h), fun _ => ⟨rfl, HBE.out⟩⟩
  | true =>
    have HFI := hide (show fitsL f = (layBs f).all (fun l => decide (l.length ≤ 40)) by unfold fitsL; rw [HFT.out]; rfl)
    obtain ⟨fg, hfg⟩ : ∃ fg, splitF f = fg := ⟨_, rfl⟩
    have HFG := hide hfg
    have HSG := hide (show SOk fg by rw [← hfg]; exact HS.out.split HFT.out)
    have HPP := hide (show fp = fg.params ∧ fr = fg.result by rw [← hfg, ← HFP.out, ← HFR.out]; exact ⟨rfl, rfl⟩)
    rw [hfg] at HSPW
    obtain ⟨gk, hgk⟩ : ∃ gk, fg.kinds.length = gk := ⟨_, rfl⟩
    obtain ⟨gb, hgb⟩ : ∃ gb, fg.base.length = gb := ⟨_, rfl⟩
    obtain ⟨gl, hgl⟩ : ∃ gl, fg.blocks.length = gl := ⟨_, rfl⟩
    have HGK := hide hgk
    have HGB := hide hgb
    have HGL := hide hgl
    have hgl1 : 1 ≤ gl := by rw [← hgl]; exact HSG.out.one
    have hgl40 : gl ≤ 40 := by rw [← hgl]; exact HSG.out.flow.1
    clear hgk hgb hgl hfg HSP
    go_upto_region 2 with (go_at_call 10; (with_reducible refine HSPW.out.mono ?_); rintro e w3 ⟨h3, -⟩; obtain ⟨v1, v2, v3, rfl, hf3, hk3, ⟨cl, hbm3, hcl3⟩, hb3⟩ := h3 rfl; obtain ⟨A1, k1, hv1, -, -⟩ := hf3.1.open'; obtain ⟨A2, k2, hv2, -, -⟩ := hf3.2.1.open'; rw [HGK.out] at hv1; rw [HGB.out] at hv2; subst hv1; subst hv2; have hcl : cl.length = gl := (by have := congrArg List.length hcl3; rw [List.length_map, HGL.out] at this; exact this); obtain ⟨g, cc, hv3, hg1, hg2, -, -, hgT⟩ := hbm3.own.blk (by omega); rw [hcl] at hv3; subst hv3; have HF3 := hide hf3; have HK3 := hide hk3; have HM3 := hide hbm3; have HL3 := hide hcl3; have HB3 := hide hb3; have HGT := hide hgT; clear h3 hb3 hf3 hk3 hbm3 hcl3 hgT hcl c0 c1 c2 c3 c4 lX1 lY1)
    obtain ⟨w5, hw5⟩ : ∃ w5, w5 = w3.alloc (.cells #[.slice A1 gk k1, .slice A2 gb k2, .int .i64 fp, .int .i64 fr, .slice (some ⟨g, 0, none⟩) gl cc] 30) := ⟨_, rfl⟩
    obtain ⟨h4, hh4⟩ : ∃ h4, w3.heap.size = h4 := ⟨_, rfl⟩
    have HX5 := hide (show Box w5 h4 #[.slice A1 gk k1, .slice A2 gb k2, .int .i64 fp, .int .i64 fr, .slice (some ⟨g, 0, none⟩) gl cc] 30 by rw [hw5, ← hh4]; exact Box.new w3 _ _)
    have HY5 := hide (show Box w5 (h1 + 1) #[.slice none 0 0, .slice none 0 0, .int .i64 0, .int .i64 0, .slice none 0 0] 30 by rw [hw5]; exact (HY1.out.below HB3.out).alloc _)
    have HB35 := hide (show Below w3.heap.size w3 w5 by rw [hw5]; exact alloc1 w3 _)
    have HB5 := hide (show Below w.heap.size w w5 from HB1.out.trans ((HB3.out.trans (HB35.out.mono HB3.out.size)).mono w1s))
    have HF5 := hide (show FunI w5 (NF w5) (.slice A1 gk k1) (.slice A2 gb k2) (.slice (some ⟨g, 0, none⟩) gl cc) fg from funI_NF HF3.out (fun b hb => HB35.out.block b hb.lt))
    have HM5 := hide (HM3.out.below HB35.out)
    have HFK := hide (fun (W : World) (hW : Below w3.heap.size w3 W) => (show IntsV W (TB W 3) (.slice A1 gk k1) fg.kinds ∧ IntsV W (TB W 3) (.slice A2 gb k2) fg.base from
      ⟨HK3.out.1.keep (fun b o hb => hW.cell (p := ⟨b, o, none⟩) hb.lt) (fun b hb => hb.keep (hW.block b hb.lt)), HK3.out.2.keep (fun b o hb => hW.cell (p := ⟨b, o, none⟩) hb.lt) (fun b hb => hb.keep (hW.block b hb.lt))⟩))
    have hgh4 : g < h4 := by omega
    rw [← hw5, hh4]
    clear hw5 hh4
    obtain ⟨_, _, v0, ol, -, hol, -⟩ := calls14 (forder_any _ _ _ fg w5 w5.heap.size (Nat.le_refl _) (HF5.out.keep (fun _ _ _ => rfl) (fun b hb => hb.lt)) HSG.out.flow HSG.out.one)
    have HOR := hide (ordN_of hol)
    clear hol
    have HBS := hide (show layBs f = layTo fg.blocks (turnT fg) gl by unfold layBs; rw [HFG.out, HGL.out])
    obtain ⟨ts, hts⟩ : ∃ ts, turnsN fg (ordN fg) = ts := ⟨_, rfl⟩
    have HTT := hide (show turnT fg = turnsAt ts by rw [← hts]; rfl)
    have hnt80 : ts.length ≤ 80 := by rw [← hts]; exact Nat.le_trans (List.length_filter_le _ _) (edgesN_len HSG.out.flow)
    obtain ⟨nt, hnt⟩ : ∃ nt, ts.length = nt := ⟨_, rfl⟩
    have HNT := hide hnt
    rw [hnt] at hnt80
    have HTN := hide (show Calls Try.prog 47 #[.agg #[.slice A1 gk k1, .slice A2 gb k2, .int .i64 fp, .int .i64 fr, .slice (some ⟨g, 0, none⟩) gl cc]] w5 fun e w' => ∃ v, e = .returned v ∧ OwC edgC 55 2 w' w5.heap.size v ts ∧ Below w5.heap.size w5 w' from by
      rw [HPP.out.1, HPP.out.2, ← hts]
      exact rturns_any _ _ _ fg (ordN fg) HOR.out w5 w5.heap.size (Nat.le_refl _) (HF5.out.keep (fun _ _ _ => rfl) (fun b hb => hb.lt)) HSG.out.flow HSG.out.one)
    clear hts hnt
    have c0 := (HX5.out.cell 0 (v := .slice A1 gk k1) rfl).1
    have c1 := (HX5.out.cell 1 (v := .slice A2 gb k2) rfl).1
    have c2 := (HX5.out.cell 2 (v := .int .i64 fp) rfl).1
    have c3 := (HX5.out.cell 3 (v := .int .i64 fr) rfl).1
    have c4 := (HX5.out.cell 4 (v := .slice (some ⟨g, 0, none⟩) gl cc) rfl).1
    have lX5 := HX5.out.lt
    go_upto_region 5 with (go_at_call 47; refine HTN.out.mono ?_; rintro e w6 ⟨v6, rfl, ho6, hb6⟩; obtain ⟨A6, k6, hv6, -, -⟩ := ho6.sl; rw [HNT.out] at hv6; subst hv6; have HO6 := hide ho6; have HB6 := hide hb6; clear ho6 hb6 c0 c1 c2 c3 c4 lX5)
    have HX6 := hide (HX5.out.below HB6.out)
    have HY6 := hide (HY5.out.below HB6.out)
    have HF6 := hide (funI_NF HF5.out (fun b hb => HB6.out.block b hb.lt))
    have HGT6 := hide ((HGT.out.keep (HB35.out.block g hg2)).keep (HB6.out.block g (by have := HB35.out.size; omega)))
    have HP6 := hide (show PolB w w6 g gl cc fg.blocks (turnT fg) 0 cl from by
      have hm6 := HM5.out.below HB6.out
      exact ⟨hm6.own.lower (by have := HB1.out.size; omega), by rw [layTo_zero, HL3.out], fun p hp => (hm6.code p hp).inssNG HGT6.out, HB5.out.trans (HB6.out.mono HB5.out.size)⟩)
    have HH4 := hide (show h4 ≠ g ∧ h1 + 1 ≠ g by have := HY1.out.lt; omega)
    have HGW := hide (show w.heap.size ≤ g by omega)
    have HFLOW := hide (fun (l : List InsV) (hl : l ∈ fg.blocks) => And.intro (HSG.out.flow.2.1 l hl) (HSG.out.code l hl).1)
    clear hg1 hg2 hgh4
    go_wp2
    go_loopw [7] (fun i wr => ∃ (k : Nat) (cl : List (List InsV × Value)), k ≤ gl ∧ i = .int .i64 k ∧ Hid (PolB w wr g gl cc fg.blocks (turnT fg) k cl) ∧ Hid (KeepG g w6 wr) ∧ Hid (∀ l ∈ layTo fg.blocks (turnT fg) k, l.length ≤ 40)) (fun i _ => gl - (intOf i).toNat)
    case atStart => exact ⟨0, cl, Nat.zero_le _, rfl, HP6, hide (KeepG.refl _ _), hide (by rw [layTo_zero]; exact fun l hl => (HFLOW.out l hl).1)⟩
    case round =>
      obtain ⟨k, cl, hk, rfl, HP, HKG, HSH⟩ := hrel
      obtain ⟨wo, rfl⟩ : ∃ wo, wo = wr := ⟨_, rfl⟩
      have HCLL := hide (show cl.length = gl by have := congrArg List.length HP.out.map; rw [List.length_map, layTo_len, HGL.out] at this; exact this)
      have HXO := hide (HKG.out.box HX6.out HH4.out.1)
      have HYO := hide (HKG.out.box HY6.out HH4.out.2)
      have hkz := HKG.out.size
      have lX := HXO.out.lt
      have x4 := (HXO.out.cell 4 (v := .slice (some ⟨g, 0, none⟩) gl cc) rfl).1
      by_cases hlt : k < gl
      case neg =>
        obtain rfl : k = gl := by omega
        have HFL := hide (show fitsL f = true by
          rw [HFI.out, HBS.out, List.all_eq_true]
          intro l hl
          exact decide_eq_true (HSH.out l hl))
        have HFE := hide (show FunI wo (NF wo) (.slice A1 gk k1) (.slice A2 gb k2) (.slice (some ⟨g, 0, none⟩) k cc) (layF f) from by
          have e : layF f = { fg with blocks := layTo fg.blocks (turnT fg) k } := by unfold layF; rw [HFG.out, HBS.out]
          have hb : BlksV wo (NF wo) (.slice (some ⟨g, 0, none⟩) k cc) (layTo fg.blocks (turnT fg) k) := by
            rw [← HP.out.map]
            exact blks_vec HP.out.own (fun p hp => (HP.out.code p hp).keep (fun _ _ _ => rfl) (fun _ h => h.1)) (fun b hb => .inr (.inl (HP.out.own.row b hb)))
          rw [e]
          have hI : ∀ b, TB w6 3 b → wo.heap[b]? = w6.heap[b]? := fun b hb => HKG.out.block b hb.lt (tb_ne hb HGT6.out (by decide))
          have t1 : IntsV w6 (TB w6 3) (.slice A1 gk k1) fg.kinds := (HFK.out w6 (HB35.out.trans (HB6.out.mono HB35.out.size))).1
          have t2 : IntsV w6 (TB w6 3) (.slice A2 gb k2) fg.base := (HFK.out w6 (HB35.out.trans (HB6.out.mono HB35.out.size))).2
          exact ⟨t1.keep (fun b o hb => World.cell?_of_block (a := ⟨b, o, none⟩) (hI b hb)) (fun b hb => .inl (hb.keep (hI b hb))), t2.keep (fun b o hb => World.cell?_of_block (a := ⟨b, o, none⟩) (hI b hb)) (fun b hb => .inl (hb.keep (hI b hb))), hb, HF6.out.2.2.2.1, HF6.out.2.2.2.2⟩)
        have lY5 := HYO.out.lt
        have x0 := (HXO.out.cell 0 (v := .slice A1 gk k1) rfl).1
        have x1 := (HXO.out.cell 1 (v := .slice A2 gb k2) rfl).1
        have x2 := (HXO.out.cell 2 (v := .int .i64 fp) rfl).1
        have x3 := (HXO.out.cell 3 (v := .int .i64 fr) rfl).1
        obtain ⟨y0, g0⟩ := HYO.out.cell 0 (v := .slice none 0 0) rfl
        obtain ⟨y1, g1⟩ := HYO.out.cell 1 (v := .slice none 0 0) rfl
        obtain ⟨y2, g2⟩ := HYO.out.cell 2 (v := .int .i64 0) rfl
        obtain ⟨y3, g3⟩ := HYO.out.cell 3 (v := .int .i64 0) rfl
        obtain ⟨y4, g4⟩ := HYO.out.cell 4 (v := .slice none 0 0) rfl
        have HZ := hide (HYO.out.end5 (v0 := .slice A1 gk k1) (v1 := .slice A2 gb k2) (v2 := .int .i64 fp) (v3 := .int .i64 fr) (v4 := .slice (some ⟨g, 0, none⟩) k cc))
        have HBE := hide (end5_below (h := h1 + 1) (v0 := .slice A1 gk k1) (v1 := .slice A2 gb k2) (v2 := .int .i64 fp) (v3 := .int .i64 fr) (v4 := .slice (some ⟨g, 0, none⟩) k cc) HP.out.bel (by have := HH1.out; omega))
        have HFZ := hide (funI_NF (w' := end5 wo (h1 + 1) (.slice A1 gk k1) (.slice A2 gb k2) (.int .i64 fp) (.int .i64 fr) (.slice (some ⟨g, 0, none⟩) k cc)) HFE.out (fun b hb => end5_blk (hb.ne HYO.out.tb (by decide) (by decide) (by decide))))
        go_wp2
        (try simp only [Exit.inBlock, Exit.then])
        refine bodyPost_ret (results_cell_row_tmp rfl _ _ (h1 + 1) 30 #[.slice A1 gk k1, .slice A2 gb k2, .int .i64 fp, .int .i64 fr, .slice (some ⟨g, 0, none⟩) k cc] (0, 0) _ (by rfl) HZ.out Try.underlying30 rfl size_func) rfl ?_
        refine ⟨fun _ => ⟨_, _, _, ?_, HFZ.out, HBE.out⟩, fun h => (by rw [HFL.out] at h; cases h)⟩
        rw [HFP.out, HFR.out]
        rfl
      have HLT := hide hlt
      obtain ⟨l, hl⟩ : ∃ l, fg.blocks[k]? = some l := ⟨_, List.getElem?_eq_getElem (by have := HGL.out; omega)⟩
      obtain ⟨hl40, hl1⟩ := HFLOW.out l (List.mem_of_getElem? hl)
      obtain ⟨u, hu⟩ : ∃ u, cl[k]? = some (l, u) := by
        have t := layTo_old (T := turnT fg) hl
        rw [← HP.out.map, List.getElem?_map] at t
        cases h : cl[k]? with
        | none => rw [h] at t; cases t
        | some p =>
          rw [h] at t
          injection t with t
          exact ⟨p.2, by rw [← t]⟩
      have hin : InssV wo (NG wo g) u l := HP.out.code _ (List.mem_of_getElem? hu)
      obtain ⟨m, hm⟩ : ∃ m, l.length = m + 1 := ⟨l.length - 1, by omega⟩
      obtain ⟨Au, cu, rfl, hcu, hcm⟩ := hin.open'
      obtain ⟨q, hq, hqi, hqc⟩ := InssV.cells14 hin
      obtain ⟨ga, oa, rfl, hga, hcell⟩ := hqc (by omega)
      rw [hm] at hu hcu hl40
      have hql : q.length = m + 1 := by have := congrArg List.length hq; rw [List.length_map, hm] at this; exact this
      obtain ⟨⟨⟨xo, xd, xa, xb, xn, xm, ags⟩, va⟩, hqm⟩ : ∃ y, q[m]? = some y := ⟨_, List.getElem?_eq_getElem (by omega)⟩
      obtain ⟨A2, c2', hva⟩ := (hqi _ (List.mem_of_getElem? hqm)).open'
      simp only at hva
      obtain ⟨na, hna⟩ : ∃ na, ags.length = na := ⟨_, rfl⟩
      obtain ⟨c2, hc2⟩ : ∃ c, c2' = c := ⟨_, rfl⟩
      rw [hna, hc2] at hva
      subst hva
      have HQD := hide (show q.drop m = [((⟨xo, xd, xa, xb, xn, xm, ags⟩ : InsV), Value.slice A2 na c2)] by
        obtain ⟨h1, h2⟩ := List.getElem?_eq_some_iff.1 hqm
        rw [List.drop_eq_getElem_cons h1, h2, List.drop_eq_nil_of_le (by omega)])
      have HQT := hide (show (q.take m).length = m by rw [List.length_take, hql]; omega)
      have HQT3 := hide (show (q.take m ++ [(pollI, Value.slice none 0 0)]).length = m + 1 by rw [List.length_append, HQT.out]; rfl)
      have HQL := hide hql
      have HQ := hide hq
      have HQI := hide hqi
      have HGA := hide hga
      have hga2 : ga < wo.heap.size := hga.1.lt
      have HU := hide hu
      have HL := hide hl
      have HM := hide hm
      have HCE := hide (fun (W : World) (hW : Below wo.heap.size wo W) (i : Nat) (v : Value) (hi : i < 7) (hv : (insC ((⟨xo, xd, xa, xb, xn, xm, ags⟩ : InsV), Value.slice A2 na c2))[i]? = some v) => (show W.cell? ⟨ga, oa + m * 7 + i, none⟩ = some v from by
        refine (hW.cell (p := ⟨ga, oa + m * 7 + i, none⟩) hga2).trans ?_
        rw [Nat.add_assoc]
        refine hcell (m * 7 + i) v ?_
        rw [flat_at (c := insC) (sz := 7) q m i _ (fun _ _ => rfl) hqm hi]
        exact hv))
      obtain ⟨d0', f0'⟩ := HP.out.own.at' HCLL.out (fun _ => rfl) hu (i := 0) (by omega)
      rw [Nat.mul_one, Nat.add_zero] at d0' f0'
      have d0 : wo.cell? ⟨g, k, none⟩ = some (.slice (some ⟨ga, oa, none⟩) (m + 1) cu) := by rw [← hm]; rw [← hm] at d0'; exact d0'
      have HSA := hide (fun (W : World) (hW : Below wo.heap.size wo W) => (srcs14 (W := W) (S := NG wo g) hql hqi (by have := hW.size; omega) (fun j u hu => (hW.cell (p := ⟨ga, oa + j, none⟩) hga2).trans (hcell j u hu))).1)
      have hgo : g < wo.heap.size := (HP.out.own.lt g rfl).2
      have hki : (0 : Int) ≤ (k : Int) := by omega
      have hkl : (k : Int) < (gl : Int) := by omega
      clear d0' f0' hl hu hq hqi hcell hga hin hqc hl1 hm hql hqm hna hc2
      go_wp2
      go_loopw [8, 9] (fun bk i wr => ∃ j : Nat, j ≤ nt ∧ bk = .bool (turnsAt (ts.take j) k) ∧ i = .int .i64 j ∧ wr = wo) (fun _ i _ => nt - (intOf i).toNat)
      case atStart => exact ⟨0, Nat.zero_le _, by first | rfl | (rw [List.take_zero]; rfl), rfl, rfl⟩
      case round =>
        obtain ⟨j, hj, rfl, rfl, rfl⟩ := hrel
        obtain ⟨tb, htb⟩ : ∃ tb, turnsAt (ts.take j) k = tb := ⟨_, rfl⟩
        rw [htb]
        have HTB := hide htb
        clear htb
        by_cases hlj : j < nt
        · have HLJ := hide hlj
          obtain ⟨⟨z1, z2⟩, hy⟩ : ∃ y, ts[j]? = some y := ⟨_, List.getElem?_eq_getElem (by have := HNT.out; omega)⟩
          have HSN := hide (show turnsAt (ts.take (j + 1)) k = (tb || decide (z1 = (k : Int))) by rw [List.take_add_one, hy, Option.toList_some, turnsAt_snoc, HTB.out])
          cases tb with
          | true =>
            clear hy
            go_wp2
            go_roundw
            case rel => exact ⟨j + 1, by have := HLJ.out; omega, by rw [HSN.out]; rfl, by go_num, by first | rfl | trivial⟩
            case measure => have := HLJ.out; simp [intOf]; omega
          | false =>
            obtain ⟨g6, cap6, hv6, -, hg6, -, -, hgT6⟩ := HO6.out.blk (by have := HNT.out; omega)
            injection hv6 with hA6 hx6 hy6
            subst hA6
            clear hx6 hy6
            have hg6g : g6 ≠ g := tb_ne hgT6 HGT6.out (by decide)
            have e0 : wr.cell? ⟨g6, j * 2, none⟩ = some (.int .i64 z1) := (World.cell?_of_block (a := ⟨g6, j * 2, none⟩) (HKG.out.block g6 hg6 hg6g)).trans (HO6.out.at' HNT.out (fun _ => rfl) hy (i := 0) (by omega)).1
            have lg6 : g6 < wr.heap.size := by omega
            have hji : (0 : Int) ≤ (j : Int) := by omega
            have hjn : (j : Int) < (nt : Int) := by omega
            clear hy hgT6
            by_cases hz : z1 = (k : Int)
            · subst hz
              go_wp2
              go_roundw
              case rel => exact ⟨j + 1, by have := HLJ.out; omega, by rw [HSN.out]; simp, by go_num, by first | rfl | trivial⟩
              case measure => have := HLJ.out; simp [intOf]; omega
            · have q1 : (z1 == (k : Int)) = false := by simpa using hz
              have HZ := hide hz
              clear hz
              go_wp2
              go_roundw
              case rel => exact ⟨j + 1, by have := HLJ.out; omega, by rw [HSN.out, decide_eq_false HZ.out]; simp, by go_num, by first | rfl | trivial⟩
              case measure => have := HLJ.out; simp [intOf]; omega
        · have HTK := hide (show turnT fg k = tb by rw [HTT.out, ← HTB.out, List.take_of_length_le (by have := HNT.out; omega)])
          clear HTB
          cases tb with
          | false =>
            go_wp2
            go_roundw
            case rel => exact ⟨k + 1, cl, by have := HLT.out; omega, by go_num, hide (HP.out.skip HTK.out), HKG, hide (by rw [layTo_no HTK.out]; exact HSH.out)⟩
            case measure => have := HLT.out; simp [intOf]; omega
          | true =>
            by_cases hm40 : m + 2 ≤ 40
            case neg =>
              have hmi : (m : Int) + 2 > 40 := by omega
              have HFL := hide (show fitsL f = false by
                rw [HFI.out, HBS.out]
                cases ha : (layTo fg.blocks (turnT fg) gl).all (fun l => decide (l.length ≤ 40)) with
                | false => rfl
                | true =>
                  have t1 : (layTo fg.blocks (turnT fg) gl)[k]? = some (pollB l) := by
                    rw [layTo_at, HL.out]
                    simp [HLT.out, HTK.out]
                  have t2 := of_decide_eq_true (List.all_eq_true.1 ha _ (List.mem_of_getElem? t1))
                  rw [pollB_len (by rw [HM.out]; omega), HM.out] at t2
                  omega)
              clear hm40
              go_upto_region 17 with (fail)
              have lY5 := HYO.out.lt
              obtain ⟨y0, g0⟩ := HYO.out.cell 0 (v := .slice none 0 0) rfl
              obtain ⟨y1, g1⟩ := HYO.out.cell 1 (v := .slice none 0 0) rfl
              obtain ⟨y2, g2⟩ := HYO.out.cell 2 (v := .int .i64 0) rfl
              obtain ⟨y3, g3⟩ := HYO.out.cell 3 (v := .int .i64 0) rfl
              obtain ⟨y4, g4⟩ := HYO.out.cell 4 (v := .slice none 0 0) rfl
              have HZ := hide (HYO.out.end5 (v0 := .slice none 0 0) (v1 := .slice none 0 0) (v2 := .int .i64 0) (v3 := .int .i64 0) (v4 := .slice none 0 0))
              have HBE := hide (end5_below (h := h1 + 1) (v0 := .slice none 0 0) (v1 := .slice none 0 0) (v2 := .int .i64 0) (v3 := .int .i64 0) (v4 := .slice none 0 0) HP.out.bel (by have := HH1.out; omega))
              go_wp2
              (try simp only [Exit.inBlock, Exit.then])
              refine bodyPost_ret (results_cell_row_tmp rfl _ _ (h1 + 1) 30 #[.slice none 0 0, .slice none 0 0, .int .i64 0, .int .i64 0, .slice none 0 0] (0, 0) _ (by rfl) HZ.out Try.underlying30 rfl size_func) rfl ?_
              exact ⟨fun h => (by rw [HFL.out] at h; cases h), fun _ => ⟨rfl, HBE.out⟩⟩
            case pos =>
              have hmi : ¬ ((m : Int) + 2 > 40) := by omega
              have HM40 := hide hm40
              go_upto_region 18 with (fail)
              clear x4 lX d0
              have HKX := hide (fun (W : World) (hW : Below wr.heap.size wr W) => (show W.cell? ⟨h4, 4, none⟩ = some (.slice (some ⟨g, 0, none⟩) gl cc) ∧ W.cell? ⟨ga, oa + m * 7, none⟩ = some (.int .i64 xo) ∧ W.cell? ⟨ga, oa + m * 7 + 1, none⟩ = some (.int .i64 xd) ∧ W.cell? ⟨ga, oa + m * 7 + 2, none⟩ = some (.int .i64 xa) ∧ W.cell? ⟨ga, oa + m * 7 + 3, none⟩ = some (.int .i64 xb) ∧ W.cell? ⟨ga, oa + m * 7 + 4, none⟩ = some (.int .i64 xn) ∧ W.cell? ⟨ga, oa + m * 7 + 5, none⟩ = some (.int .i64 xm) ∧ W.cell? ⟨ga, oa + m * 7 + 6, none⟩ = some (.slice A2 na c2) from
                ⟨((HXO.out.below hW).cell 4 (v := .slice (some ⟨g, 0, none⟩) gl cc) rfl).1, HCE.out W hW 0 _ (by omega) rfl, HCE.out W hW 1 _ (by omega) rfl, HCE.out W hW 2 _ (by omega) rfl, HCE.out W hW 3 _ (by omega) rfl, HCE.out W hW 4 _ (by omega) rfl, HCE.out W hW 5 _ (by omega) rfl, HCE.out W hW 6 _ (by omega) rfl⟩))
              have HST := hide (fun (W : World) (hW : Below wr.heap.size wr W) => (show W.cell? ⟨g, k, none⟩ = some (.slice (some ⟨ga, oa, none⟩) (m + 1) cu) ∧ W.frozen? ⟨g, k, none⟩ = false ∧ g < W.heap.size from by
                obtain ⟨t1, t2⟩ := (HP.out.below hW).own.at' HCLL.out (fun _ => rfl) HU.out (i := 0) (by omega)
                rw [Nat.mul_one, Nat.add_zero] at t1 t2
                exact ⟨t1, t2, by have := hW.size; omega⟩))
              have HEND := hide (fun (W : World) (g4 k4 : Nat) (hW : Below wr.heap.size wr W) (ho : OwC insC 50 7 W wr.heap.size (.slice (some ⟨g4, 0, none⟩) (m + 1 + 1) k4) (q.take m ++ [(pollI, Value.slice none 0 0)] ++ [((⟨xo, xd, xa, xb, xn, xm, ags⟩ : InsV), Value.slice A2 na c2)])) => And.intro (show (W.setCell ⟨g, k, none⟩ (.slice (some ⟨g4, 0, none⟩) (m + 1 + 1) k4)).cell? ⟨h4, 4, none⟩ = some (.slice (some ⟨g, 0, none⟩) gl cc) ∧ (W.setCell ⟨g, k, none⟩ (.slice (some ⟨g4, 0, none⟩) (m + 1 + 1) k4)).cell? ⟨ga, oa + m * 7, none⟩ = some (.int .i64 xo) ∧ (W.setCell ⟨g, k, none⟩ (.slice (some ⟨g4, 0, none⟩) (m + 1 + 1) k4)).cell? ⟨ga, oa + m * 7 + 1, none⟩ = some (.int .i64 xd) ∧ (W.setCell ⟨g, k, none⟩ (.slice (some ⟨g4, 0, none⟩) (m + 1 + 1) k4)).cell? ⟨ga, oa + m * 7 + 2, none⟩ = some (.int .i64 xa) ∧ (W.setCell ⟨g, k, none⟩ (.slice (some ⟨g4, 0, none⟩) (m + 1 + 1) k4)).cell? ⟨ga, oa + m * 7 + 3, none⟩ = some (.int .i64 xb) ∧ (W.setCell ⟨g, k, none⟩ (.slice (some ⟨g4, 0, none⟩) (m + 1 + 1) k4)).cell? ⟨ga, oa + m * 7 + 4, none⟩ = some (.int .i64 xn) ∧ (W.setCell ⟨g, k, none⟩ (.slice (some ⟨g4, 0, none⟩) (m + 1 + 1) k4)).cell? ⟨ga, oa + m * 7 + 5, none⟩ = some (.int .i64 xm) ∧ (W.setCell ⟨g, k, none⟩ (.slice (some ⟨g4, 0, none⟩) (m + 1 + 1) k4)).cell? ⟨ga, oa + m * 7 + 6, none⟩ = some (.slice A2 na c2) from by
                  obtain ⟨r0, r1, r2, r3, r4, r5, r6, r7⟩ := HKX.out W hW
                  have n1 : g ≠ h4 := fun e => HH4.out.1 e.symm
                  have n2 : g ≠ ga := fun e => HGA.out.2 e.symm
                  exact ⟨(World.cell?_setCell_far W _ _ _ n1).trans r0, (World.cell?_setCell_far W _ _ _ n2).trans r1, (World.cell?_setCell_far W _ _ _ n2).trans r2, (World.cell?_setCell_far W _ _ _ n2).trans r3, (World.cell?_setCell_far W _ _ _ n2).trans r4, (World.cell?_setCell_far W _ _ _ n2).trans r5, (World.cell?_setCell_far W _ _ _ n2).trans r6, (World.cell?_setCell_far W _ _ _ n2).trans r7⟩)
                (show Hid (PolB w (W.setCell ⟨g, k, none⟩ (.slice (some ⟨g4, 0, none⟩) (m + 1 + 1) k4)) g gl cc fg.blocks (turnT fg) (k + 1) (cl.set k (pollB l, .slice (some ⟨g4, 0, none⟩) (m + 1 + 1) k4))) ∧ Hid (KeepG g w6 (W.setCell ⟨g, k, none⟩ (.slice (some ⟨g4, 0, none⟩) (m + 1 + 1) k4))) ∧ Hid (∀ l ∈ layTo fg.blocks (turnT fg) (k + 1), l.length ≤ 40) from by
                  have hgW : TB W 53 g := (HP.out.below hW).own.row g rfl
                  have hv : InssV W (NG W g) (.slice (some ⟨g4, 0, none⟩) (m + 1 + 1) k4) (pollB l) := poll_inss HQ.out HQI.out (fun b hb => hW.block b hb.1.lt) m HM.out (by rw [HQD.out]; exact ho) hgW
                  exact ⟨hide ((HP.out.below hW).put HTK.out HL.out HU.out HCLL.out hv), hide ((HKG.out.below hW).set _), hide (layTo_short HSH.out HTK.out HL.out (by rw [pollB_len (by rw [HM.out]; omega), HM.out]; have := HM40.out; omega))⟩))
              have hm0 : (0 : Int) ≤ (m : Int) := by omega
              have hm1 : m ≤ cu := by omega
              have hm3 : (m : Int) ≤ (cu : Int) := by omega
              have hm4 : (m : Int) < (m : Int) + 1 := by omega
              have hm5 : (m : Int) < ((m + 1 : Nat) : Int) := by omega
              have hm6 : m < m + 1 := by omega
              clear hm40 hlj
              refine wp_region_held_drew (S := (fun w' => w'.cell? ⟨h4, 4, none⟩ = some (.slice (some ⟨g, 0, none⟩) gl cc) ∧ w'.cell? ⟨ga, oa + m * 7, none⟩ = some (.int .i64 xo) ∧ w'.cell? ⟨ga, oa + m * 7 + 1, none⟩ = some (.int .i64 xd) ∧ w'.cell? ⟨ga, oa + m * 7 + 2, none⟩ = some (.int .i64 xa) ∧ w'.cell? ⟨ga, oa + m * 7 + 3, none⟩ = some (.int .i64 xb) ∧ w'.cell? ⟨ga, oa + m * 7 + 4, none⟩ = some (.int .i64 xn) ∧ w'.cell? ⟨ga, oa + m * 7 + 5, none⟩ = some (.int .i64 xm) ∧ w'.cell? ⟨ga, oa + m * 7 + 6, none⟩ = some (.slice A2 na c2))) (by kernel_rfl) (HKX.out wr (Below.refl _ _)) (fun hHeld => ?_)
              refine wpAnyH_take (i := 0) (v := ?_) rfl (by kernel_rfl) (by kernel_rfl) (by kernel_rfl) (fun _ _ _ h => h) (Or.inl ⟨by rfl, ?_⟩) (by assumption) ?_
              rotate_left
              focus
                intro w hSw
                try dsimp only at hSw
                go_simp
                try with_reducible rfl
              try simp only [List.getElem_toArray, List.getElem_cons_succ, List.getElem_cons_zero, Act.put, List.setIfInBounds_toArray, List.set_cons_zero, List.set_cons_succ]
              refine wpAnyH_take (i := 1) (v := ?_) rfl (by kernel_rfl) (by kernel_rfl) (by kernel_rfl) (fun _ _ _ h => h) (Or.inl ⟨by rfl, ?_⟩) (by assumption) ?_
              rotate_left
              focus
                intro w hSw
                try dsimp only at hSw
                go_simp
                try with_reducible rfl
              try simp only [List.getElem_toArray, List.getElem_cons_succ, List.getElem_cons_zero, Act.put, List.setIfInBounds_toArray, List.set_cons_zero, List.set_cons_succ]
              refine wpAnyH_take (i := 2) (v := ?_) rfl (by kernel_rfl) (by kernel_rfl) (by kernel_rfl) (fun _ _ _ h => h) (Or.inl ⟨by rfl, ?_⟩) (by assumption) ?_
              rotate_left
              focus
                intro w hSw
                try dsimp only at hSw
                go_simp
                try with_reducible rfl
              try simp only [List.getElem_toArray, List.getElem_cons_succ, List.getElem_cons_zero, Act.put, List.setIfInBounds_toArray, List.set_cons_zero, List.set_cons_succ]
              refine wpAnyH_take (i := 4) (v := ?_) rfl (by kernel_rfl) (by kernel_rfl) (by kernel_rfl) (fun _ _ _ h => h) (Or.inl ⟨by rfl, ?_⟩) (by assumption) ?_
              rotate_left
              focus
                intro w hSw
                try dsimp only at hSw
                go_simp
                try with_reducible rfl
              try simp only [List.getElem_toArray, List.getElem_cons_succ, List.getElem_cons_zero, Act.put, List.setIfInBounds_toArray, List.set_cons_zero, List.set_cons_succ]
              refine wpAnyH_take (i := 5) (v := ?_) rfl (by kernel_rfl) (by kernel_rfl) (by kernel_rfl) (fun _ _ _ h => h) (Or.inl ⟨by rfl, ?_⟩) (by assumption) ?_
              rotate_left
              focus
                intro w hSw
                try dsimp only at hSw
                go_simp
                try with_reducible rfl
              try simp only [List.getElem_toArray, List.getElem_cons_succ, List.getElem_cons_zero, Act.put, List.setIfInBounds_toArray, List.set_cons_zero, List.set_cons_succ]
              refine wpAnyH_take (i := 6) (v := ?_) rfl (by kernel_rfl) (by kernel_rfl) (by kernel_rfl) (fun _ _ _ h => h) (Or.inl ⟨by rfl, ?_⟩) (by assumption) ?_
              rotate_left
              focus
                intro w hSw
                try dsimp only at hSw
                go_simp
                try with_reducible rfl
              try simp only [List.getElem_toArray, List.getElem_cons_succ, List.getElem_cons_zero, Act.put, List.setIfInBounds_toArray, List.set_cons_zero, List.set_cons_succ]
              refine wpAnyH_take (i := 8) (v := ?_) rfl (by kernel_rfl) (by kernel_rfl) (by kernel_rfl) (fun _ _ _ h => h) (Or.inl ⟨by rfl, ?_⟩) (by assumption) ?_
              rotate_left
              focus
                intro w hSw
                try dsimp only at hSw
                go_simp
                try with_reducible rfl
              try simp only [List.getElem_toArray, List.getElem_cons_succ, List.getElem_cons_zero, Act.put, List.setIfInBounds_toArray, List.set_cons_zero, List.set_cons_succ]
              refine wpAnyH_take (i := 11) (v := ?_) rfl (by kernel_rfl) (by kernel_rfl) (by kernel_rfl) (fun _ _ _ h => h) (Or.inl ⟨by rfl, ?_⟩) (by assumption) ?_
              rotate_left
              focus
                intro w hSw
                try dsimp only at hSw
                go_simp
                try with_reducible rfl
              try simp only [List.getElem_toArray, List.getElem_cons_succ, List.getElem_cons_zero, Act.put, List.setIfInBounds_toArray, List.set_cons_zero, List.set_cons_succ]
              refine wpAnyH_take (i := 12) (v := ?_) rfl (by kernel_rfl) (by kernel_rfl) (by kernel_rfl) (fun _ _ _ h => h) (Or.inl ⟨by rfl, ?_⟩) (by assumption) ?_
              rotate_left
              focus
                intro w hSw
                try dsimp only at hSw
                go_simp
                try with_reducible rfl
              try simp only [List.getElem_toArray, List.getElem_cons_succ, List.getElem_cons_zero, Act.put, List.setIfInBounds_toArray, List.set_cons_zero, List.set_cons_succ]
              refine wpAnyH_take (i := 13) (v := ?_) rfl (by kernel_rfl) (by kernel_rfl) (by kernel_rfl) (fun _ _ _ h => h) (Or.inl ⟨by rfl, ?_⟩) (by assumption) ?_
              rotate_left
              focus
                intro w hSw
                try dsimp only at hSw
                go_simp
                try with_reducible rfl
              try simp only [List.getElem_toArray, List.getElem_cons_succ, List.getElem_cons_zero, Act.put, List.setIfInBounds_toArray, List.set_cons_zero, List.set_cons_succ]
              refine wpAnyH_take (i := 14) (v := ?_) rfl (by kernel_rfl) (by kernel_rfl) (by kernel_rfl) (fun _ _ _ h => h) (Or.inl ⟨by rfl, ?_⟩) (by assumption) ?_
              rotate_left
              focus
                intro w hSw
                try dsimp only at hSw
                go_simp
                try with_reducible rfl
              try simp only [List.getElem_toArray, List.getElem_cons_succ, List.getElem_cons_zero, Act.put, List.setIfInBounds_toArray, List.set_cons_zero, List.set_cons_succ]
              obtain ⟨w20, hw20⟩ : ∃ w20, w20 = wr.drew := ⟨_, rfl⟩
              have BE20 := hide (show Below wr.heap.size wr w20 by rw [hw20]; exact below_drewN (Below.refl _ _) 1)
              try rw [← hw20] at hHeld
              try rw [← hw20]
              clear hw20
              refine wpAnyH_ready (rs := [3, 9, 15]) (by kernel_rfl) (by simp) ?_
              refine AllReadyH.cons rfl (fun K hK => ?_) (AllReadyH.cons rfl (fun K hK => ?_) (AllReadyH.cons rfl (fun K hK => ?_) AllReadyH.nil))
              · skip
                rw [if_pos (by rfl)]
                go_simp
                obtain ⟨g1, hg1⟩ : ∃ H, w20.heap.size = H := ⟨_, rfl⟩
                obtain ⟨w21, hw21⟩ : ∃ wM, wM = w20.alloc (.cells #[] 50) := ⟨_, rfl⟩
                have DE21 := hide (show Below w20.heap.size w20 w21 by rw [hw21]; exact alloc1 w20 _)
                have BE21 := hide (BE20.out.trans (DE21.out.mono BE20.out.size))
                have HO21 := hide (OwC.lit14 (show Box w21 g1 #[] 50 by rw [hw21, ← hg1]; exact Box.new w20 _ _) (show wr.heap.size ≤ g1 by rw [← hg1]; exact BE20.out.size))
                rw [← hw21, hg1]
                clear hw21 hg1
                refine hK.out _ _ (HKX.out w21 BE21.out) (fun hHeld => ?_)
                clear hK K
                try simp only [List.getElem_toArray, List.getElem_cons_succ, List.getElem_cons_zero, Act.put, List.setIfInBounds_toArray, List.set_cons_zero, List.set_cons_succ]
                refine wpAnyH_ready (rs := [7, 9, 15]) (by kernel_rfl) (by simp) ?_
                refine AllReadyH.cons rfl (fun K hK => ?_) (AllReadyH.cons rfl (fun K hK => ?_) (AllReadyH.cons rfl (fun K hK => ?_) AllReadyH.nil))
                · skip
                  refine step_append_src14 w21 (by rfl) _ _ _ (by rfl) i0 _ Try.underlying51 HI.out iz0 iz1 iz2 rfl wr.heap.size g1 0 0 ([] : List (InsV × Value)) rfl (by rfl) HO21.out (some ⟨ga, oa, none⟩) m cu (q.take m) m (by omega) (by rfl) (HSA.out w21 BE21.out) (by omega) BE21.out.size ?_
                  intro g2 k2 w22 ho hg hat hlg
                  have BE22 := hide (BE21.out.grown hg BE21.out.size (fun k hk => by injection hk with hk; have := (HO21.out.lt g1 rfl).1; omega))
                  have HO22 := hide ho
                  clear ho hg hat hlg
                  refine hK.out _ _ (HKX.out w22 BE22.out) (fun hHeld => ?_)
                  clear hK K
                  try simp only [List.getElem_toArray, List.getElem_cons_succ, List.getElem_cons_zero, Act.put, List.setIfInBounds_toArray, List.set_cons_zero, List.set_cons_succ]
                  refine wpAnyH_ready (rs := [9, 15]) (by kernel_rfl) (by simp) ?_
                  refine AllReadyH.cons rfl (fun K hK => ?_) (AllReadyH.cons rfl (fun K hK => ?_) AllReadyH.nil)
                  · skip
                    rw [if_pos (by rfl)]
                    go_simp
                    obtain ⟨Hb, hHb⟩ : ∃ H, w22.heap.size = H := ⟨_, rfl⟩
                    obtain ⟨w23, hw23⟩ : ∃ wM, wM = w22.alloc (.cells #[.int .i64 24, .int .i64 0, .int .i64 0, .int .i64 0, .int .i64 0, .int .i64 0, .slice none 0 0] 50) := ⟨_, rfl⟩
                    have DE23 := hide (show Below w22.heap.size w22 w23 by rw [hw23]; exact alloc1 w22 _)
                    have BE23 := hide (BE22.out.trans (DE23.out.mono BE22.out.size))
                    have BXb23 := hide (show Box w23 Hb #[.int .i64 24, .int .i64 0, .int .i64 0, .int .i64 0, .int .i64 0, .int .i64 0, .slice none 0 0] 50 by rw [hw23, ← hHb]; exact Box.new w22 _ _)
                    have HO23 := hide (HO22.out.below DE23.out)
                    have n2b : g2 ≠ Hb := by have := (HO22.out.lt g2 rfl).2; omega
                    rw [← hw23, hHb]
                    clear hw23 hHb
                    refine hK.out _ _ (HKX.out w23 BE23.out) (fun hHeld => ?_)
                    clear hK K
                    try simp only [List.getElem_toArray, List.getElem_cons_succ, List.getElem_cons_zero, Act.put, List.setIfInBounds_toArray, List.set_cons_zero, List.set_cons_succ]
                    refine wpAnyH_ready (rs := [10, 15]) (by kernel_rfl) (by simp) ?_
                    refine AllReadyH.cons rfl (fun K hK => ?_) (AllReadyH.cons rfl (fun K hK => ?_) AllReadyH.nil)
                    · skip
                      refine step_append_src14 w23 (by rfl) _ _ _ (by rfl) i0 _ Try.underlying51 HI.out iz0 iz1 iz2 rfl wr.heap.size g2 k2 m (q.take m) HQT.out (by rfl) HO23.out (some ⟨Hb, 0, none⟩) 1 1 [(pollI, Value.slice none 0 0)] (m + 1) (by omega) (by rfl) (srcPoll14 BXb23.out) (by omega) BE23.out.size ?_
                      intro g3 k3 w24 ho hg hat hlg
                      have BE24 := hide (BE23.out.grown hg BE23.out.size (fun k hk => by injection hk with hk; have := (HO23.out.lt g2 rfl).1; omega))
                      have HO24 := hide ho
                      clear ho hg hat hlg
                      refine hK.out _ _ (HKX.out w24 BE24.out) (fun hHeld => ?_)
                      clear hK K
                      try simp only [List.getElem_toArray, List.getElem_cons_succ, List.getElem_cons_zero, Act.put, List.setIfInBounds_toArray, List.set_cons_zero, List.set_cons_succ]
                      refine wpAnyH_ready (rs := [15]) (by kernel_rfl) (by simp) ?_
                      refine AllReadyH.cons rfl (fun K hK => ?_) AllReadyH.nil
                      · skip
                        rw [if_pos (by rfl)]
                        go_simp
                        obtain ⟨Hc, hHc⟩ : ∃ H, w24.heap.size = H := ⟨_, rfl⟩
                        obtain ⟨w25, hw25⟩ : ∃ wM, wM = w24.alloc (.cells #[.int .i64 xo, .int .i64 xd, .int .i64 xa, .int .i64 xb, .int .i64 xn, .int .i64 xm, .slice A2 na c2] 50) := ⟨_, rfl⟩
                        have DE25 := hide (show Below w24.heap.size w24 w25 by rw [hw25]; exact alloc1 w24 _)
                        have BE25 := hide (BE24.out.trans (DE25.out.mono BE24.out.size))
                        have BXc25 := hide (show Box w25 Hc #[.int .i64 xo, .int .i64 xd, .int .i64 xa, .int .i64 xb, .int .i64 xn, .int .i64 xm, .slice A2 na c2] 50 by rw [hw25, ← hHc]; exact Box.new w24 _ _)
                        have HO25 := hide (HO24.out.below DE25.out)
                        have n3c : g3 ≠ Hc := by have := (HO24.out.lt g3 rfl).2; omega
                        rw [← hw25, hHc]
                        clear hw25 hHc
                        refine hK.out _ _ (HKX.out w25 BE25.out) (fun hHeld => ?_)
                        clear hK K
                        try simp only [List.getElem_toArray, List.getElem_cons_succ, List.getElem_cons_zero, Act.put, List.setIfInBounds_toArray, List.set_cons_zero, List.set_cons_succ]
                        refine wpAnyH_ready (rs := [16]) (by kernel_rfl) (by simp) ?_
                        refine AllReadyH.cons rfl (fun K hK => ?_) AllReadyH.nil
                        · skip
                          refine step_append_src14 w25 (by rfl) _ _ _ (by rfl) i0 _ Try.underlying51 HI.out iz0 iz1 iz2 rfl wr.heap.size g3 k3 (m + 1) (q.take m ++ [(pollI, Value.slice none 0 0)]) HQT3.out (by rfl) HO25.out (some ⟨Hc, 0, none⟩) 1 1 [((⟨xo, xd, xa, xb, xn, xm, ags⟩ : InsV), Value.slice A2 na c2)] (m + 1 + 1) (by omega) (by rfl) (srcIns14 BXc25.out) (by omega) BE25.out.size ?_
                          intro g4 k4 w26 ho hg hat hlg
                          have BE26 := hide (BE25.out.grown hg BE25.out.size (fun k hk => by injection hk with hk; have := (HO25.out.lt g3 rfl).1; omega))
                          have HO26 := hide ho
                          clear ho hg hat hlg
                          refine hK.out _ _ (HKX.out w26 BE26.out) (fun hHeld => ?_)
                          clear hK K
                          try simp only [List.getElem_toArray, List.getElem_cons_succ, List.getElem_cons_zero, Act.put, List.setIfInBounds_toArray, List.set_cons_zero, List.set_cons_succ]
                          refine wpAnyH_take (i := 17) (v := ?_) rfl (by kernel_rfl) (by kernel_rfl) (by kernel_rfl) (fun _ _ _ h => h) (Or.inl ⟨by rfl, ?_⟩) (by assumption) ?_
                          rotate_left
                          focus
                            intro w hSw
                            try dsimp only at hSw
                            go_simp
                            try with_reducible rfl
                          try simp only [List.getElem_toArray, List.getElem_cons_succ, List.getElem_cons_zero, Act.put, List.setIfInBounds_toArray, List.set_cons_zero, List.set_cons_succ]
                          refine wpAnyH_take (i := 18) (v := ?_) rfl (by kernel_rfl) (by kernel_rfl) (by kernel_rfl) (fun _ _ _ h => h) (Or.inl ⟨by rfl, ?_⟩) (by assumption) ?_
                          rotate_left
                          focus
                            intro w hSw
                            try dsimp only at hSw
                            go_simp
                            try with_reducible rfl
                          try simp only [List.getElem_toArray, List.getElem_cons_succ, List.getElem_cons_zero, Act.put, List.setIfInBounds_toArray, List.set_cons_zero, List.set_cons_succ]
                          obtain ⟨c8, f8, lg8⟩ := HST.out w26 BE26.out
                          refine wpAnyH_ready (rs := [19]) (by kernel_rfl) (by simp) ?_
                          refine AllReadyH.cons rfl (fun K hK => ?_) AllReadyH.nil
                          rw [if_pos (by rfl)]
                          go_simp
                          obtain ⟨hs9, hr9⟩ := HEND.out w26 g4 k4 BE26.out HO26.out
                          have HR9 := hide hr9
                          clear hr9
                          refine hK.out _ _ hs9 (fun hHeld => ?_)
                          clear hK K
                          try simp only [List.getElem_toArray, List.getElem_cons_succ, List.getElem_cons_zero, Act.put, List.setIfInBounds_toArray, List.set_cons_zero, List.set_cons_succ]
                          refine wpAnyH_done (by kernel_rfl) ?_ _
                          clear hs9 hHeld c8 f8 lg8
                          go_wp2
                          go_roundw
                          case rel => exact ⟨k + 1, _, by have := HLT.out; omega, by go_num, HR9.out⟩
                          case measure => have := HLT.out; simp [intOf]; omega
                    · skip
                      rw [if_pos (by rfl)]
                      go_simp
                      obtain ⟨Hc, hHc⟩ : ∃ H, w23.heap.size = H := ⟨_, rfl⟩
                      obtain ⟨w27, hw27⟩ : ∃ wM, wM = w23.alloc (.cells #[.int .i64 xo, .int .i64 xd, .int .i64 xa, .int .i64 xb, .int .i64 xn, .int .i64 xm, .slice A2 na c2] 50) := ⟨_, rfl⟩
                      have DE27 := hide (show Below w23.heap.size w23 w27 by rw [hw27]; exact alloc1 w23 _)
                      have BE27 := hide (BE23.out.trans (DE27.out.mono BE23.out.size))
                      have BXc27 := hide (show Box w27 Hc #[.int .i64 xo, .int .i64 xd, .int .i64 xa, .int .i64 xb, .int .i64 xn, .int .i64 xm, .slice A2 na c2] 50 by rw [hw27, ← hHc]; exact Box.new w23 _ _)
                      have HO27 := hide (HO23.out.below DE27.out)
                      have n2c : g2 ≠ Hc := by have := (HO23.out.lt g2 rfl).2; omega
                      have BXb27 := hide (BXb23.out.below DE27.out)
                      rw [← hw27, hHc]
                      clear hw27 hHc
                      refine hK.out _ _ (HKX.out w27 BE27.out) (fun hHeld => ?_)
                      clear hK K
                      try simp only [List.getElem_toArray, List.getElem_cons_succ, List.getElem_cons_zero, Act.put, List.setIfInBounds_toArray, List.set_cons_zero, List.set_cons_succ]
                      refine wpAnyH_ready (rs := [10]) (by kernel_rfl) (by simp) ?_
                      refine AllReadyH.cons rfl (fun K hK => ?_) AllReadyH.nil
                      · skip
                        refine step_append_src14 w27 (by rfl) _ _ _ (by rfl) i0 _ Try.underlying51 HI.out iz0 iz1 iz2 rfl wr.heap.size g2 k2 m (q.take m) HQT.out (by rfl) HO27.out (some ⟨Hb, 0, none⟩) 1 1 [(pollI, Value.slice none 0 0)] (m + 1) (by omega) (by rfl) (srcPoll14 BXb27.out) (by omega) BE27.out.size ?_
                        intro g3 k3 w28 ho hg hat hlg
                        have BE28 := hide (BE27.out.grown hg BE27.out.size (fun k hk => by injection hk with hk; have := (HO27.out.lt g2 rfl).1; omega))
                        have HO28 := hide ho
                        have BXc28 := hide (show Box w28 Hc #[.int .i64 xo, .int .i64 xd, .int .i64 xa, .int .i64 xb, .int .i64 xn, .int .i64 xm, .slice A2 na c2] 50 from (hg.block Hc BXc27.out.lt (fun e => n2c (by injection e with e; omega))).trans BXc27.out)
                        have n3c : g3 ≠ Hc := by have := BXc27.out.lt; rcases hat with h | h <;> omega
                        clear ho hg hat hlg
                        refine hK.out _ _ (HKX.out w28 BE28.out) (fun hHeld => ?_)
                        clear hK K
                        try simp only [List.getElem_toArray, List.getElem_cons_succ, List.getElem_cons_zero, Act.put, List.setIfInBounds_toArray, List.set_cons_zero, List.set_cons_succ]
                        refine wpAnyH_ready (rs := [16]) (by kernel_rfl) (by simp) ?_
                        refine AllReadyH.cons rfl (fun K hK => ?_) AllReadyH.nil
                        · skip
                          refine step_append_src14 w28 (by rfl) _ _ _ (by rfl) i0 _ Try.underlying51 HI.out iz0 iz1 iz2 rfl wr.heap.size g3 k3 (m + 1) (q.take m ++ [(pollI, Value.slice none 0 0)]) HQT3.out (by rfl) HO28.out (some ⟨Hc, 0, none⟩) 1 1 [((⟨xo, xd, xa, xb, xn, xm, ags⟩ : InsV), Value.slice A2 na c2)] (m + 1 + 1) (by omega) (by rfl) (srcIns14 BXc28.out) (by omega) BE28.out.size ?_
                          intro g4 k4 w29 ho hg hat hlg
                          have BE29 := hide (BE28.out.grown hg BE28.out.size (fun k hk => by injection hk with hk; have := (HO28.out.lt g3 rfl).1; omega))
                          have HO29 := hide ho
                          clear ho hg hat hlg
                          refine hK.out _ _ (HKX.out w29 BE29.out) (fun hHeld => ?_)
                          clear hK K
                          try simp only [List.getElem_toArray, List.getElem_cons_succ, List.getElem_cons_zero, Act.put, List.setIfInBounds_toArray, List.set_cons_zero, List.set_cons_succ]
                          refine wpAnyH_take (i := 17) (v := ?_) rfl (by kernel_rfl) (by kernel_rfl) (by kernel_rfl) (fun _ _ _ h => h) (Or.inl ⟨by rfl, ?_⟩) (by assumption) ?_
                          rotate_left
                          focus
                            intro w hSw
                            try dsimp only at hSw
                            go_simp
                            try with_reducible rfl
                          try simp only [List.getElem_toArray, List.getElem_cons_succ, List.getElem_cons_zero, Act.put, List.setIfInBounds_toArray, List.set_cons_zero, List.set_cons_succ]
                          refine wpAnyH_take (i := 18) (v := ?_) rfl (by kernel_rfl) (by kernel_rfl) (by kernel_rfl) (fun _ _ _ h => h) (Or.inl ⟨by rfl, ?_⟩) (by assumption) ?_
                          rotate_left
                          focus
                            intro w hSw
                            try dsimp only at hSw
                            go_simp
                            try with_reducible rfl
                          try simp only [List.getElem_toArray, List.getElem_cons_succ, List.getElem_cons_zero, Act.put, List.setIfInBounds_toArray, List.set_cons_zero, List.set_cons_succ]
                          obtain ⟨c8, f8, lg8⟩ := HST.out w29 BE29.out
                          refine wpAnyH_ready (rs := [19]) (by kernel_rfl) (by simp) ?_
                          refine AllReadyH.cons rfl (fun K hK => ?_) AllReadyH.nil
                          rw [if_pos (by rfl)]
                          go_simp
                          obtain ⟨hs9, hr9⟩ := HEND.out w29 g4 k4 BE29.out HO29.out
                          have HR9 := hide hr9
                          clear hr9
                          refine hK.out _ _ hs9 (fun hHeld => ?_)
                          clear hK K
                          try simp only [List.getElem_toArray, List.getElem_cons_succ, List.getElem_cons_zero, Act.put, List.setIfInBounds_toArray, List.set_cons_zero, List.set_cons_succ]
                          refine wpAnyH_done (by kernel_rfl) ?_ _
                          clear hs9 hHeld c8 f8 lg8
                          go_wp2
                          go_roundw
                          case rel => exact ⟨k + 1, _, by have := HLT.out; omega, by go_num, HR9.out⟩
                          case measure => have := HLT.out; simp [intOf]; omega
                  · skip
                    rw [if_pos (by rfl)]
                    go_simp
                    obtain ⟨Hc, hHc⟩ : ∃ H, w22.heap.size = H := ⟨_, rfl⟩
                    obtain ⟨w30, hw30⟩ : ∃ wM, wM = w22.alloc (.cells #[.int .i64 xo, .int .i64 xd, .int .i64 xa, .int .i64 xb, .int .i64 xn, .int .i64 xm, .slice A2 na c2] 50) := ⟨_, rfl⟩
                    have DE30 := hide (show Below w22.heap.size w22 w30 by rw [hw30]; exact alloc1 w22 _)
                    have BE30 := hide (BE22.out.trans (DE30.out.mono BE22.out.size))
                    have BXc30 := hide (show Box w30 Hc #[.int .i64 xo, .int .i64 xd, .int .i64 xa, .int .i64 xb, .int .i64 xn, .int .i64 xm, .slice A2 na c2] 50 by rw [hw30, ← hHc]; exact Box.new w22 _ _)
                    have HO30 := hide (HO22.out.below DE30.out)
                    have n2c : g2 ≠ Hc := by have := (HO22.out.lt g2 rfl).2; omega
                    rw [← hw30, hHc]
                    clear hw30 hHc
                    refine hK.out _ _ (HKX.out w30 BE30.out) (fun hHeld => ?_)
                    clear hK K
                    try simp only [List.getElem_toArray, List.getElem_cons_succ, List.getElem_cons_zero, Act.put, List.setIfInBounds_toArray, List.set_cons_zero, List.set_cons_succ]
                    refine wpAnyH_ready (rs := [9]) (by kernel_rfl) (by simp) ?_
                    refine AllReadyH.cons rfl (fun K hK => ?_) AllReadyH.nil
                    · skip
                      rw [if_pos (by rfl)]
                      go_simp
                      obtain ⟨Hb, hHb⟩ : ∃ H, w30.heap.size = H := ⟨_, rfl⟩
                      obtain ⟨w31, hw31⟩ : ∃ wM, wM = w30.alloc (.cells #[.int .i64 24, .int .i64 0, .int .i64 0, .int .i64 0, .int .i64 0, .int .i64 0, .slice none 0 0] 50) := ⟨_, rfl⟩
                      have DE31 := hide (show Below w30.heap.size w30 w31 by rw [hw31]; exact alloc1 w30 _)
                      have BE31 := hide (BE30.out.trans (DE31.out.mono BE30.out.size))
                      have BXb31 := hide (show Box w31 Hb #[.int .i64 24, .int .i64 0, .int .i64 0, .int .i64 0, .int .i64 0, .int .i64 0, .slice none 0 0] 50 by rw [hw31, ← hHb]; exact Box.new w30 _ _)
                      have HO31 := hide (HO30.out.below DE31.out)
                      have n2b : g2 ≠ Hb := by have := (HO30.out.lt g2 rfl).2; omega
                      have BXc31 := hide (BXc30.out.below DE31.out)
                      rw [← hw31, hHb]
                      clear hw31 hHb
                      refine hK.out _ _ (HKX.out w31 BE31.out) (fun hHeld => ?_)
                      clear hK K
                      try simp only [List.getElem_toArray, List.getElem_cons_succ, List.getElem_cons_zero, Act.put, List.setIfInBounds_toArray, List.set_cons_zero, List.set_cons_succ]
                      refine wpAnyH_ready (rs := [10]) (by kernel_rfl) (by simp) ?_
                      refine AllReadyH.cons rfl (fun K hK => ?_) AllReadyH.nil
                      · skip
                        refine step_append_src14 w31 (by rfl) _ _ _ (by rfl) i0 _ Try.underlying51 HI.out iz0 iz1 iz2 rfl wr.heap.size g2 k2 m (q.take m) HQT.out (by rfl) HO31.out (some ⟨Hb, 0, none⟩) 1 1 [(pollI, Value.slice none 0 0)] (m + 1) (by omega) (by rfl) (srcPoll14 BXb31.out) (by omega) BE31.out.size ?_
                        intro g3 k3 w32 ho hg hat hlg
                        have BE32 := hide (BE31.out.grown hg BE31.out.size (fun k hk => by injection hk with hk; have := (HO31.out.lt g2 rfl).1; omega))
                        have HO32 := hide ho
                        have BXc32 := hide (show Box w32 Hc #[.int .i64 xo, .int .i64 xd, .int .i64 xa, .int .i64 xb, .int .i64 xn, .int .i64 xm, .slice A2 na c2] 50 from (hg.block Hc BXc31.out.lt (fun e => n2c (by injection e with e; omega))).trans BXc31.out)
                        have n3c : g3 ≠ Hc := by have := BXc31.out.lt; rcases hat with h | h <;> omega
                        clear ho hg hat hlg
                        refine hK.out _ _ (HKX.out w32 BE32.out) (fun hHeld => ?_)
                        clear hK K
                        try simp only [List.getElem_toArray, List.getElem_cons_succ, List.getElem_cons_zero, Act.put, List.setIfInBounds_toArray, List.set_cons_zero, List.set_cons_succ]
                        refine wpAnyH_ready (rs := [16]) (by kernel_rfl) (by simp) ?_
                        refine AllReadyH.cons rfl (fun K hK => ?_) AllReadyH.nil
                        · skip
                          refine step_append_src14 w32 (by rfl) _ _ _ (by rfl) i0 _ Try.underlying51 HI.out iz0 iz1 iz2 rfl wr.heap.size g3 k3 (m + 1) (q.take m ++ [(pollI, Value.slice none 0 0)]) HQT3.out (by rfl) HO32.out (some ⟨Hc, 0, none⟩) 1 1 [((⟨xo, xd, xa, xb, xn, xm, ags⟩ : InsV), Value.slice A2 na c2)] (m + 1 + 1) (by omega) (by rfl) (srcIns14 BXc32.out) (by omega) BE32.out.size ?_
                          intro g4 k4 w33 ho hg hat hlg
                          have BE33 := hide (BE32.out.grown hg BE32.out.size (fun k hk => by injection hk with hk; have := (HO32.out.lt g3 rfl).1; omega))
                          have HO33 := hide ho
                          clear ho hg hat hlg
                          refine hK.out _ _ (HKX.out w33 BE33.out) (fun hHeld => ?_)
                          clear hK K
                          try simp only [List.getElem_toArray, List.getElem_cons_succ, List.getElem_cons_zero, Act.put, List.setIfInBounds_toArray, List.set_cons_zero, List.set_cons_succ]
                          refine wpAnyH_take (i := 17) (v := ?_) rfl (by kernel_rfl) (by kernel_rfl) (by kernel_rfl) (fun _ _ _ h => h) (Or.inl ⟨by rfl, ?_⟩) (by assumption) ?_
                          rotate_left
                          focus
                            intro w hSw
                            try dsimp only at hSw
                            go_simp
                            try with_reducible rfl
                          try simp only [List.getElem_toArray, List.getElem_cons_succ, List.getElem_cons_zero, Act.put, List.setIfInBounds_toArray, List.set_cons_zero, List.set_cons_succ]
                          refine wpAnyH_take (i := 18) (v := ?_) rfl (by kernel_rfl) (by kernel_rfl) (by kernel_rfl) (fun _ _ _ h => h) (Or.inl ⟨by rfl, ?_⟩) (by assumption) ?_
                          rotate_left
                          focus
                            intro w hSw
                            try dsimp only at hSw
                            go_simp
                            try with_reducible rfl
                          try simp only [List.getElem_toArray, List.getElem_cons_succ, List.getElem_cons_zero, Act.put, List.setIfInBounds_toArray, List.set_cons_zero, List.set_cons_succ]
                          obtain ⟨c8, f8, lg8⟩ := HST.out w33 BE33.out
                          refine wpAnyH_ready (rs := [19]) (by kernel_rfl) (by simp) ?_
                          refine AllReadyH.cons rfl (fun K hK => ?_) AllReadyH.nil
                          rw [if_pos (by rfl)]
                          go_simp
                          obtain ⟨hs9, hr9⟩ := HEND.out w33 g4 k4 BE33.out HO33.out
                          have HR9 := hide hr9
                          clear hr9
                          refine hK.out _ _ hs9 (fun hHeld => ?_)
                          clear hK K
                          try simp only [List.getElem_toArray, List.getElem_cons_succ, List.getElem_cons_zero, Act.put, List.setIfInBounds_toArray, List.set_cons_zero, List.set_cons_succ]
                          refine wpAnyH_done (by kernel_rfl) ?_ _
                          clear hs9 hHeld c8 f8 lg8
                          go_wp2
                          go_roundw
                          case rel => exact ⟨k + 1, _, by have := HLT.out; omega, by go_num, HR9.out⟩
                          case measure => have := HLT.out; simp [intOf]; omega
                · skip
                  rw [if_pos (by rfl)]
                  go_simp
                  obtain ⟨Hb, hHb⟩ : ∃ H, w21.heap.size = H := ⟨_, rfl⟩
                  obtain ⟨w34, hw34⟩ : ∃ wM, wM = w21.alloc (.cells #[.int .i64 24, .int .i64 0, .int .i64 0, .int .i64 0, .int .i64 0, .int .i64 0, .slice none 0 0] 50) := ⟨_, rfl⟩
                  have DE34 := hide (show Below w21.heap.size w21 w34 by rw [hw34]; exact alloc1 w21 _)
                  have BE34 := hide (BE21.out.trans (DE34.out.mono BE21.out.size))
                  have BXb34 := hide (show Box w34 Hb #[.int .i64 24, .int .i64 0, .int .i64 0, .int .i64 0, .int .i64 0, .int .i64 0, .slice none 0 0] 50 by rw [hw34, ← hHb]; exact Box.new w21 _ _)
                  have HO34 := hide (HO21.out.below DE34.out)
                  have n1b : g1 ≠ Hb := by have := (HO21.out.lt g1 rfl).2; omega
                  rw [← hw34, hHb]
                  clear hw34 hHb
                  refine hK.out _ _ (HKX.out w34 BE34.out) (fun hHeld => ?_)
                  clear hK K
                  try simp only [List.getElem_toArray, List.getElem_cons_succ, List.getElem_cons_zero, Act.put, List.setIfInBounds_toArray, List.set_cons_zero, List.set_cons_succ]
                  refine wpAnyH_ready (rs := [7, 15]) (by kernel_rfl) (by simp) ?_
                  refine AllReadyH.cons rfl (fun K hK => ?_) (AllReadyH.cons rfl (fun K hK => ?_) AllReadyH.nil)
                  · skip
                    refine step_append_src14 w34 (by rfl) _ _ _ (by rfl) i0 _ Try.underlying51 HI.out iz0 iz1 iz2 rfl wr.heap.size g1 0 0 ([] : List (InsV × Value)) rfl (by rfl) HO34.out (some ⟨ga, oa, none⟩) m cu (q.take m) m (by omega) (by rfl) (HSA.out w34 BE34.out) (by omega) BE34.out.size ?_
                    intro g2 k2 w35 ho hg hat hlg
                    have BE35 := hide (BE34.out.grown hg BE34.out.size (fun k hk => by injection hk with hk; have := (HO34.out.lt g1 rfl).1; omega))
                    have HO35 := hide ho
                    have BXb35 := hide (show Box w35 Hb #[.int .i64 24, .int .i64 0, .int .i64 0, .int .i64 0, .int .i64 0, .int .i64 0, .slice none 0 0] 50 from (hg.block Hb BXb34.out.lt (fun e => n1b (by injection e with e; omega))).trans BXb34.out)
                    have n2b : g2 ≠ Hb := by have := BXb34.out.lt; rcases hat with h | h <;> omega
                    clear ho hg hat hlg
                    refine hK.out _ _ (HKX.out w35 BE35.out) (fun hHeld => ?_)
                    clear hK K
                    try simp only [List.getElem_toArray, List.getElem_cons_succ, List.getElem_cons_zero, Act.put, List.setIfInBounds_toArray, List.set_cons_zero, List.set_cons_succ]
                    refine wpAnyH_ready (rs := [10, 15]) (by kernel_rfl) (by simp) ?_
                    refine AllReadyH.cons rfl (fun K hK => ?_) (AllReadyH.cons rfl (fun K hK => ?_) AllReadyH.nil)
                    · skip
                      refine step_append_src14 w35 (by rfl) _ _ _ (by rfl) i0 _ Try.underlying51 HI.out iz0 iz1 iz2 rfl wr.heap.size g2 k2 m (q.take m) HQT.out (by rfl) HO35.out (some ⟨Hb, 0, none⟩) 1 1 [(pollI, Value.slice none 0 0)] (m + 1) (by omega) (by rfl) (srcPoll14 BXb35.out) (by omega) BE35.out.size ?_
                      intro g3 k3 w36 ho hg hat hlg
                      have BE36 := hide (BE35.out.grown hg BE35.out.size (fun k hk => by injection hk with hk; have := (HO35.out.lt g2 rfl).1; omega))
                      have HO36 := hide ho
                      clear ho hg hat hlg
                      refine hK.out _ _ (HKX.out w36 BE36.out) (fun hHeld => ?_)
                      clear hK K
                      try simp only [List.getElem_toArray, List.getElem_cons_succ, List.getElem_cons_zero, Act.put, List.setIfInBounds_toArray, List.set_cons_zero, List.set_cons_succ]
                      refine wpAnyH_ready (rs := [15]) (by kernel_rfl) (by simp) ?_
                      refine AllReadyH.cons rfl (fun K hK => ?_) AllReadyH.nil
                      · skip
                        rw [if_pos (by rfl)]
                        go_simp
                        obtain ⟨Hc, hHc⟩ : ∃ H, w36.heap.size = H := ⟨_, rfl⟩
                        obtain ⟨w37, hw37⟩ : ∃ wM, wM = w36.alloc (.cells #[.int .i64 xo, .int .i64 xd, .int .i64 xa, .int .i64 xb, .int .i64 xn, .int .i64 xm, .slice A2 na c2] 50) := ⟨_, rfl⟩
                        have DE37 := hide (show Below w36.heap.size w36 w37 by rw [hw37]; exact alloc1 w36 _)
                        have BE37 := hide (BE36.out.trans (DE37.out.mono BE36.out.size))
                        have BXc37 := hide (show Box w37 Hc #[.int .i64 xo, .int .i64 xd, .int .i64 xa, .int .i64 xb, .int .i64 xn, .int .i64 xm, .slice A2 na c2] 50 by rw [hw37, ← hHc]; exact Box.new w36 _ _)
                        have HO37 := hide (HO36.out.below DE37.out)
                        have n3c : g3 ≠ Hc := by have := (HO36.out.lt g3 rfl).2; omega
                        rw [← hw37, hHc]
                        clear hw37 hHc
                        refine hK.out _ _ (HKX.out w37 BE37.out) (fun hHeld => ?_)
                        clear hK K
                        try simp only [List.getElem_toArray, List.getElem_cons_succ, List.getElem_cons_zero, Act.put, List.setIfInBounds_toArray, List.set_cons_zero, List.set_cons_succ]
                        refine wpAnyH_ready (rs := [16]) (by kernel_rfl) (by simp) ?_
                        refine AllReadyH.cons rfl (fun K hK => ?_) AllReadyH.nil
                        · skip
                          refine step_append_src14 w37 (by rfl) _ _ _ (by rfl) i0 _ Try.underlying51 HI.out iz0 iz1 iz2 rfl wr.heap.size g3 k3 (m + 1) (q.take m ++ [(pollI, Value.slice none 0 0)]) HQT3.out (by rfl) HO37.out (some ⟨Hc, 0, none⟩) 1 1 [((⟨xo, xd, xa, xb, xn, xm, ags⟩ : InsV), Value.slice A2 na c2)] (m + 1 + 1) (by omega) (by rfl) (srcIns14 BXc37.out) (by omega) BE37.out.size ?_
                          intro g4 k4 w38 ho hg hat hlg
                          have BE38 := hide (BE37.out.grown hg BE37.out.size (fun k hk => by injection hk with hk; have := (HO37.out.lt g3 rfl).1; omega))
                          have HO38 := hide ho
                          clear ho hg hat hlg
                          refine hK.out _ _ (HKX.out w38 BE38.out) (fun hHeld => ?_)
                          clear hK K
                          try simp only [List.getElem_toArray, List.getElem_cons_succ, List.getElem_cons_zero, Act.put, List.setIfInBounds_toArray, List.set_cons_zero, List.set_cons_succ]
                          refine wpAnyH_take (i := 17) (v := ?_) rfl (by kernel_rfl) (by kernel_rfl) (by kernel_rfl) (fun _ _ _ h => h) (Or.inl ⟨by rfl, ?_⟩) (by assumption) ?_
                          rotate_left
                          focus
                            intro w hSw
                            try dsimp only at hSw
                            go_simp
                            try with_reducible rfl
                          try simp only [List.getElem_toArray, List.getElem_cons_succ, List.getElem_cons_zero, Act.put, List.setIfInBounds_toArray, List.set_cons_zero, List.set_cons_succ]
                          refine wpAnyH_take (i := 18) (v := ?_) rfl (by kernel_rfl) (by kernel_rfl) (by kernel_rfl) (fun _ _ _ h => h) (Or.inl ⟨by rfl, ?_⟩) (by assumption) ?_
                          rotate_left
                          focus
                            intro w hSw
                            try dsimp only at hSw
                            go_simp
                            try with_reducible rfl
                          try simp only [List.getElem_toArray, List.getElem_cons_succ, List.getElem_cons_zero, Act.put, List.setIfInBounds_toArray, List.set_cons_zero, List.set_cons_succ]
                          obtain ⟨c8, f8, lg8⟩ := HST.out w38 BE38.out
                          refine wpAnyH_ready (rs := [19]) (by kernel_rfl) (by simp) ?_
                          refine AllReadyH.cons rfl (fun K hK => ?_) AllReadyH.nil
                          rw [if_pos (by rfl)]
                          go_simp
                          obtain ⟨hs9, hr9⟩ := HEND.out w38 g4 k4 BE38.out HO38.out
                          have HR9 := hide hr9
                          clear hr9
                          refine hK.out _ _ hs9 (fun hHeld => ?_)
                          clear hK K
                          try simp only [List.getElem_toArray, List.getElem_cons_succ, List.getElem_cons_zero, Act.put, List.setIfInBounds_toArray, List.set_cons_zero, List.set_cons_succ]
                          refine wpAnyH_done (by kernel_rfl) ?_ _
                          clear hs9 hHeld c8 f8 lg8
                          go_wp2
                          go_roundw
                          case rel => exact ⟨k + 1, _, by have := HLT.out; omega, by go_num, HR9.out⟩
                          case measure => have := HLT.out; simp [intOf]; omega
                    · skip
                      rw [if_pos (by rfl)]
                      go_simp
                      obtain ⟨Hc, hHc⟩ : ∃ H, w35.heap.size = H := ⟨_, rfl⟩
                      obtain ⟨w39, hw39⟩ : ∃ wM, wM = w35.alloc (.cells #[.int .i64 xo, .int .i64 xd, .int .i64 xa, .int .i64 xb, .int .i64 xn, .int .i64 xm, .slice A2 na c2] 50) := ⟨_, rfl⟩
                      have DE39 := hide (show Below w35.heap.size w35 w39 by rw [hw39]; exact alloc1 w35 _)
                      have BE39 := hide (BE35.out.trans (DE39.out.mono BE35.out.size))
                      have BXc39 := hide (show Box w39 Hc #[.int .i64 xo, .int .i64 xd, .int .i64 xa, .int .i64 xb, .int .i64 xn, .int .i64 xm, .slice A2 na c2] 50 by rw [hw39, ← hHc]; exact Box.new w35 _ _)
                      have HO39 := hide (HO35.out.below DE39.out)
                      have n2c : g2 ≠ Hc := by have := (HO35.out.lt g2 rfl).2; omega
                      have BXb39 := hide (BXb35.out.below DE39.out)
                      rw [← hw39, hHc]
                      clear hw39 hHc
                      refine hK.out _ _ (HKX.out w39 BE39.out) (fun hHeld => ?_)
                      clear hK K
                      try simp only [List.getElem_toArray, List.getElem_cons_succ, List.getElem_cons_zero, Act.put, List.setIfInBounds_toArray, List.set_cons_zero, List.set_cons_succ]
                      refine wpAnyH_ready (rs := [10]) (by kernel_rfl) (by simp) ?_
                      refine AllReadyH.cons rfl (fun K hK => ?_) AllReadyH.nil
                      · skip
                        refine step_append_src14 w39 (by rfl) _ _ _ (by rfl) i0 _ Try.underlying51 HI.out iz0 iz1 iz2 rfl wr.heap.size g2 k2 m (q.take m) HQT.out (by rfl) HO39.out (some ⟨Hb, 0, none⟩) 1 1 [(pollI, Value.slice none 0 0)] (m + 1) (by omega) (by rfl) (srcPoll14 BXb39.out) (by omega) BE39.out.size ?_
                        intro g3 k3 w40 ho hg hat hlg
                        have BE40 := hide (BE39.out.grown hg BE39.out.size (fun k hk => by injection hk with hk; have := (HO39.out.lt g2 rfl).1; omega))
                        have HO40 := hide ho
                        have BXc40 := hide (show Box w40 Hc #[.int .i64 xo, .int .i64 xd, .int .i64 xa, .int .i64 xb, .int .i64 xn, .int .i64 xm, .slice A2 na c2] 50 from (hg.block Hc BXc39.out.lt (fun e => n2c (by injection e with e; omega))).trans BXc39.out)
                        have n3c : g3 ≠ Hc := by have := BXc39.out.lt; rcases hat with h | h <;> omega
                        clear ho hg hat hlg
                        refine hK.out _ _ (HKX.out w40 BE40.out) (fun hHeld => ?_)
                        clear hK K
                        try simp only [List.getElem_toArray, List.getElem_cons_succ, List.getElem_cons_zero, Act.put, List.setIfInBounds_toArray, List.set_cons_zero, List.set_cons_succ]
                        refine wpAnyH_ready (rs := [16]) (by kernel_rfl) (by simp) ?_
                        refine AllReadyH.cons rfl (fun K hK => ?_) AllReadyH.nil
                        · skip
                          refine step_append_src14 w40 (by rfl) _ _ _ (by rfl) i0 _ Try.underlying51 HI.out iz0 iz1 iz2 rfl wr.heap.size g3 k3 (m + 1) (q.take m ++ [(pollI, Value.slice none 0 0)]) HQT3.out (by rfl) HO40.out (some ⟨Hc, 0, none⟩) 1 1 [((⟨xo, xd, xa, xb, xn, xm, ags⟩ : InsV), Value.slice A2 na c2)] (m + 1 + 1) (by omega) (by rfl) (srcIns14 BXc40.out) (by omega) BE40.out.size ?_
                          intro g4 k4 w41 ho hg hat hlg
                          have BE41 := hide (BE40.out.grown hg BE40.out.size (fun k hk => by injection hk with hk; have := (HO40.out.lt g3 rfl).1; omega))
                          have HO41 := hide ho
                          clear ho hg hat hlg
                          refine hK.out _ _ (HKX.out w41 BE41.out) (fun hHeld => ?_)
                          clear hK K
                          try simp only [List.getElem_toArray, List.getElem_cons_succ, List.getElem_cons_zero, Act.put, List.setIfInBounds_toArray, List.set_cons_zero, List.set_cons_succ]
                          refine wpAnyH_take (i := 17) (v := ?_) rfl (by kernel_rfl) (by kernel_rfl) (by kernel_rfl) (fun _ _ _ h => h) (Or.inl ⟨by rfl, ?_⟩) (by assumption) ?_
                          rotate_left
                          focus
                            intro w hSw
                            try dsimp only at hSw
                            go_simp
                            try with_reducible rfl
                          try simp only [List.getElem_toArray, List.getElem_cons_succ, List.getElem_cons_zero, Act.put, List.setIfInBounds_toArray, List.set_cons_zero, List.set_cons_succ]
                          refine wpAnyH_take (i := 18) (v := ?_) rfl (by kernel_rfl) (by kernel_rfl) (by kernel_rfl) (fun _ _ _ h => h) (Or.inl ⟨by rfl, ?_⟩) (by assumption) ?_
                          rotate_left
                          focus
                            intro w hSw
                            try dsimp only at hSw
                            go_simp
                            try with_reducible rfl
                          try simp only [List.getElem_toArray, List.getElem_cons_succ, List.getElem_cons_zero, Act.put, List.setIfInBounds_toArray, List.set_cons_zero, List.set_cons_succ]
                          obtain ⟨c8, f8, lg8⟩ := HST.out w41 BE41.out
                          refine wpAnyH_ready (rs := [19]) (by kernel_rfl) (by simp) ?_
                          refine AllReadyH.cons rfl (fun K hK => ?_) AllReadyH.nil
                          rw [if_pos (by rfl)]
                          go_simp
                          obtain ⟨hs9, hr9⟩ := HEND.out w41 g4 k4 BE41.out HO41.out
                          have HR9 := hide hr9
                          clear hr9
                          refine hK.out _ _ hs9 (fun hHeld => ?_)
                          clear hK K
                          try simp only [List.getElem_toArray, List.getElem_cons_succ, List.getElem_cons_zero, Act.put, List.setIfInBounds_toArray, List.set_cons_zero, List.set_cons_succ]
                          refine wpAnyH_done (by kernel_rfl) ?_ _
                          clear hs9 hHeld c8 f8 lg8
                          go_wp2
                          go_roundw
                          case rel => exact ⟨k + 1, _, by have := HLT.out; omega, by go_num, HR9.out⟩
                          case measure => have := HLT.out; simp [intOf]; omega
                  · skip
                    rw [if_pos (by rfl)]
                    go_simp
                    obtain ⟨Hc, hHc⟩ : ∃ H, w34.heap.size = H := ⟨_, rfl⟩
                    obtain ⟨w42, hw42⟩ : ∃ wM, wM = w34.alloc (.cells #[.int .i64 xo, .int .i64 xd, .int .i64 xa, .int .i64 xb, .int .i64 xn, .int .i64 xm, .slice A2 na c2] 50) := ⟨_, rfl⟩
                    have DE42 := hide (show Below w34.heap.size w34 w42 by rw [hw42]; exact alloc1 w34 _)
                    have BE42 := hide (BE34.out.trans (DE42.out.mono BE34.out.size))
                    have BXc42 := hide (show Box w42 Hc #[.int .i64 xo, .int .i64 xd, .int .i64 xa, .int .i64 xb, .int .i64 xn, .int .i64 xm, .slice A2 na c2] 50 by rw [hw42, ← hHc]; exact Box.new w34 _ _)
                    have HO42 := hide (HO34.out.below DE42.out)
                    have n1c : g1 ≠ Hc := by have := (HO34.out.lt g1 rfl).2; omega
                    have BXb42 := hide (BXb34.out.below DE42.out)
                    rw [← hw42, hHc]
                    clear hw42 hHc
                    refine hK.out _ _ (HKX.out w42 BE42.out) (fun hHeld => ?_)
                    clear hK K
                    try simp only [List.getElem_toArray, List.getElem_cons_succ, List.getElem_cons_zero, Act.put, List.setIfInBounds_toArray, List.set_cons_zero, List.set_cons_succ]
                    refine wpAnyH_ready (rs := [7]) (by kernel_rfl) (by simp) ?_
                    refine AllReadyH.cons rfl (fun K hK => ?_) AllReadyH.nil
                    · skip
                      refine step_append_src14 w42 (by rfl) _ _ _ (by rfl) i0 _ Try.underlying51 HI.out iz0 iz1 iz2 rfl wr.heap.size g1 0 0 ([] : List (InsV × Value)) rfl (by rfl) HO42.out (some ⟨ga, oa, none⟩) m cu (q.take m) m (by omega) (by rfl) (HSA.out w42 BE42.out) (by omega) BE42.out.size ?_
                      intro g2 k2 w43 ho hg hat hlg
                      have BE43 := hide (BE42.out.grown hg BE42.out.size (fun k hk => by injection hk with hk; have := (HO42.out.lt g1 rfl).1; omega))
                      have HO43 := hide ho
                      have BXb43 := hide (show Box w43 Hb #[.int .i64 24, .int .i64 0, .int .i64 0, .int .i64 0, .int .i64 0, .int .i64 0, .slice none 0 0] 50 from (hg.block Hb BXb42.out.lt (fun e => n1b (by injection e with e; omega))).trans BXb42.out)
                      have n2b : g2 ≠ Hb := by have := BXb42.out.lt; rcases hat with h | h <;> omega
                      have BXc43 := hide (show Box w43 Hc #[.int .i64 xo, .int .i64 xd, .int .i64 xa, .int .i64 xb, .int .i64 xn, .int .i64 xm, .slice A2 na c2] 50 from (hg.block Hc BXc42.out.lt (fun e => n1c (by injection e with e; omega))).trans BXc42.out)
                      have n2c : g2 ≠ Hc := by have := BXc42.out.lt; rcases hat with h | h <;> omega
                      clear ho hg hat hlg
                      refine hK.out _ _ (HKX.out w43 BE43.out) (fun hHeld => ?_)
                      clear hK K
                      try simp only [List.getElem_toArray, List.getElem_cons_succ, List.getElem_cons_zero, Act.put, List.setIfInBounds_toArray, List.set_cons_zero, List.set_cons_succ]
                      refine wpAnyH_ready (rs := [10]) (by kernel_rfl) (by simp) ?_
                      refine AllReadyH.cons rfl (fun K hK => ?_) AllReadyH.nil
                      · skip
                        refine step_append_src14 w43 (by rfl) _ _ _ (by rfl) i0 _ Try.underlying51 HI.out iz0 iz1 iz2 rfl wr.heap.size g2 k2 m (q.take m) HQT.out (by rfl) HO43.out (some ⟨Hb, 0, none⟩) 1 1 [(pollI, Value.slice none 0 0)] (m + 1) (by omega) (by rfl) (srcPoll14 BXb43.out) (by omega) BE43.out.size ?_
                        intro g3 k3 w44 ho hg hat hlg
                        have BE44 := hide (BE43.out.grown hg BE43.out.size (fun k hk => by injection hk with hk; have := (HO43.out.lt g2 rfl).1; omega))
                        have HO44 := hide ho
                        have BXc44 := hide (show Box w44 Hc #[.int .i64 xo, .int .i64 xd, .int .i64 xa, .int .i64 xb, .int .i64 xn, .int .i64 xm, .slice A2 na c2] 50 from (hg.block Hc BXc43.out.lt (fun e => n2c (by injection e with e; omega))).trans BXc43.out)
                        have n3c : g3 ≠ Hc := by have := BXc43.out.lt; rcases hat with h | h <;> omega
                        clear ho hg hat hlg
                        refine hK.out _ _ (HKX.out w44 BE44.out) (fun hHeld => ?_)
                        clear hK K
                        try simp only [List.getElem_toArray, List.getElem_cons_succ, List.getElem_cons_zero, Act.put, List.setIfInBounds_toArray, List.set_cons_zero, List.set_cons_succ]
                        refine wpAnyH_ready (rs := [16]) (by kernel_rfl) (by simp) ?_
                        refine AllReadyH.cons rfl (fun K hK => ?_) AllReadyH.nil
                        · skip
                          refine step_append_src14 w44 (by rfl) _ _ _ (by rfl) i0 _ Try.underlying51 HI.out iz0 iz1 iz2 rfl wr.heap.size g3 k3 (m + 1) (q.take m ++ [(pollI, Value.slice none 0 0)]) HQT3.out (by rfl) HO44.out (some ⟨Hc, 0, none⟩) 1 1 [((⟨xo, xd, xa, xb, xn, xm, ags⟩ : InsV), Value.slice A2 na c2)] (m + 1 + 1) (by omega) (by rfl) (srcIns14 BXc44.out) (by omega) BE44.out.size ?_
                          intro g4 k4 w45 ho hg hat hlg
                          have BE45 := hide (BE44.out.grown hg BE44.out.size (fun k hk => by injection hk with hk; have := (HO44.out.lt g3 rfl).1; omega))
                          have HO45 := hide ho
                          clear ho hg hat hlg
                          refine hK.out _ _ (HKX.out w45 BE45.out) (fun hHeld => ?_)
                          clear hK K
                          try simp only [List.getElem_toArray, List.getElem_cons_succ, List.getElem_cons_zero, Act.put, List.setIfInBounds_toArray, List.set_cons_zero, List.set_cons_succ]
                          refine wpAnyH_take (i := 17) (v := ?_) rfl (by kernel_rfl) (by kernel_rfl) (by kernel_rfl) (fun _ _ _ h => h) (Or.inl ⟨by rfl, ?_⟩) (by assumption) ?_
                          rotate_left
                          focus
                            intro w hSw
                            try dsimp only at hSw
                            go_simp
                            try with_reducible rfl
                          try simp only [List.getElem_toArray, List.getElem_cons_succ, List.getElem_cons_zero, Act.put, List.setIfInBounds_toArray, List.set_cons_zero, List.set_cons_succ]
                          refine wpAnyH_take (i := 18) (v := ?_) rfl (by kernel_rfl) (by kernel_rfl) (by kernel_rfl) (fun _ _ _ h => h) (Or.inl ⟨by rfl, ?_⟩) (by assumption) ?_
                          rotate_left
                          focus
                            intro w hSw
                            try dsimp only at hSw
                            go_simp
                            try with_reducible rfl
                          try simp only [List.getElem_toArray, List.getElem_cons_succ, List.getElem_cons_zero, Act.put, List.setIfInBounds_toArray, List.set_cons_zero, List.set_cons_succ]
                          obtain ⟨c8, f8, lg8⟩ := HST.out w45 BE45.out
                          refine wpAnyH_ready (rs := [19]) (by kernel_rfl) (by simp) ?_
                          refine AllReadyH.cons rfl (fun K hK => ?_) AllReadyH.nil
                          rw [if_pos (by rfl)]
                          go_simp
                          obtain ⟨hs9, hr9⟩ := HEND.out w45 g4 k4 BE45.out HO45.out
                          have HR9 := hide hr9
                          clear hr9
                          refine hK.out _ _ hs9 (fun hHeld => ?_)
                          clear hK K
                          try simp only [List.getElem_toArray, List.getElem_cons_succ, List.getElem_cons_zero, Act.put, List.setIfInBounds_toArray, List.set_cons_zero, List.set_cons_succ]
                          refine wpAnyH_done (by kernel_rfl) ?_ _
                          clear hs9 hHeld c8 f8 lg8
                          go_wp2
                          go_roundw
                          case rel => exact ⟨k + 1, _, by have := HLT.out; omega, by go_num, HR9.out⟩
                          case measure => have := HLT.out; simp [intOf]; omega
                · skip
                  rw [if_pos (by rfl)]
                  go_simp
                  obtain ⟨Hc, hHc⟩ : ∃ H, w21.heap.size = H := ⟨_, rfl⟩
                  obtain ⟨w46, hw46⟩ : ∃ wM, wM = w21.alloc (.cells #[.int .i64 xo, .int .i64 xd, .int .i64 xa, .int .i64 xb, .int .i64 xn, .int .i64 xm, .slice A2 na c2] 50) := ⟨_, rfl⟩
                  have DE46 := hide (show Below w21.heap.size w21 w46 by rw [hw46]; exact alloc1 w21 _)
                  have BE46 := hide (BE21.out.trans (DE46.out.mono BE21.out.size))
                  have BXc46 := hide (show Box w46 Hc #[.int .i64 xo, .int .i64 xd, .int .i64 xa, .int .i64 xb, .int .i64 xn, .int .i64 xm, .slice A2 na c2] 50 by rw [hw46, ← hHc]; exact Box.new w21 _ _)
                  have HO46 := hide (HO21.out.below DE46.out)
                  have n1c : g1 ≠ Hc := by have := (HO21.out.lt g1 rfl).2; omega
                  rw [← hw46, hHc]
                  clear hw46 hHc
                  refine hK.out _ _ (HKX.out w46 BE46.out) (fun hHeld => ?_)
                  clear hK K
                  try simp only [List.getElem_toArray, List.getElem_cons_succ, List.getElem_cons_zero, Act.put, List.setIfInBounds_toArray, List.set_cons_zero, List.set_cons_succ]
                  refine wpAnyH_ready (rs := [7, 9]) (by kernel_rfl) (by simp) ?_
                  refine AllReadyH.cons rfl (fun K hK => ?_) (AllReadyH.cons rfl (fun K hK => ?_) AllReadyH.nil)
                  · skip
                    refine step_append_src14 w46 (by rfl) _ _ _ (by rfl) i0 _ Try.underlying51 HI.out iz0 iz1 iz2 rfl wr.heap.size g1 0 0 ([] : List (InsV × Value)) rfl (by rfl) HO46.out (some ⟨ga, oa, none⟩) m cu (q.take m) m (by omega) (by rfl) (HSA.out w46 BE46.out) (by omega) BE46.out.size ?_
                    intro g2 k2 w47 ho hg hat hlg
                    have BE47 := hide (BE46.out.grown hg BE46.out.size (fun k hk => by injection hk with hk; have := (HO46.out.lt g1 rfl).1; omega))
                    have HO47 := hide ho
                    have BXc47 := hide (show Box w47 Hc #[.int .i64 xo, .int .i64 xd, .int .i64 xa, .int .i64 xb, .int .i64 xn, .int .i64 xm, .slice A2 na c2] 50 from (hg.block Hc BXc46.out.lt (fun e => n1c (by injection e with e; omega))).trans BXc46.out)
                    have n2c : g2 ≠ Hc := by have := BXc46.out.lt; rcases hat with h | h <;> omega
                    clear ho hg hat hlg
                    refine hK.out _ _ (HKX.out w47 BE47.out) (fun hHeld => ?_)
                    clear hK K
                    try simp only [List.getElem_toArray, List.getElem_cons_succ, List.getElem_cons_zero, Act.put, List.setIfInBounds_toArray, List.set_cons_zero, List.set_cons_succ]
                    refine wpAnyH_ready (rs := [9]) (by kernel_rfl) (by simp) ?_
                    refine AllReadyH.cons rfl (fun K hK => ?_) AllReadyH.nil
                    · skip
                      rw [if_pos (by rfl)]
                      go_simp
                      obtain ⟨Hb, hHb⟩ : ∃ H, w47.heap.size = H := ⟨_, rfl⟩
                      obtain ⟨w48, hw48⟩ : ∃ wM, wM = w47.alloc (.cells #[.int .i64 24, .int .i64 0, .int .i64 0, .int .i64 0, .int .i64 0, .int .i64 0, .slice none 0 0] 50) := ⟨_, rfl⟩
                      have DE48 := hide (show Below w47.heap.size w47 w48 by rw [hw48]; exact alloc1 w47 _)
                      have BE48 := hide (BE47.out.trans (DE48.out.mono BE47.out.size))
                      have BXb48 := hide (show Box w48 Hb #[.int .i64 24, .int .i64 0, .int .i64 0, .int .i64 0, .int .i64 0, .int .i64 0, .slice none 0 0] 50 by rw [hw48, ← hHb]; exact Box.new w47 _ _)
                      have HO48 := hide (HO47.out.below DE48.out)
                      have n2b : g2 ≠ Hb := by have := (HO47.out.lt g2 rfl).2; omega
                      have BXc48 := hide (BXc47.out.below DE48.out)
                      rw [← hw48, hHb]
                      clear hw48 hHb
                      refine hK.out _ _ (HKX.out w48 BE48.out) (fun hHeld => ?_)
                      clear hK K
                      try simp only [List.getElem_toArray, List.getElem_cons_succ, List.getElem_cons_zero, Act.put, List.setIfInBounds_toArray, List.set_cons_zero, List.set_cons_succ]
                      refine wpAnyH_ready (rs := [10]) (by kernel_rfl) (by simp) ?_
                      refine AllReadyH.cons rfl (fun K hK => ?_) AllReadyH.nil
                      · skip
                        refine step_append_src14 w48 (by rfl) _ _ _ (by rfl) i0 _ Try.underlying51 HI.out iz0 iz1 iz2 rfl wr.heap.size g2 k2 m (q.take m) HQT.out (by rfl) HO48.out (some ⟨Hb, 0, none⟩) 1 1 [(pollI, Value.slice none 0 0)] (m + 1) (by omega) (by rfl) (srcPoll14 BXb48.out) (by omega) BE48.out.size ?_
                        intro g3 k3 w49 ho hg hat hlg
                        have BE49 := hide (BE48.out.grown hg BE48.out.size (fun k hk => by injection hk with hk; have := (HO48.out.lt g2 rfl).1; omega))
                        have HO49 := hide ho
                        have BXc49 := hide (show Box w49 Hc #[.int .i64 xo, .int .i64 xd, .int .i64 xa, .int .i64 xb, .int .i64 xn, .int .i64 xm, .slice A2 na c2] 50 from (hg.block Hc BXc48.out.lt (fun e => n2c (by injection e with e; omega))).trans BXc48.out)
                        have n3c : g3 ≠ Hc := by have := BXc48.out.lt; rcases hat with h | h <;> omega
                        clear ho hg hat hlg
                        refine hK.out _ _ (HKX.out w49 BE49.out) (fun hHeld => ?_)
                        clear hK K
                        try simp only [List.getElem_toArray, List.getElem_cons_succ, List.getElem_cons_zero, Act.put, List.setIfInBounds_toArray, List.set_cons_zero, List.set_cons_succ]
                        refine wpAnyH_ready (rs := [16]) (by kernel_rfl) (by simp) ?_
                        refine AllReadyH.cons rfl (fun K hK => ?_) AllReadyH.nil
                        · skip
                          refine step_append_src14 w49 (by rfl) _ _ _ (by rfl) i0 _ Try.underlying51 HI.out iz0 iz1 iz2 rfl wr.heap.size g3 k3 (m + 1) (q.take m ++ [(pollI, Value.slice none 0 0)]) HQT3.out (by rfl) HO49.out (some ⟨Hc, 0, none⟩) 1 1 [((⟨xo, xd, xa, xb, xn, xm, ags⟩ : InsV), Value.slice A2 na c2)] (m + 1 + 1) (by omega) (by rfl) (srcIns14 BXc49.out) (by omega) BE49.out.size ?_
                          intro g4 k4 w50 ho hg hat hlg
                          have BE50 := hide (BE49.out.grown hg BE49.out.size (fun k hk => by injection hk with hk; have := (HO49.out.lt g3 rfl).1; omega))
                          have HO50 := hide ho
                          clear ho hg hat hlg
                          refine hK.out _ _ (HKX.out w50 BE50.out) (fun hHeld => ?_)
                          clear hK K
                          try simp only [List.getElem_toArray, List.getElem_cons_succ, List.getElem_cons_zero, Act.put, List.setIfInBounds_toArray, List.set_cons_zero, List.set_cons_succ]
                          refine wpAnyH_take (i := 17) (v := ?_) rfl (by kernel_rfl) (by kernel_rfl) (by kernel_rfl) (fun _ _ _ h => h) (Or.inl ⟨by rfl, ?_⟩) (by assumption) ?_
                          rotate_left
                          focus
                            intro w hSw
                            try dsimp only at hSw
                            go_simp
                            try with_reducible rfl
                          try simp only [List.getElem_toArray, List.getElem_cons_succ, List.getElem_cons_zero, Act.put, List.setIfInBounds_toArray, List.set_cons_zero, List.set_cons_succ]
                          refine wpAnyH_take (i := 18) (v := ?_) rfl (by kernel_rfl) (by kernel_rfl) (by kernel_rfl) (fun _ _ _ h => h) (Or.inl ⟨by rfl, ?_⟩) (by assumption) ?_
                          rotate_left
                          focus
                            intro w hSw
                            try dsimp only at hSw
                            go_simp
                            try with_reducible rfl
                          try simp only [List.getElem_toArray, List.getElem_cons_succ, List.getElem_cons_zero, Act.put, List.setIfInBounds_toArray, List.set_cons_zero, List.set_cons_succ]
                          obtain ⟨c8, f8, lg8⟩ := HST.out w50 BE50.out
                          refine wpAnyH_ready (rs := [19]) (by kernel_rfl) (by simp) ?_
                          refine AllReadyH.cons rfl (fun K hK => ?_) AllReadyH.nil
                          rw [if_pos (by rfl)]
                          go_simp
                          obtain ⟨hs9, hr9⟩ := HEND.out w50 g4 k4 BE50.out HO50.out
                          have HR9 := hide hr9
                          clear hr9
                          refine hK.out _ _ hs9 (fun hHeld => ?_)
                          clear hK K
                          try simp only [List.getElem_toArray, List.getElem_cons_succ, List.getElem_cons_zero, Act.put, List.setIfInBounds_toArray, List.set_cons_zero, List.set_cons_succ]
                          refine wpAnyH_done (by kernel_rfl) ?_ _
                          clear hs9 hHeld c8 f8 lg8
                          go_wp2
                          go_roundw
                          case rel => exact ⟨k + 1, _, by have := HLT.out; omega, by go_num, HR9.out⟩
                          case measure => have := HLT.out; simp [intOf]; omega
                  · skip
                    rw [if_pos (by rfl)]
                    go_simp
                    obtain ⟨Hb, hHb⟩ : ∃ H, w46.heap.size = H := ⟨_, rfl⟩
                    obtain ⟨w51, hw51⟩ : ∃ wM, wM = w46.alloc (.cells #[.int .i64 24, .int .i64 0, .int .i64 0, .int .i64 0, .int .i64 0, .int .i64 0, .slice none 0 0] 50) := ⟨_, rfl⟩
                    have DE51 := hide (show Below w46.heap.size w46 w51 by rw [hw51]; exact alloc1 w46 _)
                    have BE51 := hide (BE46.out.trans (DE51.out.mono BE46.out.size))
                    have BXb51 := hide (show Box w51 Hb #[.int .i64 24, .int .i64 0, .int .i64 0, .int .i64 0, .int .i64 0, .int .i64 0, .slice none 0 0] 50 by rw [hw51, ← hHb]; exact Box.new w46 _ _)
                    have HO51 := hide (HO46.out.below DE51.out)
                    have n1b : g1 ≠ Hb := by have := (HO46.out.lt g1 rfl).2; omega
                    have BXc51 := hide (BXc46.out.below DE51.out)
                    rw [← hw51, hHb]
                    clear hw51 hHb
                    refine hK.out _ _ (HKX.out w51 BE51.out) (fun hHeld => ?_)
                    clear hK K
                    try simp only [List.getElem_toArray, List.getElem_cons_succ, List.getElem_cons_zero, Act.put, List.setIfInBounds_toArray, List.set_cons_zero, List.set_cons_succ]
                    refine wpAnyH_ready (rs := [7]) (by kernel_rfl) (by simp) ?_
                    refine AllReadyH.cons rfl (fun K hK => ?_) AllReadyH.nil
                    · skip
                      refine step_append_src14 w51 (by rfl) _ _ _ (by rfl) i0 _ Try.underlying51 HI.out iz0 iz1 iz2 rfl wr.heap.size g1 0 0 ([] : List (InsV × Value)) rfl (by rfl) HO51.out (some ⟨ga, oa, none⟩) m cu (q.take m) m (by omega) (by rfl) (HSA.out w51 BE51.out) (by omega) BE51.out.size ?_
                      intro g2 k2 w52 ho hg hat hlg
                      have BE52 := hide (BE51.out.grown hg BE51.out.size (fun k hk => by injection hk with hk; have := (HO51.out.lt g1 rfl).1; omega))
                      have HO52 := hide ho
                      have BXb52 := hide (show Box w52 Hb #[.int .i64 24, .int .i64 0, .int .i64 0, .int .i64 0, .int .i64 0, .int .i64 0, .slice none 0 0] 50 from (hg.block Hb BXb51.out.lt (fun e => n1b (by injection e with e; omega))).trans BXb51.out)
                      have n2b : g2 ≠ Hb := by have := BXb51.out.lt; rcases hat with h | h <;> omega
                      have BXc52 := hide (show Box w52 Hc #[.int .i64 xo, .int .i64 xd, .int .i64 xa, .int .i64 xb, .int .i64 xn, .int .i64 xm, .slice A2 na c2] 50 from (hg.block Hc BXc51.out.lt (fun e => n1c (by injection e with e; omega))).trans BXc51.out)
                      have n2c : g2 ≠ Hc := by have := BXc51.out.lt; rcases hat with h | h <;> omega
                      clear ho hg hat hlg
                      refine hK.out _ _ (HKX.out w52 BE52.out) (fun hHeld => ?_)
                      clear hK K
                      try simp only [List.getElem_toArray, List.getElem_cons_succ, List.getElem_cons_zero, Act.put, List.setIfInBounds_toArray, List.set_cons_zero, List.set_cons_succ]
                      refine wpAnyH_ready (rs := [10]) (by kernel_rfl) (by simp) ?_
                      refine AllReadyH.cons rfl (fun K hK => ?_) AllReadyH.nil
                      · skip
                        refine step_append_src14 w52 (by rfl) _ _ _ (by rfl) i0 _ Try.underlying51 HI.out iz0 iz1 iz2 rfl wr.heap.size g2 k2 m (q.take m) HQT.out (by rfl) HO52.out (some ⟨Hb, 0, none⟩) 1 1 [(pollI, Value.slice none 0 0)] (m + 1) (by omega) (by rfl) (srcPoll14 BXb52.out) (by omega) BE52.out.size ?_
                        intro g3 k3 w53 ho hg hat hlg
                        have BE53 := hide (BE52.out.grown hg BE52.out.size (fun k hk => by injection hk with hk; have := (HO52.out.lt g2 rfl).1; omega))
                        have HO53 := hide ho
                        have BXc53 := hide (show Box w53 Hc #[.int .i64 xo, .int .i64 xd, .int .i64 xa, .int .i64 xb, .int .i64 xn, .int .i64 xm, .slice A2 na c2] 50 from (hg.block Hc BXc52.out.lt (fun e => n2c (by injection e with e; omega))).trans BXc52.out)
                        have n3c : g3 ≠ Hc := by have := BXc52.out.lt; rcases hat with h | h <;> omega
                        clear ho hg hat hlg
                        refine hK.out _ _ (HKX.out w53 BE53.out) (fun hHeld => ?_)
                        clear hK K
                        try simp only [List.getElem_toArray, List.getElem_cons_succ, List.getElem_cons_zero, Act.put, List.setIfInBounds_toArray, List.set_cons_zero, List.set_cons_succ]
                        refine wpAnyH_ready (rs := [16]) (by kernel_rfl) (by simp) ?_
                        refine AllReadyH.cons rfl (fun K hK => ?_) AllReadyH.nil
                        · skip
                          refine step_append_src14 w53 (by rfl) _ _ _ (by rfl) i0 _ Try.underlying51 HI.out iz0 iz1 iz2 rfl wr.heap.size g3 k3 (m + 1) (q.take m ++ [(pollI, Value.slice none 0 0)]) HQT3.out (by rfl) HO53.out (some ⟨Hc, 0, none⟩) 1 1 [((⟨xo, xd, xa, xb, xn, xm, ags⟩ : InsV), Value.slice A2 na c2)] (m + 1 + 1) (by omega) (by rfl) (srcIns14 BXc53.out) (by omega) BE53.out.size ?_
                          intro g4 k4 w54 ho hg hat hlg
                          have BE54 := hide (BE53.out.grown hg BE53.out.size (fun k hk => by injection hk with hk; have := (HO53.out.lt g3 rfl).1; omega))
                          have HO54 := hide ho
                          clear ho hg hat hlg
                          refine hK.out _ _ (HKX.out w54 BE54.out) (fun hHeld => ?_)
                          clear hK K
                          try simp only [List.getElem_toArray, List.getElem_cons_succ, List.getElem_cons_zero, Act.put, List.setIfInBounds_toArray, List.set_cons_zero, List.set_cons_succ]
                          refine wpAnyH_take (i := 17) (v := ?_) rfl (by kernel_rfl) (by kernel_rfl) (by kernel_rfl) (fun _ _ _ h => h) (Or.inl ⟨by rfl, ?_⟩) (by assumption) ?_
                          rotate_left
                          focus
                            intro w hSw
                            try dsimp only at hSw
                            go_simp
                            try with_reducible rfl
                          try simp only [List.getElem_toArray, List.getElem_cons_succ, List.getElem_cons_zero, Act.put, List.setIfInBounds_toArray, List.set_cons_zero, List.set_cons_succ]
                          refine wpAnyH_take (i := 18) (v := ?_) rfl (by kernel_rfl) (by kernel_rfl) (by kernel_rfl) (fun _ _ _ h => h) (Or.inl ⟨by rfl, ?_⟩) (by assumption) ?_
                          rotate_left
                          focus
                            intro w hSw
                            try dsimp only at hSw
                            go_simp
                            try with_reducible rfl
                          try simp only [List.getElem_toArray, List.getElem_cons_succ, List.getElem_cons_zero, Act.put, List.setIfInBounds_toArray, List.set_cons_zero, List.set_cons_succ]
                          obtain ⟨c8, f8, lg8⟩ := HST.out w54 BE54.out
                          refine wpAnyH_ready (rs := [19]) (by kernel_rfl) (by simp) ?_
                          refine AllReadyH.cons rfl (fun K hK => ?_) AllReadyH.nil
                          rw [if_pos (by rfl)]
                          go_simp
                          obtain ⟨hs9, hr9⟩ := HEND.out w54 g4 k4 BE54.out HO54.out
                          have HR9 := hide hr9
                          clear hr9
                          refine hK.out _ _ hs9 (fun hHeld => ?_)
                          clear hK K
                          try simp only [List.getElem_toArray, List.getElem_cons_succ, List.getElem_cons_zero, Act.put, List.setIfInBounds_toArray, List.set_cons_zero, List.set_cons_succ]
                          refine wpAnyH_done (by kernel_rfl) ?_ _
                          clear hs9 hHeld c8 f8 lg8
                          go_wp2
                          go_roundw
                          case rel => exact ⟨k + 1, _, by have := HLT.out; omega, by go_num, HR9.out⟩
                          case measure => have := HLT.out; simp [intOf]; omega
              · skip
                rw [if_pos (by rfl)]
                go_simp
                obtain ⟨Hb, hHb⟩ : ∃ H, w20.heap.size = H := ⟨_, rfl⟩
                obtain ⟨w55, hw55⟩ : ∃ wM, wM = w20.alloc (.cells #[.int .i64 24, .int .i64 0, .int .i64 0, .int .i64 0, .int .i64 0, .int .i64 0, .slice none 0 0] 50) := ⟨_, rfl⟩
                have DE55 := hide (show Below w20.heap.size w20 w55 by rw [hw55]; exact alloc1 w20 _)
                have BE55 := hide (BE20.out.trans (DE55.out.mono BE20.out.size))
                have BXb55 := hide (show Box w55 Hb #[.int .i64 24, .int .i64 0, .int .i64 0, .int .i64 0, .int .i64 0, .int .i64 0, .slice none 0 0] 50 by rw [hw55, ← hHb]; exact Box.new w20 _ _)
                rw [← hw55, hHb]
                clear hw55 hHb
                refine hK.out _ _ (HKX.out w55 BE55.out) (fun hHeld => ?_)
                clear hK K
                try simp only [List.getElem_toArray, List.getElem_cons_succ, List.getElem_cons_zero, Act.put, List.setIfInBounds_toArray, List.set_cons_zero, List.set_cons_succ]
                refine wpAnyH_ready (rs := [3, 15]) (by kernel_rfl) (by simp) ?_
                refine AllReadyH.cons rfl (fun K hK => ?_) (AllReadyH.cons rfl (fun K hK => ?_) AllReadyH.nil)
                · skip
                  rw [if_pos (by rfl)]
                  go_simp
                  obtain ⟨g1, hg1⟩ : ∃ H, w55.heap.size = H := ⟨_, rfl⟩
                  obtain ⟨w56, hw56⟩ : ∃ wM, wM = w55.alloc (.cells #[] 50) := ⟨_, rfl⟩
                  have DE56 := hide (show Below w55.heap.size w55 w56 by rw [hw56]; exact alloc1 w55 _)
                  have BE56 := hide (BE55.out.trans (DE56.out.mono BE55.out.size))
                  have HO56 := hide (OwC.lit14 (show Box w56 g1 #[] 50 by rw [hw56, ← hg1]; exact Box.new w55 _ _) (show wr.heap.size ≤ g1 by rw [← hg1]; exact BE55.out.size))
                  have n1b : g1 ≠ Hb := by have := BXb55.out.lt; omega
                  have BXb56 := hide (BXb55.out.below DE56.out)
                  rw [← hw56, hg1]
                  clear hw56 hg1
                  refine hK.out _ _ (HKX.out w56 BE56.out) (fun hHeld => ?_)
                  clear hK K
                  try simp only [List.getElem_toArray, List.getElem_cons_succ, List.getElem_cons_zero, Act.put, List.setIfInBounds_toArray, List.set_cons_zero, List.set_cons_succ]
                  refine wpAnyH_ready (rs := [7, 15]) (by kernel_rfl) (by simp) ?_
                  refine AllReadyH.cons rfl (fun K hK => ?_) (AllReadyH.cons rfl (fun K hK => ?_) AllReadyH.nil)
                  · skip
                    refine step_append_src14 w56 (by rfl) _ _ _ (by rfl) i0 _ Try.underlying51 HI.out iz0 iz1 iz2 rfl wr.heap.size g1 0 0 ([] : List (InsV × Value)) rfl (by rfl) HO56.out (some ⟨ga, oa, none⟩) m cu (q.take m) m (by omega) (by rfl) (HSA.out w56 BE56.out) (by omega) BE56.out.size ?_
                    intro g2 k2 w57 ho hg hat hlg
                    have BE57 := hide (BE56.out.grown hg BE56.out.size (fun k hk => by injection hk with hk; have := (HO56.out.lt g1 rfl).1; omega))
                    have HO57 := hide ho
                    have BXb57 := hide (show Box w57 Hb #[.int .i64 24, .int .i64 0, .int .i64 0, .int .i64 0, .int .i64 0, .int .i64 0, .slice none 0 0] 50 from (hg.block Hb BXb56.out.lt (fun e => n1b (by injection e with e; omega))).trans BXb56.out)
                    have n2b : g2 ≠ Hb := by have := BXb56.out.lt; rcases hat with h | h <;> omega
                    clear ho hg hat hlg
                    refine hK.out _ _ (HKX.out w57 BE57.out) (fun hHeld => ?_)
                    clear hK K
                    try simp only [List.getElem_toArray, List.getElem_cons_succ, List.getElem_cons_zero, Act.put, List.setIfInBounds_toArray, List.set_cons_zero, List.set_cons_succ]
                    refine wpAnyH_ready (rs := [10, 15]) (by kernel_rfl) (by simp) ?_
                    refine AllReadyH.cons rfl (fun K hK => ?_) (AllReadyH.cons rfl (fun K hK => ?_) AllReadyH.nil)
                    · skip
                      refine step_append_src14 w57 (by rfl) _ _ _ (by rfl) i0 _ Try.underlying51 HI.out iz0 iz1 iz2 rfl wr.heap.size g2 k2 m (q.take m) HQT.out (by rfl) HO57.out (some ⟨Hb, 0, none⟩) 1 1 [(pollI, Value.slice none 0 0)] (m + 1) (by omega) (by rfl) (srcPoll14 BXb57.out) (by omega) BE57.out.size ?_
                      intro g3 k3 w58 ho hg hat hlg
                      have BE58 := hide (BE57.out.grown hg BE57.out.size (fun k hk => by injection hk with hk; have := (HO57.out.lt g2 rfl).1; omega))
                      have HO58 := hide ho
                      clear ho hg hat hlg
                      refine hK.out _ _ (HKX.out w58 BE58.out) (fun hHeld => ?_)
                      clear hK K
                      try simp only [List.getElem_toArray, List.getElem_cons_succ, List.getElem_cons_zero, Act.put, List.setIfInBounds_toArray, List.set_cons_zero, List.set_cons_succ]
                      refine wpAnyH_ready (rs := [15]) (by kernel_rfl) (by simp) ?_
                      refine AllReadyH.cons rfl (fun K hK => ?_) AllReadyH.nil
                      · skip
                        rw [if_pos (by rfl)]
                        go_simp
                        obtain ⟨Hc, hHc⟩ : ∃ H, w58.heap.size = H := ⟨_, rfl⟩
                        obtain ⟨w59, hw59⟩ : ∃ wM, wM = w58.alloc (.cells #[.int .i64 xo, .int .i64 xd, .int .i64 xa, .int .i64 xb, .int .i64 xn, .int .i64 xm, .slice A2 na c2] 50) := ⟨_, rfl⟩
                        have DE59 := hide (show Below w58.heap.size w58 w59 by rw [hw59]; exact alloc1 w58 _)
                        have BE59 := hide (BE58.out.trans (DE59.out.mono BE58.out.size))
                        have BXc59 := hide (show Box w59 Hc #[.int .i64 xo, .int .i64 xd, .int .i64 xa, .int .i64 xb, .int .i64 xn, .int .i64 xm, .slice A2 na c2] 50 by rw [hw59, ← hHc]; exact Box.new w58 _ _)
                        have HO59 := hide (HO58.out.below DE59.out)
                        have n3c : g3 ≠ Hc := by have := (HO58.out.lt g3 rfl).2; omega
                        rw [← hw59, hHc]
                        clear hw59 hHc
                        refine hK.out _ _ (HKX.out w59 BE59.out) (fun hHeld => ?_)
                        clear hK K
                        try simp only [List.getElem_toArray, List.getElem_cons_succ, List.getElem_cons_zero, Act.put, List.setIfInBounds_toArray, List.set_cons_zero, List.set_cons_succ]
                        refine wpAnyH_ready (rs := [16]) (by kernel_rfl) (by simp) ?_
                        refine AllReadyH.cons rfl (fun K hK => ?_) AllReadyH.nil
                        · skip
                          refine step_append_src14 w59 (by rfl) _ _ _ (by rfl) i0 _ Try.underlying51 HI.out iz0 iz1 iz2 rfl wr.heap.size g3 k3 (m + 1) (q.take m ++ [(pollI, Value.slice none 0 0)]) HQT3.out (by rfl) HO59.out (some ⟨Hc, 0, none⟩) 1 1 [((⟨xo, xd, xa, xb, xn, xm, ags⟩ : InsV), Value.slice A2 na c2)] (m + 1 + 1) (by omega) (by rfl) (srcIns14 BXc59.out) (by omega) BE59.out.size ?_
                          intro g4 k4 w60 ho hg hat hlg
                          have BE60 := hide (BE59.out.grown hg BE59.out.size (fun k hk => by injection hk with hk; have := (HO59.out.lt g3 rfl).1; omega))
                          have HO60 := hide ho
                          clear ho hg hat hlg
                          refine hK.out _ _ (HKX.out w60 BE60.out) (fun hHeld => ?_)
                          clear hK K
                          try simp only [List.getElem_toArray, List.getElem_cons_succ, List.getElem_cons_zero, Act.put, List.setIfInBounds_toArray, List.set_cons_zero, List.set_cons_succ]
                          refine wpAnyH_take (i := 17) (v := ?_) rfl (by kernel_rfl) (by kernel_rfl) (by kernel_rfl) (fun _ _ _ h => h) (Or.inl ⟨by rfl, ?_⟩) (by assumption) ?_
                          rotate_left
                          focus
                            intro w hSw
                            try dsimp only at hSw
                            go_simp
                            try with_reducible rfl
                          try simp only [List.getElem_toArray, List.getElem_cons_succ, List.getElem_cons_zero, Act.put, List.setIfInBounds_toArray, List.set_cons_zero, List.set_cons_succ]
                          refine wpAnyH_take (i := 18) (v := ?_) rfl (by kernel_rfl) (by kernel_rfl) (by kernel_rfl) (fun _ _ _ h => h) (Or.inl ⟨by rfl, ?_⟩) (by assumption) ?_
                          rotate_left
                          focus
                            intro w hSw
                            try dsimp only at hSw
                            go_simp
                            try with_reducible rfl
                          try simp only [List.getElem_toArray, List.getElem_cons_succ, List.getElem_cons_zero, Act.put, List.setIfInBounds_toArray, List.set_cons_zero, List.set_cons_succ]
                          obtain ⟨c8, f8, lg8⟩ := HST.out w60 BE60.out
                          refine wpAnyH_ready (rs := [19]) (by kernel_rfl) (by simp) ?_
                          refine AllReadyH.cons rfl (fun K hK => ?_) AllReadyH.nil
                          rw [if_pos (by rfl)]
                          go_simp
                          obtain ⟨hs9, hr9⟩ := HEND.out w60 g4 k4 BE60.out HO60.out
                          have HR9 := hide hr9
                          clear hr9
                          refine hK.out _ _ hs9 (fun hHeld => ?_)
                          clear hK K
                          try simp only [List.getElem_toArray, List.getElem_cons_succ, List.getElem_cons_zero, Act.put, List.setIfInBounds_toArray, List.set_cons_zero, List.set_cons_succ]
                          refine wpAnyH_done (by kernel_rfl) ?_ _
                          clear hs9 hHeld c8 f8 lg8
                          go_wp2
                          go_roundw
                          case rel => exact ⟨k + 1, _, by have := HLT.out; omega, by go_num, HR9.out⟩
                          case measure => have := HLT.out; simp [intOf]; omega
                    · skip
                      rw [if_pos (by rfl)]
                      go_simp
                      obtain ⟨Hc, hHc⟩ : ∃ H, w57.heap.size = H := ⟨_, rfl⟩
                      obtain ⟨w61, hw61⟩ : ∃ wM, wM = w57.alloc (.cells #[.int .i64 xo, .int .i64 xd, .int .i64 xa, .int .i64 xb, .int .i64 xn, .int .i64 xm, .slice A2 na c2] 50) := ⟨_, rfl⟩
                      have DE61 := hide (show Below w57.heap.size w57 w61 by rw [hw61]; exact alloc1 w57 _)
                      have BE61 := hide (BE57.out.trans (DE61.out.mono BE57.out.size))
                      have BXc61 := hide (show Box w61 Hc #[.int .i64 xo, .int .i64 xd, .int .i64 xa, .int .i64 xb, .int .i64 xn, .int .i64 xm, .slice A2 na c2] 50 by rw [hw61, ← hHc]; exact Box.new w57 _ _)
                      have HO61 := hide (HO57.out.below DE61.out)
                      have n2c : g2 ≠ Hc := by have := (HO57.out.lt g2 rfl).2; omega
                      have BXb61 := hide (BXb57.out.below DE61.out)
                      rw [← hw61, hHc]
                      clear hw61 hHc
                      refine hK.out _ _ (HKX.out w61 BE61.out) (fun hHeld => ?_)
                      clear hK K
                      try simp only [List.getElem_toArray, List.getElem_cons_succ, List.getElem_cons_zero, Act.put, List.setIfInBounds_toArray, List.set_cons_zero, List.set_cons_succ]
                      refine wpAnyH_ready (rs := [10]) (by kernel_rfl) (by simp) ?_
                      refine AllReadyH.cons rfl (fun K hK => ?_) AllReadyH.nil
                      · skip
                        refine step_append_src14 w61 (by rfl) _ _ _ (by rfl) i0 _ Try.underlying51 HI.out iz0 iz1 iz2 rfl wr.heap.size g2 k2 m (q.take m) HQT.out (by rfl) HO61.out (some ⟨Hb, 0, none⟩) 1 1 [(pollI, Value.slice none 0 0)] (m + 1) (by omega) (by rfl) (srcPoll14 BXb61.out) (by omega) BE61.out.size ?_
                        intro g3 k3 w62 ho hg hat hlg
                        have BE62 := hide (BE61.out.grown hg BE61.out.size (fun k hk => by injection hk with hk; have := (HO61.out.lt g2 rfl).1; omega))
                        have HO62 := hide ho
                        have BXc62 := hide (show Box w62 Hc #[.int .i64 xo, .int .i64 xd, .int .i64 xa, .int .i64 xb, .int .i64 xn, .int .i64 xm, .slice A2 na c2] 50 from (hg.block Hc BXc61.out.lt (fun e => n2c (by injection e with e; omega))).trans BXc61.out)
                        have n3c : g3 ≠ Hc := by have := BXc61.out.lt; rcases hat with h | h <;> omega
                        clear ho hg hat hlg
                        refine hK.out _ _ (HKX.out w62 BE62.out) (fun hHeld => ?_)
                        clear hK K
                        try simp only [List.getElem_toArray, List.getElem_cons_succ, List.getElem_cons_zero, Act.put, List.setIfInBounds_toArray, List.set_cons_zero, List.set_cons_succ]
                        refine wpAnyH_ready (rs := [16]) (by kernel_rfl) (by simp) ?_
                        refine AllReadyH.cons rfl (fun K hK => ?_) AllReadyH.nil
                        · skip
                          refine step_append_src14 w62 (by rfl) _ _ _ (by rfl) i0 _ Try.underlying51 HI.out iz0 iz1 iz2 rfl wr.heap.size g3 k3 (m + 1) (q.take m ++ [(pollI, Value.slice none 0 0)]) HQT3.out (by rfl) HO62.out (some ⟨Hc, 0, none⟩) 1 1 [((⟨xo, xd, xa, xb, xn, xm, ags⟩ : InsV), Value.slice A2 na c2)] (m + 1 + 1) (by omega) (by rfl) (srcIns14 BXc62.out) (by omega) BE62.out.size ?_
                          intro g4 k4 w63 ho hg hat hlg
                          have BE63 := hide (BE62.out.grown hg BE62.out.size (fun k hk => by injection hk with hk; have := (HO62.out.lt g3 rfl).1; omega))
                          have HO63 := hide ho
                          clear ho hg hat hlg
                          refine hK.out _ _ (HKX.out w63 BE63.out) (fun hHeld => ?_)
                          clear hK K
                          try simp only [List.getElem_toArray, List.getElem_cons_succ, List.getElem_cons_zero, Act.put, List.setIfInBounds_toArray, List.set_cons_zero, List.set_cons_succ]
                          refine wpAnyH_take (i := 17) (v := ?_) rfl (by kernel_rfl) (by kernel_rfl) (by kernel_rfl) (fun _ _ _ h => h) (Or.inl ⟨by rfl, ?_⟩) (by assumption) ?_
                          rotate_left
                          focus
                            intro w hSw
                            try dsimp only at hSw
                            go_simp
                            try with_reducible rfl
                          try simp only [List.getElem_toArray, List.getElem_cons_succ, List.getElem_cons_zero, Act.put, List.setIfInBounds_toArray, List.set_cons_zero, List.set_cons_succ]
                          refine wpAnyH_take (i := 18) (v := ?_) rfl (by kernel_rfl) (by kernel_rfl) (by kernel_rfl) (fun _ _ _ h => h) (Or.inl ⟨by rfl, ?_⟩) (by assumption) ?_
                          rotate_left
                          focus
                            intro w hSw
                            try dsimp only at hSw
                            go_simp
                            try with_reducible rfl
                          try simp only [List.getElem_toArray, List.getElem_cons_succ, List.getElem_cons_zero, Act.put, List.setIfInBounds_toArray, List.set_cons_zero, List.set_cons_succ]
                          obtain ⟨c8, f8, lg8⟩ := HST.out w63 BE63.out
                          refine wpAnyH_ready (rs := [19]) (by kernel_rfl) (by simp) ?_
                          refine AllReadyH.cons rfl (fun K hK => ?_) AllReadyH.nil
                          rw [if_pos (by rfl)]
                          go_simp
                          obtain ⟨hs9, hr9⟩ := HEND.out w63 g4 k4 BE63.out HO63.out
                          have HR9 := hide hr9
                          clear hr9
                          refine hK.out _ _ hs9 (fun hHeld => ?_)
                          clear hK K
                          try simp only [List.getElem_toArray, List.getElem_cons_succ, List.getElem_cons_zero, Act.put, List.setIfInBounds_toArray, List.set_cons_zero, List.set_cons_succ]
                          refine wpAnyH_done (by kernel_rfl) ?_ _
                          clear hs9 hHeld c8 f8 lg8
                          go_wp2
                          go_roundw
                          case rel => exact ⟨k + 1, _, by have := HLT.out; omega, by go_num, HR9.out⟩
                          case measure => have := HLT.out; simp [intOf]; omega
                  · skip
                    rw [if_pos (by rfl)]
                    go_simp
                    obtain ⟨Hc, hHc⟩ : ∃ H, w56.heap.size = H := ⟨_, rfl⟩
                    obtain ⟨w64, hw64⟩ : ∃ wM, wM = w56.alloc (.cells #[.int .i64 xo, .int .i64 xd, .int .i64 xa, .int .i64 xb, .int .i64 xn, .int .i64 xm, .slice A2 na c2] 50) := ⟨_, rfl⟩
                    have DE64 := hide (show Below w56.heap.size w56 w64 by rw [hw64]; exact alloc1 w56 _)
                    have BE64 := hide (BE56.out.trans (DE64.out.mono BE56.out.size))
                    have BXc64 := hide (show Box w64 Hc #[.int .i64 xo, .int .i64 xd, .int .i64 xa, .int .i64 xb, .int .i64 xn, .int .i64 xm, .slice A2 na c2] 50 by rw [hw64, ← hHc]; exact Box.new w56 _ _)
                    have HO64 := hide (HO56.out.below DE64.out)
                    have n1c : g1 ≠ Hc := by have := (HO56.out.lt g1 rfl).2; omega
                    have BXb64 := hide (BXb56.out.below DE64.out)
                    rw [← hw64, hHc]
                    clear hw64 hHc
                    refine hK.out _ _ (HKX.out w64 BE64.out) (fun hHeld => ?_)
                    clear hK K
                    try simp only [List.getElem_toArray, List.getElem_cons_succ, List.getElem_cons_zero, Act.put, List.setIfInBounds_toArray, List.set_cons_zero, List.set_cons_succ]
                    refine wpAnyH_ready (rs := [7]) (by kernel_rfl) (by simp) ?_
                    refine AllReadyH.cons rfl (fun K hK => ?_) AllReadyH.nil
                    · skip
                      refine step_append_src14 w64 (by rfl) _ _ _ (by rfl) i0 _ Try.underlying51 HI.out iz0 iz1 iz2 rfl wr.heap.size g1 0 0 ([] : List (InsV × Value)) rfl (by rfl) HO64.out (some ⟨ga, oa, none⟩) m cu (q.take m) m (by omega) (by rfl) (HSA.out w64 BE64.out) (by omega) BE64.out.size ?_
                      intro g2 k2 w65 ho hg hat hlg
                      have BE65 := hide (BE64.out.grown hg BE64.out.size (fun k hk => by injection hk with hk; have := (HO64.out.lt g1 rfl).1; omega))
                      have HO65 := hide ho
                      have BXb65 := hide (show Box w65 Hb #[.int .i64 24, .int .i64 0, .int .i64 0, .int .i64 0, .int .i64 0, .int .i64 0, .slice none 0 0] 50 from (hg.block Hb BXb64.out.lt (fun e => n1b (by injection e with e; omega))).trans BXb64.out)
                      have n2b : g2 ≠ Hb := by have := BXb64.out.lt; rcases hat with h | h <;> omega
                      have BXc65 := hide (show Box w65 Hc #[.int .i64 xo, .int .i64 xd, .int .i64 xa, .int .i64 xb, .int .i64 xn, .int .i64 xm, .slice A2 na c2] 50 from (hg.block Hc BXc64.out.lt (fun e => n1c (by injection e with e; omega))).trans BXc64.out)
                      have n2c : g2 ≠ Hc := by have := BXc64.out.lt; rcases hat with h | h <;> omega
                      clear ho hg hat hlg
                      refine hK.out _ _ (HKX.out w65 BE65.out) (fun hHeld => ?_)
                      clear hK K
                      try simp only [List.getElem_toArray, List.getElem_cons_succ, List.getElem_cons_zero, Act.put, List.setIfInBounds_toArray, List.set_cons_zero, List.set_cons_succ]
                      refine wpAnyH_ready (rs := [10]) (by kernel_rfl) (by simp) ?_
                      refine AllReadyH.cons rfl (fun K hK => ?_) AllReadyH.nil
                      · skip
                        refine step_append_src14 w65 (by rfl) _ _ _ (by rfl) i0 _ Try.underlying51 HI.out iz0 iz1 iz2 rfl wr.heap.size g2 k2 m (q.take m) HQT.out (by rfl) HO65.out (some ⟨Hb, 0, none⟩) 1 1 [(pollI, Value.slice none 0 0)] (m + 1) (by omega) (by rfl) (srcPoll14 BXb65.out) (by omega) BE65.out.size ?_
                        intro g3 k3 w66 ho hg hat hlg
                        have BE66 := hide (BE65.out.grown hg BE65.out.size (fun k hk => by injection hk with hk; have := (HO65.out.lt g2 rfl).1; omega))
                        have HO66 := hide ho
                        have BXc66 := hide (show Box w66 Hc #[.int .i64 xo, .int .i64 xd, .int .i64 xa, .int .i64 xb, .int .i64 xn, .int .i64 xm, .slice A2 na c2] 50 from (hg.block Hc BXc65.out.lt (fun e => n2c (by injection e with e; omega))).trans BXc65.out)
                        have n3c : g3 ≠ Hc := by have := BXc65.out.lt; rcases hat with h | h <;> omega
                        clear ho hg hat hlg
                        refine hK.out _ _ (HKX.out w66 BE66.out) (fun hHeld => ?_)
                        clear hK K
                        try simp only [List.getElem_toArray, List.getElem_cons_succ, List.getElem_cons_zero, Act.put, List.setIfInBounds_toArray, List.set_cons_zero, List.set_cons_succ]
                        refine wpAnyH_ready (rs := [16]) (by kernel_rfl) (by simp) ?_
                        refine AllReadyH.cons rfl (fun K hK => ?_) AllReadyH.nil
                        · skip
                          refine step_append_src14 w66 (by rfl) _ _ _ (by rfl) i0 _ Try.underlying51 HI.out iz0 iz1 iz2 rfl wr.heap.size g3 k3 (m + 1) (q.take m ++ [(pollI, Value.slice none 0 0)]) HQT3.out (by rfl) HO66.out (some ⟨Hc, 0, none⟩) 1 1 [((⟨xo, xd, xa, xb, xn, xm, ags⟩ : InsV), Value.slice A2 na c2)] (m + 1 + 1) (by omega) (by rfl) (srcIns14 BXc66.out) (by omega) BE66.out.size ?_
                          intro g4 k4 w67 ho hg hat hlg
                          have BE67 := hide (BE66.out.grown hg BE66.out.size (fun k hk => by injection hk with hk; have := (HO66.out.lt g3 rfl).1; omega))
                          have HO67 := hide ho
                          clear ho hg hat hlg
                          refine hK.out _ _ (HKX.out w67 BE67.out) (fun hHeld => ?_)
                          clear hK K
                          try simp only [List.getElem_toArray, List.getElem_cons_succ, List.getElem_cons_zero, Act.put, List.setIfInBounds_toArray, List.set_cons_zero, List.set_cons_succ]
                          refine wpAnyH_take (i := 17) (v := ?_) rfl (by kernel_rfl) (by kernel_rfl) (by kernel_rfl) (fun _ _ _ h => h) (Or.inl ⟨by rfl, ?_⟩) (by assumption) ?_
                          rotate_left
                          focus
                            intro w hSw
                            try dsimp only at hSw
                            go_simp
                            try with_reducible rfl
                          try simp only [List.getElem_toArray, List.getElem_cons_succ, List.getElem_cons_zero, Act.put, List.setIfInBounds_toArray, List.set_cons_zero, List.set_cons_succ]
                          refine wpAnyH_take (i := 18) (v := ?_) rfl (by kernel_rfl) (by kernel_rfl) (by kernel_rfl) (fun _ _ _ h => h) (Or.inl ⟨by rfl, ?_⟩) (by assumption) ?_
                          rotate_left
                          focus
                            intro w hSw
                            try dsimp only at hSw
                            go_simp
                            try with_reducible rfl
                          try simp only [List.getElem_toArray, List.getElem_cons_succ, List.getElem_cons_zero, Act.put, List.setIfInBounds_toArray, List.set_cons_zero, List.set_cons_succ]
                          obtain ⟨c8, f8, lg8⟩ := HST.out w67 BE67.out
                          refine wpAnyH_ready (rs := [19]) (by kernel_rfl) (by simp) ?_
                          refine AllReadyH.cons rfl (fun K hK => ?_) AllReadyH.nil
                          rw [if_pos (by rfl)]
                          go_simp
                          obtain ⟨hs9, hr9⟩ := HEND.out w67 g4 k4 BE67.out HO67.out
                          have HR9 := hide hr9
                          clear hr9
                          refine hK.out _ _ hs9 (fun hHeld => ?_)
                          clear hK K
                          try simp only [List.getElem_toArray, List.getElem_cons_succ, List.getElem_cons_zero, Act.put, List.setIfInBounds_toArray, List.set_cons_zero, List.set_cons_succ]
                          refine wpAnyH_done (by kernel_rfl) ?_ _
                          clear hs9 hHeld c8 f8 lg8
                          go_wp2
                          go_roundw
                          case rel => exact ⟨k + 1, _, by have := HLT.out; omega, by go_num, HR9.out⟩
                          case measure => have := HLT.out; simp [intOf]; omega
                · skip
                  rw [if_pos (by rfl)]
                  go_simp
                  obtain ⟨Hc, hHc⟩ : ∃ H, w55.heap.size = H := ⟨_, rfl⟩
                  obtain ⟨w68, hw68⟩ : ∃ wM, wM = w55.alloc (.cells #[.int .i64 xo, .int .i64 xd, .int .i64 xa, .int .i64 xb, .int .i64 xn, .int .i64 xm, .slice A2 na c2] 50) := ⟨_, rfl⟩
                  have DE68 := hide (show Below w55.heap.size w55 w68 by rw [hw68]; exact alloc1 w55 _)
                  have BE68 := hide (BE55.out.trans (DE68.out.mono BE55.out.size))
                  have BXc68 := hide (show Box w68 Hc #[.int .i64 xo, .int .i64 xd, .int .i64 xa, .int .i64 xb, .int .i64 xn, .int .i64 xm, .slice A2 na c2] 50 by rw [hw68, ← hHc]; exact Box.new w55 _ _)
                  have BXb68 := hide (BXb55.out.below DE68.out)
                  rw [← hw68, hHc]
                  clear hw68 hHc
                  refine hK.out _ _ (HKX.out w68 BE68.out) (fun hHeld => ?_)
                  clear hK K
                  try simp only [List.getElem_toArray, List.getElem_cons_succ, List.getElem_cons_zero, Act.put, List.setIfInBounds_toArray, List.set_cons_zero, List.set_cons_succ]
                  refine wpAnyH_ready (rs := [3]) (by kernel_rfl) (by simp) ?_
                  refine AllReadyH.cons rfl (fun K hK => ?_) AllReadyH.nil
                  · skip
                    rw [if_pos (by rfl)]
                    go_simp
                    obtain ⟨g1, hg1⟩ : ∃ H, w68.heap.size = H := ⟨_, rfl⟩
                    obtain ⟨w69, hw69⟩ : ∃ wM, wM = w68.alloc (.cells #[] 50) := ⟨_, rfl⟩
                    have DE69 := hide (show Below w68.heap.size w68 w69 by rw [hw69]; exact alloc1 w68 _)
                    have BE69 := hide (BE68.out.trans (DE69.out.mono BE68.out.size))
                    have HO69 := hide (OwC.lit14 (show Box w69 g1 #[] 50 by rw [hw69, ← hg1]; exact Box.new w68 _ _) (show wr.heap.size ≤ g1 by rw [← hg1]; exact BE68.out.size))
                    have n1b : g1 ≠ Hb := by have := BXb68.out.lt; omega
                    have n1c : g1 ≠ Hc := by have := BXc68.out.lt; omega
                    have BXb69 := hide (BXb68.out.below DE69.out)
                    have BXc69 := hide (BXc68.out.below DE69.out)
                    rw [← hw69, hg1]
                    clear hw69 hg1
                    refine hK.out _ _ (HKX.out w69 BE69.out) (fun hHeld => ?_)
                    clear hK K
                    try simp only [List.getElem_toArray, List.getElem_cons_succ, List.getElem_cons_zero, Act.put, List.setIfInBounds_toArray, List.set_cons_zero, List.set_cons_succ]
                    refine wpAnyH_ready (rs := [7]) (by kernel_rfl) (by simp) ?_
                    refine AllReadyH.cons rfl (fun K hK => ?_) AllReadyH.nil
                    · skip
                      refine step_append_src14 w69 (by rfl) _ _ _ (by rfl) i0 _ Try.underlying51 HI.out iz0 iz1 iz2 rfl wr.heap.size g1 0 0 ([] : List (InsV × Value)) rfl (by rfl) HO69.out (some ⟨ga, oa, none⟩) m cu (q.take m) m (by omega) (by rfl) (HSA.out w69 BE69.out) (by omega) BE69.out.size ?_
                      intro g2 k2 w70 ho hg hat hlg
                      have BE70 := hide (BE69.out.grown hg BE69.out.size (fun k hk => by injection hk with hk; have := (HO69.out.lt g1 rfl).1; omega))
                      have HO70 := hide ho
                      have BXb70 := hide (show Box w70 Hb #[.int .i64 24, .int .i64 0, .int .i64 0, .int .i64 0, .int .i64 0, .int .i64 0, .slice none 0 0] 50 from (hg.block Hb BXb69.out.lt (fun e => n1b (by injection e with e; omega))).trans BXb69.out)
                      have n2b : g2 ≠ Hb := by have := BXb69.out.lt; rcases hat with h | h <;> omega
                      have BXc70 := hide (show Box w70 Hc #[.int .i64 xo, .int .i64 xd, .int .i64 xa, .int .i64 xb, .int .i64 xn, .int .i64 xm, .slice A2 na c2] 50 from (hg.block Hc BXc69.out.lt (fun e => n1c (by injection e with e; omega))).trans BXc69.out)
                      have n2c : g2 ≠ Hc := by have := BXc69.out.lt; rcases hat with h | h <;> omega
                      clear ho hg hat hlg
                      refine hK.out _ _ (HKX.out w70 BE70.out) (fun hHeld => ?_)
                      clear hK K
                      try simp only [List.getElem_toArray, List.getElem_cons_succ, List.getElem_cons_zero, Act.put, List.setIfInBounds_toArray, List.set_cons_zero, List.set_cons_succ]
                      refine wpAnyH_ready (rs := [10]) (by kernel_rfl) (by simp) ?_
                      refine AllReadyH.cons rfl (fun K hK => ?_) AllReadyH.nil
                      · skip
                        refine step_append_src14 w70 (by rfl) _ _ _ (by rfl) i0 _ Try.underlying51 HI.out iz0 iz1 iz2 rfl wr.heap.size g2 k2 m (q.take m) HQT.out (by rfl) HO70.out (some ⟨Hb, 0, none⟩) 1 1 [(pollI, Value.slice none 0 0)] (m + 1) (by omega) (by rfl) (srcPoll14 BXb70.out) (by omega) BE70.out.size ?_
                        intro g3 k3 w71 ho hg hat hlg
                        have BE71 := hide (BE70.out.grown hg BE70.out.size (fun k hk => by injection hk with hk; have := (HO70.out.lt g2 rfl).1; omega))
                        have HO71 := hide ho
                        have BXc71 := hide (show Box w71 Hc #[.int .i64 xo, .int .i64 xd, .int .i64 xa, .int .i64 xb, .int .i64 xn, .int .i64 xm, .slice A2 na c2] 50 from (hg.block Hc BXc70.out.lt (fun e => n2c (by injection e with e; omega))).trans BXc70.out)
                        have n3c : g3 ≠ Hc := by have := BXc70.out.lt; rcases hat with h | h <;> omega
                        clear ho hg hat hlg
                        refine hK.out _ _ (HKX.out w71 BE71.out) (fun hHeld => ?_)
                        clear hK K
                        try simp only [List.getElem_toArray, List.getElem_cons_succ, List.getElem_cons_zero, Act.put, List.setIfInBounds_toArray, List.set_cons_zero, List.set_cons_succ]
                        refine wpAnyH_ready (rs := [16]) (by kernel_rfl) (by simp) ?_
                        refine AllReadyH.cons rfl (fun K hK => ?_) AllReadyH.nil
                        · skip
                          refine step_append_src14 w71 (by rfl) _ _ _ (by rfl) i0 _ Try.underlying51 HI.out iz0 iz1 iz2 rfl wr.heap.size g3 k3 (m + 1) (q.take m ++ [(pollI, Value.slice none 0 0)]) HQT3.out (by rfl) HO71.out (some ⟨Hc, 0, none⟩) 1 1 [((⟨xo, xd, xa, xb, xn, xm, ags⟩ : InsV), Value.slice A2 na c2)] (m + 1 + 1) (by omega) (by rfl) (srcIns14 BXc71.out) (by omega) BE71.out.size ?_
                          intro g4 k4 w72 ho hg hat hlg
                          have BE72 := hide (BE71.out.grown hg BE71.out.size (fun k hk => by injection hk with hk; have := (HO71.out.lt g3 rfl).1; omega))
                          have HO72 := hide ho
                          clear ho hg hat hlg
                          refine hK.out _ _ (HKX.out w72 BE72.out) (fun hHeld => ?_)
                          clear hK K
                          try simp only [List.getElem_toArray, List.getElem_cons_succ, List.getElem_cons_zero, Act.put, List.setIfInBounds_toArray, List.set_cons_zero, List.set_cons_succ]
                          refine wpAnyH_take (i := 17) (v := ?_) rfl (by kernel_rfl) (by kernel_rfl) (by kernel_rfl) (fun _ _ _ h => h) (Or.inl ⟨by rfl, ?_⟩) (by assumption) ?_
                          rotate_left
                          focus
                            intro w hSw
                            try dsimp only at hSw
                            go_simp
                            try with_reducible rfl
                          try simp only [List.getElem_toArray, List.getElem_cons_succ, List.getElem_cons_zero, Act.put, List.setIfInBounds_toArray, List.set_cons_zero, List.set_cons_succ]
                          refine wpAnyH_take (i := 18) (v := ?_) rfl (by kernel_rfl) (by kernel_rfl) (by kernel_rfl) (fun _ _ _ h => h) (Or.inl ⟨by rfl, ?_⟩) (by assumption) ?_
                          rotate_left
                          focus
                            intro w hSw
                            try dsimp only at hSw
                            go_simp
                            try with_reducible rfl
                          try simp only [List.getElem_toArray, List.getElem_cons_succ, List.getElem_cons_zero, Act.put, List.setIfInBounds_toArray, List.set_cons_zero, List.set_cons_succ]
                          obtain ⟨c8, f8, lg8⟩ := HST.out w72 BE72.out
                          refine wpAnyH_ready (rs := [19]) (by kernel_rfl) (by simp) ?_
                          refine AllReadyH.cons rfl (fun K hK => ?_) AllReadyH.nil
                          rw [if_pos (by rfl)]
                          go_simp
                          obtain ⟨hs9, hr9⟩ := HEND.out w72 g4 k4 BE72.out HO72.out
                          have HR9 := hide hr9
                          clear hr9
                          refine hK.out _ _ hs9 (fun hHeld => ?_)
                          clear hK K
                          try simp only [List.getElem_toArray, List.getElem_cons_succ, List.getElem_cons_zero, Act.put, List.setIfInBounds_toArray, List.set_cons_zero, List.set_cons_succ]
                          refine wpAnyH_done (by kernel_rfl) ?_ _
                          clear hs9 hHeld c8 f8 lg8
                          go_wp2
                          go_roundw
                          case rel => exact ⟨k + 1, _, by have := HLT.out; omega, by go_num, HR9.out⟩
                          case measure => have := HLT.out; simp [intOf]; omega
              · skip
                rw [if_pos (by rfl)]
                go_simp
                obtain ⟨Hc, hHc⟩ : ∃ H, w20.heap.size = H := ⟨_, rfl⟩
                obtain ⟨w73, hw73⟩ : ∃ wM, wM = w20.alloc (.cells #[.int .i64 xo, .int .i64 xd, .int .i64 xa, .int .i64 xb, .int .i64 xn, .int .i64 xm, .slice A2 na c2] 50) := ⟨_, rfl⟩
                have DE73 := hide (show Below w20.heap.size w20 w73 by rw [hw73]; exact alloc1 w20 _)
                have BE73 := hide (BE20.out.trans (DE73.out.mono BE20.out.size))
                have BXc73 := hide (show Box w73 Hc #[.int .i64 xo, .int .i64 xd, .int .i64 xa, .int .i64 xb, .int .i64 xn, .int .i64 xm, .slice A2 na c2] 50 by rw [hw73, ← hHc]; exact Box.new w20 _ _)
                rw [← hw73, hHc]
                clear hw73 hHc
                refine hK.out _ _ (HKX.out w73 BE73.out) (fun hHeld => ?_)
                clear hK K
                try simp only [List.getElem_toArray, List.getElem_cons_succ, List.getElem_cons_zero, Act.put, List.setIfInBounds_toArray, List.set_cons_zero, List.set_cons_succ]
                refine wpAnyH_ready (rs := [3, 9]) (by kernel_rfl) (by simp) ?_
                refine AllReadyH.cons rfl (fun K hK => ?_) (AllReadyH.cons rfl (fun K hK => ?_) AllReadyH.nil)
                · skip
                  rw [if_pos (by rfl)]
                  go_simp
                  obtain ⟨g1, hg1⟩ : ∃ H, w73.heap.size = H := ⟨_, rfl⟩
                  obtain ⟨w74, hw74⟩ : ∃ wM, wM = w73.alloc (.cells #[] 50) := ⟨_, rfl⟩
                  have DE74 := hide (show Below w73.heap.size w73 w74 by rw [hw74]; exact alloc1 w73 _)
                  have BE74 := hide (BE73.out.trans (DE74.out.mono BE73.out.size))
                  have HO74 := hide (OwC.lit14 (show Box w74 g1 #[] 50 by rw [hw74, ← hg1]; exact Box.new w73 _ _) (show wr.heap.size ≤ g1 by rw [← hg1]; exact BE73.out.size))
                  have n1c : g1 ≠ Hc := by have := BXc73.out.lt; omega
                  have BXc74 := hide (BXc73.out.below DE74.out)
                  rw [← hw74, hg1]
                  clear hw74 hg1
                  refine hK.out _ _ (HKX.out w74 BE74.out) (fun hHeld => ?_)
                  clear hK K
                  try simp only [List.getElem_toArray, List.getElem_cons_succ, List.getElem_cons_zero, Act.put, List.setIfInBounds_toArray, List.set_cons_zero, List.set_cons_succ]
                  refine wpAnyH_ready (rs := [7, 9]) (by kernel_rfl) (by simp) ?_
                  refine AllReadyH.cons rfl (fun K hK => ?_) (AllReadyH.cons rfl (fun K hK => ?_) AllReadyH.nil)
                  · skip
                    refine step_append_src14 w74 (by rfl) _ _ _ (by rfl) i0 _ Try.underlying51 HI.out iz0 iz1 iz2 rfl wr.heap.size g1 0 0 ([] : List (InsV × Value)) rfl (by rfl) HO74.out (some ⟨ga, oa, none⟩) m cu (q.take m) m (by omega) (by rfl) (HSA.out w74 BE74.out) (by omega) BE74.out.size ?_
                    intro g2 k2 w75 ho hg hat hlg
                    have BE75 := hide (BE74.out.grown hg BE74.out.size (fun k hk => by injection hk with hk; have := (HO74.out.lt g1 rfl).1; omega))
                    have HO75 := hide ho
                    have BXc75 := hide (show Box w75 Hc #[.int .i64 xo, .int .i64 xd, .int .i64 xa, .int .i64 xb, .int .i64 xn, .int .i64 xm, .slice A2 na c2] 50 from (hg.block Hc BXc74.out.lt (fun e => n1c (by injection e with e; omega))).trans BXc74.out)
                    have n2c : g2 ≠ Hc := by have := BXc74.out.lt; rcases hat with h | h <;> omega
                    clear ho hg hat hlg
                    refine hK.out _ _ (HKX.out w75 BE75.out) (fun hHeld => ?_)
                    clear hK K
                    try simp only [List.getElem_toArray, List.getElem_cons_succ, List.getElem_cons_zero, Act.put, List.setIfInBounds_toArray, List.set_cons_zero, List.set_cons_succ]
                    refine wpAnyH_ready (rs := [9]) (by kernel_rfl) (by simp) ?_
                    refine AllReadyH.cons rfl (fun K hK => ?_) AllReadyH.nil
                    · skip
                      rw [if_pos (by rfl)]
                      go_simp
                      obtain ⟨Hb, hHb⟩ : ∃ H, w75.heap.size = H := ⟨_, rfl⟩
                      obtain ⟨w76, hw76⟩ : ∃ wM, wM = w75.alloc (.cells #[.int .i64 24, .int .i64 0, .int .i64 0, .int .i64 0, .int .i64 0, .int .i64 0, .slice none 0 0] 50) := ⟨_, rfl⟩
                      have DE76 := hide (show Below w75.heap.size w75 w76 by rw [hw76]; exact alloc1 w75 _)
                      have BE76 := hide (BE75.out.trans (DE76.out.mono BE75.out.size))
                      have BXb76 := hide (show Box w76 Hb #[.int .i64 24, .int .i64 0, .int .i64 0, .int .i64 0, .int .i64 0, .int .i64 0, .slice none 0 0] 50 by rw [hw76, ← hHb]; exact Box.new w75 _ _)
                      have HO76 := hide (HO75.out.below DE76.out)
                      have n2b : g2 ≠ Hb := by have := (HO75.out.lt g2 rfl).2; omega
                      have BXc76 := hide (BXc75.out.below DE76.out)
                      rw [← hw76, hHb]
                      clear hw76 hHb
                      refine hK.out _ _ (HKX.out w76 BE76.out) (fun hHeld => ?_)
                      clear hK K
                      try simp only [List.getElem_toArray, List.getElem_cons_succ, List.getElem_cons_zero, Act.put, List.setIfInBounds_toArray, List.set_cons_zero, List.set_cons_succ]
                      refine wpAnyH_ready (rs := [10]) (by kernel_rfl) (by simp) ?_
                      refine AllReadyH.cons rfl (fun K hK => ?_) AllReadyH.nil
                      · skip
                        refine step_append_src14 w76 (by rfl) _ _ _ (by rfl) i0 _ Try.underlying51 HI.out iz0 iz1 iz2 rfl wr.heap.size g2 k2 m (q.take m) HQT.out (by rfl) HO76.out (some ⟨Hb, 0, none⟩) 1 1 [(pollI, Value.slice none 0 0)] (m + 1) (by omega) (by rfl) (srcPoll14 BXb76.out) (by omega) BE76.out.size ?_
                        intro g3 k3 w77 ho hg hat hlg
                        have BE77 := hide (BE76.out.grown hg BE76.out.size (fun k hk => by injection hk with hk; have := (HO76.out.lt g2 rfl).1; omega))
                        have HO77 := hide ho
                        have BXc77 := hide (show Box w77 Hc #[.int .i64 xo, .int .i64 xd, .int .i64 xa, .int .i64 xb, .int .i64 xn, .int .i64 xm, .slice A2 na c2] 50 from (hg.block Hc BXc76.out.lt (fun e => n2c (by injection e with e; omega))).trans BXc76.out)
                        have n3c : g3 ≠ Hc := by have := BXc76.out.lt; rcases hat with h | h <;> omega
                        clear ho hg hat hlg
                        refine hK.out _ _ (HKX.out w77 BE77.out) (fun hHeld => ?_)
                        clear hK K
                        try simp only [List.getElem_toArray, List.getElem_cons_succ, List.getElem_cons_zero, Act.put, List.setIfInBounds_toArray, List.set_cons_zero, List.set_cons_succ]
                        refine wpAnyH_ready (rs := [16]) (by kernel_rfl) (by simp) ?_
                        refine AllReadyH.cons rfl (fun K hK => ?_) AllReadyH.nil
                        · skip
                          refine step_append_src14 w77 (by rfl) _ _ _ (by rfl) i0 _ Try.underlying51 HI.out iz0 iz1 iz2 rfl wr.heap.size g3 k3 (m + 1) (q.take m ++ [(pollI, Value.slice none 0 0)]) HQT3.out (by rfl) HO77.out (some ⟨Hc, 0, none⟩) 1 1 [((⟨xo, xd, xa, xb, xn, xm, ags⟩ : InsV), Value.slice A2 na c2)] (m + 1 + 1) (by omega) (by rfl) (srcIns14 BXc77.out) (by omega) BE77.out.size ?_
                          intro g4 k4 w78 ho hg hat hlg
                          have BE78 := hide (BE77.out.grown hg BE77.out.size (fun k hk => by injection hk with hk; have := (HO77.out.lt g3 rfl).1; omega))
                          have HO78 := hide ho
                          clear ho hg hat hlg
                          refine hK.out _ _ (HKX.out w78 BE78.out) (fun hHeld => ?_)
                          clear hK K
                          try simp only [List.getElem_toArray, List.getElem_cons_succ, List.getElem_cons_zero, Act.put, List.setIfInBounds_toArray, List.set_cons_zero, List.set_cons_succ]
                          refine wpAnyH_take (i := 17) (v := ?_) rfl (by kernel_rfl) (by kernel_rfl) (by kernel_rfl) (fun _ _ _ h => h) (Or.inl ⟨by rfl, ?_⟩) (by assumption) ?_
                          rotate_left
                          focus
                            intro w hSw
                            try dsimp only at hSw
                            go_simp
                            try with_reducible rfl
                          try simp only [List.getElem_toArray, List.getElem_cons_succ, List.getElem_cons_zero, Act.put, List.setIfInBounds_toArray, List.set_cons_zero, List.set_cons_succ]
                          refine wpAnyH_take (i := 18) (v := ?_) rfl (by kernel_rfl) (by kernel_rfl) (by kernel_rfl) (fun _ _ _ h => h) (Or.inl ⟨by rfl, ?_⟩) (by assumption) ?_
                          rotate_left
                          focus
                            intro w hSw
                            try dsimp only at hSw
                            go_simp
                            try with_reducible rfl
                          try simp only [List.getElem_toArray, List.getElem_cons_succ, List.getElem_cons_zero, Act.put, List.setIfInBounds_toArray, List.set_cons_zero, List.set_cons_succ]
                          obtain ⟨c8, f8, lg8⟩ := HST.out w78 BE78.out
                          refine wpAnyH_ready (rs := [19]) (by kernel_rfl) (by simp) ?_
                          refine AllReadyH.cons rfl (fun K hK => ?_) AllReadyH.nil
                          rw [if_pos (by rfl)]
                          go_simp
                          obtain ⟨hs9, hr9⟩ := HEND.out w78 g4 k4 BE78.out HO78.out
                          have HR9 := hide hr9
                          clear hr9
                          refine hK.out _ _ hs9 (fun hHeld => ?_)
                          clear hK K
                          try simp only [List.getElem_toArray, List.getElem_cons_succ, List.getElem_cons_zero, Act.put, List.setIfInBounds_toArray, List.set_cons_zero, List.set_cons_succ]
                          refine wpAnyH_done (by kernel_rfl) ?_ _
                          clear hs9 hHeld c8 f8 lg8
                          go_wp2
                          go_roundw
                          case rel => exact ⟨k + 1, _, by have := HLT.out; omega, by go_num, HR9.out⟩
                          case measure => have := HLT.out; simp [intOf]; omega
                  · skip
                    rw [if_pos (by rfl)]
                    go_simp
                    obtain ⟨Hb, hHb⟩ : ∃ H, w74.heap.size = H := ⟨_, rfl⟩
                    obtain ⟨w79, hw79⟩ : ∃ wM, wM = w74.alloc (.cells #[.int .i64 24, .int .i64 0, .int .i64 0, .int .i64 0, .int .i64 0, .int .i64 0, .slice none 0 0] 50) := ⟨_, rfl⟩
                    have DE79 := hide (show Below w74.heap.size w74 w79 by rw [hw79]; exact alloc1 w74 _)
                    have BE79 := hide (BE74.out.trans (DE79.out.mono BE74.out.size))
                    have BXb79 := hide (show Box w79 Hb #[.int .i64 24, .int .i64 0, .int .i64 0, .int .i64 0, .int .i64 0, .int .i64 0, .slice none 0 0] 50 by rw [hw79, ← hHb]; exact Box.new w74 _ _)
                    have HO79 := hide (HO74.out.below DE79.out)
                    have n1b : g1 ≠ Hb := by have := (HO74.out.lt g1 rfl).2; omega
                    have BXc79 := hide (BXc74.out.below DE79.out)
                    rw [← hw79, hHb]
                    clear hw79 hHb
                    refine hK.out _ _ (HKX.out w79 BE79.out) (fun hHeld => ?_)
                    clear hK K
                    try simp only [List.getElem_toArray, List.getElem_cons_succ, List.getElem_cons_zero, Act.put, List.setIfInBounds_toArray, List.set_cons_zero, List.set_cons_succ]
                    refine wpAnyH_ready (rs := [7]) (by kernel_rfl) (by simp) ?_
                    refine AllReadyH.cons rfl (fun K hK => ?_) AllReadyH.nil
                    · skip
                      refine step_append_src14 w79 (by rfl) _ _ _ (by rfl) i0 _ Try.underlying51 HI.out iz0 iz1 iz2 rfl wr.heap.size g1 0 0 ([] : List (InsV × Value)) rfl (by rfl) HO79.out (some ⟨ga, oa, none⟩) m cu (q.take m) m (by omega) (by rfl) (HSA.out w79 BE79.out) (by omega) BE79.out.size ?_
                      intro g2 k2 w80 ho hg hat hlg
                      have BE80 := hide (BE79.out.grown hg BE79.out.size (fun k hk => by injection hk with hk; have := (HO79.out.lt g1 rfl).1; omega))
                      have HO80 := hide ho
                      have BXb80 := hide (show Box w80 Hb #[.int .i64 24, .int .i64 0, .int .i64 0, .int .i64 0, .int .i64 0, .int .i64 0, .slice none 0 0] 50 from (hg.block Hb BXb79.out.lt (fun e => n1b (by injection e with e; omega))).trans BXb79.out)
                      have n2b : g2 ≠ Hb := by have := BXb79.out.lt; rcases hat with h | h <;> omega
                      have BXc80 := hide (show Box w80 Hc #[.int .i64 xo, .int .i64 xd, .int .i64 xa, .int .i64 xb, .int .i64 xn, .int .i64 xm, .slice A2 na c2] 50 from (hg.block Hc BXc79.out.lt (fun e => n1c (by injection e with e; omega))).trans BXc79.out)
                      have n2c : g2 ≠ Hc := by have := BXc79.out.lt; rcases hat with h | h <;> omega
                      clear ho hg hat hlg
                      refine hK.out _ _ (HKX.out w80 BE80.out) (fun hHeld => ?_)
                      clear hK K
                      try simp only [List.getElem_toArray, List.getElem_cons_succ, List.getElem_cons_zero, Act.put, List.setIfInBounds_toArray, List.set_cons_zero, List.set_cons_succ]
                      refine wpAnyH_ready (rs := [10]) (by kernel_rfl) (by simp) ?_
                      refine AllReadyH.cons rfl (fun K hK => ?_) AllReadyH.nil
                      · skip
                        refine step_append_src14 w80 (by rfl) _ _ _ (by rfl) i0 _ Try.underlying51 HI.out iz0 iz1 iz2 rfl wr.heap.size g2 k2 m (q.take m) HQT.out (by rfl) HO80.out (some ⟨Hb, 0, none⟩) 1 1 [(pollI, Value.slice none 0 0)] (m + 1) (by omega) (by rfl) (srcPoll14 BXb80.out) (by omega) BE80.out.size ?_
                        intro g3 k3 w81 ho hg hat hlg
                        have BE81 := hide (BE80.out.grown hg BE80.out.size (fun k hk => by injection hk with hk; have := (HO80.out.lt g2 rfl).1; omega))
                        have HO81 := hide ho
                        have BXc81 := hide (show Box w81 Hc #[.int .i64 xo, .int .i64 xd, .int .i64 xa, .int .i64 xb, .int .i64 xn, .int .i64 xm, .slice A2 na c2] 50 from (hg.block Hc BXc80.out.lt (fun e => n2c (by injection e with e; omega))).trans BXc80.out)
                        have n3c : g3 ≠ Hc := by have := BXc80.out.lt; rcases hat with h | h <;> omega
                        clear ho hg hat hlg
                        refine hK.out _ _ (HKX.out w81 BE81.out) (fun hHeld => ?_)
                        clear hK K
                        try simp only [List.getElem_toArray, List.getElem_cons_succ, List.getElem_cons_zero, Act.put, List.setIfInBounds_toArray, List.set_cons_zero, List.set_cons_succ]
                        refine wpAnyH_ready (rs := [16]) (by kernel_rfl) (by simp) ?_
                        refine AllReadyH.cons rfl (fun K hK => ?_) AllReadyH.nil
                        · skip
                          refine step_append_src14 w81 (by rfl) _ _ _ (by rfl) i0 _ Try.underlying51 HI.out iz0 iz1 iz2 rfl wr.heap.size g3 k3 (m + 1) (q.take m ++ [(pollI, Value.slice none 0 0)]) HQT3.out (by rfl) HO81.out (some ⟨Hc, 0, none⟩) 1 1 [((⟨xo, xd, xa, xb, xn, xm, ags⟩ : InsV), Value.slice A2 na c2)] (m + 1 + 1) (by omega) (by rfl) (srcIns14 BXc81.out) (by omega) BE81.out.size ?_
                          intro g4 k4 w82 ho hg hat hlg
                          have BE82 := hide (BE81.out.grown hg BE81.out.size (fun k hk => by injection hk with hk; have := (HO81.out.lt g3 rfl).1; omega))
                          have HO82 := hide ho
                          clear ho hg hat hlg
                          refine hK.out _ _ (HKX.out w82 BE82.out) (fun hHeld => ?_)
                          clear hK K
                          try simp only [List.getElem_toArray, List.getElem_cons_succ, List.getElem_cons_zero, Act.put, List.setIfInBounds_toArray, List.set_cons_zero, List.set_cons_succ]
                          refine wpAnyH_take (i := 17) (v := ?_) rfl (by kernel_rfl) (by kernel_rfl) (by kernel_rfl) (fun _ _ _ h => h) (Or.inl ⟨by rfl, ?_⟩) (by assumption) ?_
                          rotate_left
                          focus
                            intro w hSw
                            try dsimp only at hSw
                            go_simp
                            try with_reducible rfl
                          try simp only [List.getElem_toArray, List.getElem_cons_succ, List.getElem_cons_zero, Act.put, List.setIfInBounds_toArray, List.set_cons_zero, List.set_cons_succ]
                          refine wpAnyH_take (i := 18) (v := ?_) rfl (by kernel_rfl) (by kernel_rfl) (by kernel_rfl) (fun _ _ _ h => h) (Or.inl ⟨by rfl, ?_⟩) (by assumption) ?_
                          rotate_left
                          focus
                            intro w hSw
                            try dsimp only at hSw
                            go_simp
                            try with_reducible rfl
                          try simp only [List.getElem_toArray, List.getElem_cons_succ, List.getElem_cons_zero, Act.put, List.setIfInBounds_toArray, List.set_cons_zero, List.set_cons_succ]
                          obtain ⟨c8, f8, lg8⟩ := HST.out w82 BE82.out
                          refine wpAnyH_ready (rs := [19]) (by kernel_rfl) (by simp) ?_
                          refine AllReadyH.cons rfl (fun K hK => ?_) AllReadyH.nil
                          rw [if_pos (by rfl)]
                          go_simp
                          obtain ⟨hs9, hr9⟩ := HEND.out w82 g4 k4 BE82.out HO82.out
                          have HR9 := hide hr9
                          clear hr9
                          refine hK.out _ _ hs9 (fun hHeld => ?_)
                          clear hK K
                          try simp only [List.getElem_toArray, List.getElem_cons_succ, List.getElem_cons_zero, Act.put, List.setIfInBounds_toArray, List.set_cons_zero, List.set_cons_succ]
                          refine wpAnyH_done (by kernel_rfl) ?_ _
                          clear hs9 hHeld c8 f8 lg8
                          go_wp2
                          go_roundw
                          case rel => exact ⟨k + 1, _, by have := HLT.out; omega, by go_num, HR9.out⟩
                          case measure => have := HLT.out; simp [intOf]; omega
                · skip
                  rw [if_pos (by rfl)]
                  go_simp
                  obtain ⟨Hb, hHb⟩ : ∃ H, w73.heap.size = H := ⟨_, rfl⟩
                  obtain ⟨w83, hw83⟩ : ∃ wM, wM = w73.alloc (.cells #[.int .i64 24, .int .i64 0, .int .i64 0, .int .i64 0, .int .i64 0, .int .i64 0, .slice none 0 0] 50) := ⟨_, rfl⟩
                  have DE83 := hide (show Below w73.heap.size w73 w83 by rw [hw83]; exact alloc1 w73 _)
                  have BE83 := hide (BE73.out.trans (DE83.out.mono BE73.out.size))
                  have BXb83 := hide (show Box w83 Hb #[.int .i64 24, .int .i64 0, .int .i64 0, .int .i64 0, .int .i64 0, .int .i64 0, .slice none 0 0] 50 by rw [hw83, ← hHb]; exact Box.new w73 _ _)
                  have BXc83 := hide (BXc73.out.below DE83.out)
                  rw [← hw83, hHb]
                  clear hw83 hHb
                  refine hK.out _ _ (HKX.out w83 BE83.out) (fun hHeld => ?_)
                  clear hK K
                  try simp only [List.getElem_toArray, List.getElem_cons_succ, List.getElem_cons_zero, Act.put, List.setIfInBounds_toArray, List.set_cons_zero, List.set_cons_succ]
                  refine wpAnyH_ready (rs := [3]) (by kernel_rfl) (by simp) ?_
                  refine AllReadyH.cons rfl (fun K hK => ?_) AllReadyH.nil
                  · skip
                    rw [if_pos (by rfl)]
                    go_simp
                    obtain ⟨g1, hg1⟩ : ∃ H, w83.heap.size = H := ⟨_, rfl⟩
                    obtain ⟨w84, hw84⟩ : ∃ wM, wM = w83.alloc (.cells #[] 50) := ⟨_, rfl⟩
                    have DE84 := hide (show Below w83.heap.size w83 w84 by rw [hw84]; exact alloc1 w83 _)
                    have BE84 := hide (BE83.out.trans (DE84.out.mono BE83.out.size))
                    have HO84 := hide (OwC.lit14 (show Box w84 g1 #[] 50 by rw [hw84, ← hg1]; exact Box.new w83 _ _) (show wr.heap.size ≤ g1 by rw [← hg1]; exact BE83.out.size))
                    have n1b : g1 ≠ Hb := by have := BXb83.out.lt; omega
                    have n1c : g1 ≠ Hc := by have := BXc83.out.lt; omega
                    have BXb84 := hide (BXb83.out.below DE84.out)
                    have BXc84 := hide (BXc83.out.below DE84.out)
                    rw [← hw84, hg1]
                    clear hw84 hg1
                    refine hK.out _ _ (HKX.out w84 BE84.out) (fun hHeld => ?_)
                    clear hK K
                    try simp only [List.getElem_toArray, List.getElem_cons_succ, List.getElem_cons_zero, Act.put, List.setIfInBounds_toArray, List.set_cons_zero, List.set_cons_succ]
                    refine wpAnyH_ready (rs := [7]) (by kernel_rfl) (by simp) ?_
                    refine AllReadyH.cons rfl (fun K hK => ?_) AllReadyH.nil
                    · skip
                      refine step_append_src14 w84 (by rfl) _ _ _ (by rfl) i0 _ Try.underlying51 HI.out iz0 iz1 iz2 rfl wr.heap.size g1 0 0 ([] : List (InsV × Value)) rfl (by rfl) HO84.out (some ⟨ga, oa, none⟩) m cu (q.take m) m (by omega) (by rfl) (HSA.out w84 BE84.out) (by omega) BE84.out.size ?_
                      intro g2 k2 w85 ho hg hat hlg
                      have BE85 := hide (BE84.out.grown hg BE84.out.size (fun k hk => by injection hk with hk; have := (HO84.out.lt g1 rfl).1; omega))
                      have HO85 := hide ho
                      have BXb85 := hide (show Box w85 Hb #[.int .i64 24, .int .i64 0, .int .i64 0, .int .i64 0, .int .i64 0, .int .i64 0, .slice none 0 0] 50 from (hg.block Hb BXb84.out.lt (fun e => n1b (by injection e with e; omega))).trans BXb84.out)
                      have n2b : g2 ≠ Hb := by have := BXb84.out.lt; rcases hat with h | h <;> omega
                      have BXc85 := hide (show Box w85 Hc #[.int .i64 xo, .int .i64 xd, .int .i64 xa, .int .i64 xb, .int .i64 xn, .int .i64 xm, .slice A2 na c2] 50 from (hg.block Hc BXc84.out.lt (fun e => n1c (by injection e with e; omega))).trans BXc84.out)
                      have n2c : g2 ≠ Hc := by have := BXc84.out.lt; rcases hat with h | h <;> omega
                      clear ho hg hat hlg
                      refine hK.out _ _ (HKX.out w85 BE85.out) (fun hHeld => ?_)
                      clear hK K
                      try simp only [List.getElem_toArray, List.getElem_cons_succ, List.getElem_cons_zero, Act.put, List.setIfInBounds_toArray, List.set_cons_zero, List.set_cons_succ]
                      refine wpAnyH_ready (rs := [10]) (by kernel_rfl) (by simp) ?_
                      refine AllReadyH.cons rfl (fun K hK => ?_) AllReadyH.nil
                      · skip
                        refine step_append_src14 w85 (by rfl) _ _ _ (by rfl) i0 _ Try.underlying51 HI.out iz0 iz1 iz2 rfl wr.heap.size g2 k2 m (q.take m) HQT.out (by rfl) HO85.out (some ⟨Hb, 0, none⟩) 1 1 [(pollI, Value.slice none 0 0)] (m + 1) (by omega) (by rfl) (srcPoll14 BXb85.out) (by omega) BE85.out.size ?_
                        intro g3 k3 w86 ho hg hat hlg
                        have BE86 := hide (BE85.out.grown hg BE85.out.size (fun k hk => by injection hk with hk; have := (HO85.out.lt g2 rfl).1; omega))
                        have HO86 := hide ho
                        have BXc86 := hide (show Box w86 Hc #[.int .i64 xo, .int .i64 xd, .int .i64 xa, .int .i64 xb, .int .i64 xn, .int .i64 xm, .slice A2 na c2] 50 from (hg.block Hc BXc85.out.lt (fun e => n2c (by injection e with e; omega))).trans BXc85.out)
                        have n3c : g3 ≠ Hc := by have := BXc85.out.lt; rcases hat with h | h <;> omega
                        clear ho hg hat hlg
                        refine hK.out _ _ (HKX.out w86 BE86.out) (fun hHeld => ?_)
                        clear hK K
                        try simp only [List.getElem_toArray, List.getElem_cons_succ, List.getElem_cons_zero, Act.put, List.setIfInBounds_toArray, List.set_cons_zero, List.set_cons_succ]
                        refine wpAnyH_ready (rs := [16]) (by kernel_rfl) (by simp) ?_
                        refine AllReadyH.cons rfl (fun K hK => ?_) AllReadyH.nil
                        · skip
                          refine step_append_src14 w86 (by rfl) _ _ _ (by rfl) i0 _ Try.underlying51 HI.out iz0 iz1 iz2 rfl wr.heap.size g3 k3 (m + 1) (q.take m ++ [(pollI, Value.slice none 0 0)]) HQT3.out (by rfl) HO86.out (some ⟨Hc, 0, none⟩) 1 1 [((⟨xo, xd, xa, xb, xn, xm, ags⟩ : InsV), Value.slice A2 na c2)] (m + 1 + 1) (by omega) (by rfl) (srcIns14 BXc86.out) (by omega) BE86.out.size ?_
                          intro g4 k4 w87 ho hg hat hlg
                          have BE87 := hide (BE86.out.grown hg BE86.out.size (fun k hk => by injection hk with hk; have := (HO86.out.lt g3 rfl).1; omega))
                          have HO87 := hide ho
                          clear ho hg hat hlg
                          refine hK.out _ _ (HKX.out w87 BE87.out) (fun hHeld => ?_)
                          clear hK K
                          try simp only [List.getElem_toArray, List.getElem_cons_succ, List.getElem_cons_zero, Act.put, List.setIfInBounds_toArray, List.set_cons_zero, List.set_cons_succ]
                          refine wpAnyH_take (i := 17) (v := ?_) rfl (by kernel_rfl) (by kernel_rfl) (by kernel_rfl) (fun _ _ _ h => h) (Or.inl ⟨by rfl, ?_⟩) (by assumption) ?_
                          rotate_left
                          focus
                            intro w hSw
                            try dsimp only at hSw
                            go_simp
                            try with_reducible rfl
                          try simp only [List.getElem_toArray, List.getElem_cons_succ, List.getElem_cons_zero, Act.put, List.setIfInBounds_toArray, List.set_cons_zero, List.set_cons_succ]
                          refine wpAnyH_take (i := 18) (v := ?_) rfl (by kernel_rfl) (by kernel_rfl) (by kernel_rfl) (fun _ _ _ h => h) (Or.inl ⟨by rfl, ?_⟩) (by assumption) ?_
                          rotate_left
                          focus
                            intro w hSw
                            try dsimp only at hSw
                            go_simp
                            try with_reducible rfl
                          try simp only [List.getElem_toArray, List.getElem_cons_succ, List.getElem_cons_zero, Act.put, List.setIfInBounds_toArray, List.set_cons_zero, List.set_cons_succ]
                          obtain ⟨c8, f8, lg8⟩ := HST.out w87 BE87.out
                          refine wpAnyH_ready (rs := [19]) (by kernel_rfl) (by simp) ?_
                          refine AllReadyH.cons rfl (fun K hK => ?_) AllReadyH.nil
                          rw [if_pos (by rfl)]
                          go_simp
                          obtain ⟨hs9, hr9⟩ := HEND.out w87 g4 k4 BE87.out HO87.out
                          have HR9 := hide hr9
                          clear hr9
                          refine hK.out _ _ hs9 (fun hHeld => ?_)
                          clear hK K
                          try simp only [List.getElem_toArray, List.getElem_cons_succ, List.getElem_cons_zero, Act.put, List.setIfInBounds_toArray, List.set_cons_zero, List.set_cons_succ]
                          refine wpAnyH_done (by kernel_rfl) ?_ _
                          clear hs9 hHeld c8 f8 lg8
                          go_wp2
                          go_roundw
                          case rel => exact ⟨k + 1, _, by have := HLT.out; omega, by go_num, HR9.out⟩
                          case measure => have := HLT.out; simp [intOf]; omega
end Go.Proofs.Ytnoknodijombpaa
