/- Layer 13: the reference's Split, by what its Copy answers. -/
import Derived.Test.YtnoknodijombpaaPgDO
import Derived.Test.YtnoknodijombpaaPgDQ
import Derived.Deep.RegionHeld3
set_option linter.unusedSimpArgs false
set_option linter.unusedVariables false
namespace Go.Proofs.Ytnoknodijombpaa
open Go.RowKit

structure SplC (fp fr : Int) (ks es : List Int) (base h1 hz : Nat) (v1 v2 v3 : Value) (l : List (List InsV × Value)) (w0 w : World) : Prop where
  bx : Box w h1 #[v1, v2, .int .i64 fp, .int .i64 fr, v3] 30
  bz : Box w hz #[.slice none 0 0, .slice none 0 0, .int .i64 0, .int .i64 0, .slice none 0 0] 30
  ok : Ow w base 3 .i64 v1 ks
  oe : Ow w base 3 .i64 v2 es
  m : BlkM w base v3 l
  bel : Below w0.heap.size w0 w
section
variable {fp fr : Int} {ks es : List Int} {base h1 hz : Nat} {v1 v2 v3 : Value} {l l' : List (List InsV × Value)} {w0 w w' : World}
theorem SplC.below (h : SplC fp fr ks es base h1 hz v1 v2 v3 l w0 w) (hb : Below w.heap.size w w') : SplC fp fr ks es base h1 hz v1 v2 v3 l w0 w' :=
  ⟨h.bx.below hb, h.bz.below hb, h.ok.below hb, h.oe.below hb, h.m.below hb, h.bel.trans (hb.mono h.bel.size)⟩
/-- An instruction of a block was stored into. -/
theorem SplC.turned {g : Nat} (h : SplC fp fr ks es base h1 hz v1 v2 v3 l w0 w) (hbut : But g w w') (hT : TB w 50 g) (hg : w0.heap.size ≤ g) (hm : BlkM w' base v3 l') : SplC fp fr ks es base h1 hz v1 v2 v3 l' w0 w' :=
  ⟨(hbut.block h1 h.bx.lt (tb_ne h.bx.tb hT (by decide))).trans h.bx, (hbut.block hz h.bz.lt (tb_ne h.bz.tb hT (by decide))).trans h.bz,
    h.ok.kept' fun x hx => hbut.block x (h.ok.tbI hx).lt (tb_ne (h.ok.tbI hx) hT (by decide)), h.oe.kept' fun x hx => hbut.block x (h.oe.tbI hx).lt (tb_ne (h.oe.tbI hx) hT (by decide)), hm,
    h.bel.trans ⟨hbut.os, hbut.tape, hbut.output, hbut.size, fun k hk => hbut.block k (by have := h.bel.size; omega) (by omega)⟩⟩
theorem SplC.app_box {t : Int} {w5 : World} (h : SplC fp fr ks es base h1 hz v1 v2 v3 l w0 w) (hgr : ((w.alloc (.cells (jmpC t) 50)).alloc (.cells #[.slice (some ⟨w.heap.size, 0, none⟩) 1 1] 53)).grownBy w5 v3.ownBlock) :
    Box w5 h1 #[v1, v2, .int .i64 fp, .int .i64 fr, v3] 30 ∧ ∀ b, b < base → b < w.heap.size → w5.heap[b]? = w.heap[b]? := by
  have hb4 : Below w.heap.size w ((w.alloc (.cells (jmpC t) 50)).alloc (.cells #[.slice (some ⟨w.heap.size, 0, none⟩) 1 1] 53)) := alloc2 w _ _
  have hk : ∀ b, b < w.heap.size → v3.ownBlock ≠ some b → w5.heap[b]? = w.heap[b]? := fun b hb hn => (hgr.block b (by have := hb4.size; omega) (fun e => hn e.symm)).trans (hb4.block b hb)
  exact ⟨(hk h1 h.bx.lt (fun e => tb_ne h.bx.tb (h.m.own.row _ e) (by decide) rfl)).trans h.bx, fun b hb hbw => hk b hbw (fun e => by have := (h.m.own.lt b e).1; omega)⟩
/-- A block more, and the function's field anew. -/
theorem SplC.app {t : Int} {v5 : Value} {w5 : World} (h : SplC fp fr ks es base h1 hz v1 v2 v3 l w0 w) (hb0 : w0.heap.size ≤ base) (hbw : base ≤ w.heap.size) (hh : w0.heap.size ≤ h1) (hzh : hz ≠ h1) (ht : i64R t) (hgr : ((w.alloc (.cells (jmpC t) 50)).alloc (.cells #[.slice (some ⟨w.heap.size, 0, none⟩) 1 1] 53)).grownBy w5 v3.ownBlock) (ho : OwC blkC 53 1 w5 base v5 (l ++ [([jumpI t], .slice (some ⟨w.heap.size, 0, none⟩) 1 1)])) :
    SplC fp fr ks es base h1 hz v1 v2 v5 (l ++ [([jumpI t], .slice (some ⟨w.heap.size, 0, none⟩) 1 1)]) w0 (w5.setCell ⟨h1, 4, none⟩ v5) := by
  have hb4 : Below w.heap.size w ((w.alloc (.cells (jmpC t) 50)).alloc (.cells #[.slice (some ⟨w.heap.size, 0, none⟩) 1 1] 53)) := alloc2 w _ _
  have hk : ∀ b, b < w.heap.size → v3.ownBlock ≠ some b → w5.heap[b]? = w.heap[b]? := fun b hb hn => (hgr.block b (by have := hb4.size; omega) (fun e => hn e.symm)).trans (hb4.block b hb)
  have hoB : ∀ b, v3.ownBlock = some b → TB w 53 b := fun b hb => h.m.own.row b hb
  have hzz : w.heap.size + 1 + 1 ≤ w5.heap.size := by have := hgr.size; simp only [World.size_alloc] at this; omega
  have hbx5 : Box w5 h1 #[v1, v2, .int .i64 fp, .int .i64 fr, v3] 30 := (hk h1 h.bx.lt (fun e => tb_ne h.bx.tb (hoB _ e) (by decide) rfl)).trans h.bx
  have hbz5 : Box w5 hz #[.slice none 0 0, .slice none 0 0, .int .i64 0, .int .i64 0, .slice none 0 0] 30 := (hk hz h.bz.lt (fun e => tb_ne h.bz.tb (hoB _ e) (by decide) rfl)).trans h.bz
  have hok5 : Ow w5 base 3 .i64 v1 ks := h.ok.kept' fun x hx => hk x (h.ok.tbI hx).lt (fun e => tb_ne (h.ok.tbI hx) (hoB _ e) (by decide) rfl)
  have hoe5 : Ow w5 base 3 .i64 v2 es := h.oe.kept' fun x hx => hk x (h.oe.tbI hx).lt (fun e => tb_ne (h.oe.tbI hx) (hoB _ e) (by decide) rfl)
  have hcode : CodeM w5 base ([jumpI t], .slice (some ⟨w.heap.size, 0, none⟩) 1 1) := by
    refine ⟨[(jumpI t, .slice none 0 0)], rfl, ?_, fun r hr => ?_⟩
    · have t1 : OwC insC 50 7 (w.alloc (.cells (jmpC t) 50)) base (.slice (some ⟨w.heap.size, 0, none⟩) 1 1) [(jumpI t, .slice none 0 0)] := World.ownsRow_lit (base := base) w (jmpC t) 1 hbw (by simp [maxLen]) rfl
      have t2 : OwC insC 50 7 ((w.alloc (.cells (jmpC t) 50)).alloc (.cells #[.slice (some ⟨w.heap.size, 0, none⟩) 1 1] 53)) base (.slice (some ⟨w.heap.size, 0, none⟩) 1 1) [(jumpI t, .slice none 0 0)] := World.ownsRow.alloc t1 _
      exact t2.kept fun g hg => hgr.block g (by have := (t2.lt g hg).2; exact this) (fun e => by
        simp [Value.ownBlock] at hg
        subst hg
        have := (h.m.own.lt _ e.symm).2
        omega)
    · simp at hr
      subst hr
      refine ⟨Vec.nil _ _ _, ?_⟩
      unfold InsR jumpI i64R
      unfold i64R at ht
      simp
      omega
  have hm5 := h.m.app hb4 hgr ho hcode (fun g hg => by simp [Value.ownBlock] at hg; omega)
  have hbel : Below w0.heap.size w0 w5 := (h.bel.trans (hb4.mono h.bel.size)).grown hgr (by have := h.bel.size; simp only [World.size_alloc]; omega) (fun k hk => by have := (h.m.own.lt k hk).1; omega)
  refine ⟨?_, ?_, ?_, ?_, hm5.other hbx5.tb (by decide) (by decide) (by decide) _, Below.setCell hbel (by show _ ≤ h1; omega) _⟩
  · have t := hbx5.set 4 v5
    simpa using t
  · exact hbz5.other hzh
  · exact hok5.kept' fun x hx => heap_setCell_other w5 ⟨h1, 4, none⟩ x _ (tb_ne (hok5.tbI hx) hbx5.tb (by decide))
  · exact hoe5.kept' fun x hx => heap_setCell_other w5 ⟨h1, 4, none⟩ x _ (tb_ne (hoe5.tbI hx) hbx5.tb (by decide))
end

set_option maxHeartbeats 4000000 in
set_option maxRecDepth 100000 in
theorem rsplit_of (vk vb vs : Value) (f : FunV) (w : World) (B : Nat) (hB : B ≤ w.heap.size) (hi : FunI w (· < B) vk vb vs f) (hok : FlowOk f) (hls1 : 1 ≤ f.blocks.length) (hk : f.kinds.length ≤ 1000) (hbl : f.base.length ≤ 1000) (hcode : ∀ l ∈ f.blocks, 1 ≤ l.length ∧ l.length ≤ 1000 ∧ ∀ x ∈ l, x.args.length ≤ 1000)
    (hcp : ∀ W : World, Below w.heap.size w W → Calls Try.prog 34 #[.agg #[vk, vb, .int .i64 f.params, .int .i64 f.result, vs]] W fun e w' => ∃ vk' vb' vs' l, e = .returned (.agg #[vk', vb', .int .i64 f.params, .int .i64 f.result, vs']) ∧ Ow w' W.heap.size 3 .i64 vk' f.kinds ∧ Ow w' W.heap.size 3 .i64 vb' f.base ∧ BlkM w' W.heap.size vs' l ∧ l.map (·.1) = f.blocks ∧ Below W.heap.size W w') :
    Calls Try.prog 10 #[.agg #[vk, vb, .int .i64 f.params, .int .i64 f.result, vs]] w (SplA f w) := by
  have hls40 := hok.1
  have HCR := hide (fun (W : World) (hW : Below w.heap.size w W) => (rcritical_any vk vb vs f W B (by have := hW.size; omega) (hi.keep (up hW hB) (fun _ h => h)) hok).mono (R' := CritA f W) (fun e w' ⟨v, q1, q2, q3⟩ => by
    obtain ⟨A, c, rfl, k1, k2, k3⟩ := q2.sl
    exact ⟨A, c, q1, k3, k1, k2, fun b o hA => (World.ownsRow.lt q2 b (by rw [hA]; rfl)).1, q3⟩))
  have HCP := hide hcp
  have HSP := hide (fun (k : Nat) (h : k ≤ (critN f).length) => SpI.to hok k h)
  have HFI := hide (show fitsB f = decide (f.blocks.length + (critN f).length ≤ 40) from rfl)
  have HLA := hide (fun (e : Int × Int) (he : e ∈ critN f) => (show (∃ (a : Nat) (l : List InsV) (x : InsV), e.1 = (a : Int) ∧ f.blocks[a]? = some l ∧ l[l.length - 1]? = some x) ∧ i64R e.2 from by
    obtain ⟨a, l, x, h1, h2, h3, -⟩ := crit_last he
    refine ⟨⟨a, l, x, h1, h2, h3⟩, ?_⟩
    obtain ⟨a', -, -, hm⟩ := edgesN_mem (mem_critN.1 he).1
    have := hok.2.2 a' e.2 hm
    unfold i64R
    omega))
  have HBS := hide (show (splitF f).blocks = splitBs f.blocks (critN f) from rfl)
  have hcn := critN_len hok
  obtain ⟨Ak, ck, rfl, hck, hmk⟩ := hi.1.open'
  obtain ⟨Ab, cb, rfl, hcb, hmb⟩ := hi.2.1.open'
  obtain ⟨As, cs, rfl, hcs, hms⟩ := hi.2.2.1.open'
  have HCODE := hide hcode
  obtain ⟨ls, hls⟩ : ∃ ls, f.blocks.length = ls := ⟨_, rfl⟩
  have HLS := hide hls
  obtain ⟨cn, hcne⟩ : ∃ cn, (critN f).length = cn := ⟨_, rfl⟩
  have HCN := hide hcne
  rw [hls] at HCR HCP HFI hls40 hcs hls1 ⊢
  rw [hcne] at HSP HFI hcn
  unfold CritA at HCR
  rw [hcne] at HCR
  clear hi hok hls hcne hcode hcp
  obtain ⟨fp, hfp⟩ : ∃ fp, f.params = fp := ⟨_, rfl⟩
  obtain ⟨fr, hfr⟩ : ∃ fr, f.result = fr := ⟨_, rfl⟩
  have HFP := hide hfp
  have HFR := hide hfr
  rw [hfp, hfr] at HCR HCP
  rw [hfp, hfr]
  clear hfp hfr
  obtain ⟨lk, hlk⟩ : ∃ lk, f.kinds.length = lk := ⟨_, rfl⟩
  obtain ⟨lb, hlb⟩ : ∃ lb, f.base.length = lb := ⟨_, rfl⟩
  have HLK := hide hlk
  have HLB := hide hlb
  rw [hlk] at HCR HCP hck hk ⊢
  rw [hlb] at HCR HCP hcb hbl ⊢
  clear hlk hlb
  go_enter Try.func10, Try.ntmps10
  go_upto_region 1 with (fail)
  obtain ⟨w1, hw1⟩ : ∃ w1, w1 = (w.alloc (.cells #[.slice Ak lk ck, .slice Ab lb cb, .int .i64 fp, .int .i64 fr, .slice As ls cs] 30)).alloc (.cells #[.slice none 0 0, .slice none 0 0, .int .i64 0, .int .i64 0, .slice none 0 0] 30) := ⟨_, rfl⟩
  obtain ⟨h1, hh1⟩ : ∃ h1, w.heap.size = h1 := ⟨_, rfl⟩
  have HX1 := hide (show Box w1 h1 #[.slice Ak lk ck, .slice Ab lb cb, .int .i64 fp, .int .i64 fr, .slice As ls cs] 30 by rw [hw1, ← hh1]; exact (Box.new w _ _).alloc _)
  have HY1 := hide (show Box w1 (h1 + 1) #[.slice none 0 0, .slice none 0 0, .int .i64 0, .int .i64 0, .slice none 0 0] 30 by
    have t := Box.new (w.alloc (.cells #[.slice Ak lk ck, .slice Ab lb cb, .int .i64 fp, .int .i64 fr, .slice As ls cs] 30)) #[.slice none 0 0, .slice none 0 0, .int .i64 0, .int .i64 0, .slice none 0 0] 30
    rw [World.size_alloc, hh1] at t
    rw [hw1]
    exact t)
  have HB1 := hide (show Below w.heap.size w w1 by rw [hw1]; exact alloc2 w _ _)
  have w1s := HB1.out.size
  have lX1 := HX1.out.lt
  have lY1 := HY1.out.lt
  have HH1 := hide hh1
  rw [← hw1, hh1]
  clear hw1 hh1
  have HKX := hide (fun (W : World) (hW : Below w1.heap.size w1 W) => (show (W.cell? ⟨h1, 0, none⟩ = some (.slice Ak lk ck) ∧ W.frozen? ⟨h1, 0, none⟩ = false) ∧ (W.cell? ⟨h1, 1, none⟩ = some (.slice Ab lb cb) ∧ W.frozen? ⟨h1, 1, none⟩ = false) ∧ (W.cell? ⟨h1, 2, none⟩ = some (.int .i64 fp) ∧ W.frozen? ⟨h1, 2, none⟩ = false) ∧ (W.cell? ⟨h1, 3, none⟩ = some (.int .i64 fr) ∧ W.frozen? ⟨h1, 3, none⟩ = false) ∧ (W.cell? ⟨h1, 4, none⟩ = some (.slice As ls cs) ∧ W.frozen? ⟨h1, 4, none⟩ = false) from
    ⟨(HX1.out.below hW).cell 0 (v := .slice Ak lk ck) rfl, (HX1.out.below hW).cell 1 (v := .slice Ab lb cb) rfl, (HX1.out.below hW).cell 2 (v := .int .i64 fp) rfl, (HX1.out.below hW).cell 3 (v := .int .i64 fr) rfl, (HX1.out.below hW).cell 4 (v := .slice As ls cs) rfl⟩))
  obtain ⟨⟨c0, f0⟩, ⟨c1, f1⟩, ⟨c2, f2⟩, ⟨c3, f3⟩, ⟨c4, f4⟩⟩ := HKX.out w1 (Below.refl _ _)
  go_upto_region 2 with (go_at_call 13; (with_reducible refine (HCR.out w1 HB1.out).mono ?_); rintro e w3 ⟨A3, k3, rfl, hs3, hc3, hm3, ha3, hb3⟩; have HA3 := hide ha3; have HS3 := hide hs3; have HC3 := hide hb3; have p3 := HKX.out w3 hb3; clear hs3 hb3 ha3 c0 c1 c2 c3 c4 f0 f1 f2 f3 f4)
  obtain ⟨⟨c0, f0⟩, ⟨c1, f1⟩, ⟨c2, f2⟩, ⟨c3, f3⟩, ⟨c4, f4⟩⟩ := p3
  have w3s := HC3.out.size
  have lX3 : h1 < w3.heap.size := by omega
  have lY3 : h1 + 1 < w3.heap.size := by omega
  by_cases hft : ls + cn ≤ 40
  case neg =>
    have hg : ¬ ls + cn ≤ 40 := hft
    have hgt : (ls : Int) + (cn : Int) > 40 := by omega
    have HNF := hide (show fitsB f = false by rw [HFI.out]; exact decide_eq_false hg)
    have HY3 := hide (HY1.out.below HC3.out)
    obtain ⟨y0, g0⟩ := HY3.out.cell 0 (v := .slice none 0 0) rfl
    obtain ⟨y1, g1⟩ := HY3.out.cell 1 (v := .slice none 0 0) rfl
    obtain ⟨y2, g2⟩ := HY3.out.cell 2 (v := .int .i64 0) rfl
    obtain ⟨y3, g3⟩ := HY3.out.cell 3 (v := .int .i64 0) rfl
    obtain ⟨y4, g4⟩ := HY3.out.cell 4 (v := .slice none 0 0) rfl
    have HZ := hide (HY3.out.end5 (v0 := .slice none 0 0) (v1 := .slice none 0 0) (v2 := .int .i64 0) (v3 := .int .i64 0) (v4 := .slice none 0 0))
    have HBE := hide (end5_below (h := h1 + 1) (v0 := .slice none 0 0) (v1 := .slice none 0 0) (v2 := .int .i64 0) (v3 := .int .i64 0) (v4 := .slice none 0 0) (HB1.out.trans (HC3.out.mono w1s)) (by have := HH1.out; omega))
    go_wp2
    (try simp only [Exit.inBlock, Exit.then])
    refine bodyPost_ret (results_cell_row_tmp rfl _ _ (h1 + 1) 30 #[.slice none 0 0, .slice none 0 0, .int .i64 0, .int .i64 0, .slice none 0 0] (0, 0) _ (by rfl) HZ.out Try.underlying30 rfl size_func) rfl ?_
    exact ⟨fun h => (by rw [HNF.out] at h; cases h), fun _ => ⟨rfl, HBE.out⟩⟩
  have hgt : ¬ (ls : Int) + (cn : Int) > 40 := by omega
  have HYF := hide (show fitsB f = true by rw [HFI.out]; exact decide_eq_true hft)
  go_upto_region 5 with (go_at_call 34; (with_reducible refine (HCP.out w3 (HB1.out.trans (HC3.out.mono w1s))).mono ?_); rintro e w4 ⟨v1, v2, v3, l0, rfl, ho1, ho2, hm4, hl4, hb4⟩; obtain ⟨A1, k1, hv1, -, -, -⟩ := ho1.sl; obtain ⟨A2, k2, hv2, -, -, -⟩ := ho2.sl; obtain ⟨A4, k4, hv4, -, -⟩ := hm4.own.sl; have hl0 : l0.length = ls := (by have := congrArg List.length hl4; rw [List.length_map, HLS.out] at this; exact this); rw [HLK.out] at hv1; rw [HLB.out] at hv2; rw [hl0] at hv4; subst hv1; subst hv2; subst hv4; have HL0 := hide hl0; have HL4 := hide hl4; have HO1 := hide ho1; have HO2 := hide ho2; have HM4 := hide hm4; have HC4 := hide (HC3.out.trans (hb4.mono w3s)); have HD4 := hide hb4; have w4s := hb4.size; clear ho1 ho2 hm4 hl4 hb4 hl0 c0 c1 c2 c3 c4 f0 f1 f2 f3 f4)
  obtain ⟨w5, hw5⟩ : ∃ w5, w5 = w4.alloc (.cells #[.slice A1 lk k1, .slice A2 lb k2, .int .i64 fp, .int .i64 fr, .slice A4 ls k4] 30) := ⟨_, rfl⟩
  obtain ⟨hz, hhz⟩ : ∃ hz, hz = h1 + 1 := ⟨_, rfl⟩
  obtain ⟨hb, hhb⟩ : ∃ hb, w4.heap.size = hb := ⟨_, rfl⟩
  have HHB := hide (show w3.heap.size ≤ hb ∧ w.heap.size ≤ hb ∧ h1 + 1 < w3.heap.size ∧ h1 + 1 < w1.heap.size by have := HB1.out.size; omega)
  have HS5 := hide (show SplC fp fr f.kinds f.base w3.heap.size hb (h1 + 1) (.slice A1 lk k1) (.slice A2 lb k2) (.slice A4 ls k4) l0 w w5 by
    have hbl : Below w4.heap.size w4 w5 := by rw [hw5]; exact alloc1 w4 _
    exact ⟨by rw [hw5, ← hhb]; exact Box.new w4 _ _, (HY1.out.below HC4.out).below hbl, HO1.out.below hbl, HO2.out.below hbl, HM4.out.below hbl, (HB1.out.trans (HC4.out.mono w1s)).trans (hbl.mono (by omega))⟩)
  have HE5 := hide (show ∀ b, w1.heap.size ≤ b → b < w3.heap.size → w5.heap[b]? = w3.heap[b]? from fun b hb1 hb2 => by
    rw [hw5]
    exact ((alloc1 w4 _ : Below w4.heap.size w4 _).block b (by omega)).trans (HD4.out.block b hb2))
  have HM0 := hide (show l0.map (·.1) = splitBs f.blocks ((critN f).take 0) by rw [HL4.out]; rfl)
  obtain ⟨iB, hiB, bz0, bz1, bz2⟩ := info_parts info_blk13
  have HIB := hide hiB
  rw [← hw5, hhb]
  clear hw5 hiB HKX hhb hhz
  go_wp2
  go_loopw [6] (fun i wr => ∃ (k : Nat) (v3 : Value) (l : List (List InsV × Value)), k ≤ cn ∧ i = .int .i64 (k : Int) ∧ Hid (SplC fp fr f.kinds f.base w3.heap.size hb (h1 + 1) (.slice A1 lk k1) (.slice A2 lb k2) v3 l w wr) ∧ Hid (l.map (·.1) = splitBs f.blocks ((critN f).take k)) ∧ Hid (∀ b, w1.heap.size ≤ b → b < w3.heap.size → wr.heap[b]? = w3.heap[b]?)) (fun i _ => cn - (intOf i).toNat)
  case atStart => exact ⟨0, _, l0, Nat.zero_le _, rfl, HS5, HM0, HE5⟩
  case round =>
    obtain ⟨k, v3, l, hk', rfl, HS, HM, HE⟩ := hrel
    obtain ⟨wo, rfl⟩ : ∃ wo, wo = wr := ⟨_, rfl⟩
    have HPI := hide (HSP.out k hk')
    have hll : l.length = ls + k := by
      have h1' := congrArg List.length HM.out
      rw [List.length_map, HPI.out.len, HLS.out] at h1'
      exact h1'
    have HLL := hide hll
    obtain ⟨gc, capc, hv3, hgc1, hgc2, hgc3, hgc4, hgcT⟩ := HS.out.m.own.blk (by omega)
    rw [hll] at hv3
    subst hv3
    obtain ⟨x0, f0⟩ := HS.out.bx.cell 0 (v := .slice A1 lk k1) rfl
    obtain ⟨x1, f1⟩ := HS.out.bx.cell 1 (v := .slice A2 lb k2) rfl
    obtain ⟨x2, f2⟩ := HS.out.bx.cell 2 (v := .int .i64 fp) rfl
    obtain ⟨x3, f3⟩ := HS.out.bx.cell 3 (v := .int .i64 fr) rfl
    obtain ⟨x4, f4⟩ := HS.out.bx.cell 4 (v := .slice (some ⟨gc, 0, none⟩) (ls + k) capc) rfl
    have lx := HS.out.bx.lt
    have ly := HS.out.bz.lt
    obtain ⟨hb3, hbw, hz3, hz1⟩ := HHB.out
    have hwo3 : w3.heap.size ≤ wo.heap.size := by omega
    by_cases hlt : k < cn
    case neg =>
      obtain rfl : cn = k := by omega
      have hnl : ¬ ((cn : Int) < (cn : Int)) := by omega
      obtain ⟨y0, g0⟩ := HS.out.bz.cell 0 (v := .slice none 0 0) rfl
      obtain ⟨y1, g1⟩ := HS.out.bz.cell 1 (v := .slice none 0 0) rfl
      obtain ⟨y2, g2⟩ := HS.out.bz.cell 2 (v := .int .i64 0) rfl
      obtain ⟨y3, g3⟩ := HS.out.bz.cell 3 (v := .int .i64 0) rfl
      obtain ⟨y4, g4⟩ := HS.out.bz.cell 4 (v := .slice none 0 0) rfl
      have HZ := hide (HS.out.bz.end5 (v0 := .slice A1 lk k1) (v1 := .slice A2 lb k2) (v2 := .int .i64 fp) (v3 := .int .i64 fr) (v4 := .slice (some ⟨gc, 0, none⟩) (ls + cn) capc))
      have HZA := hide ((HS.out.ok.end5 (v0 := .slice A1 lk k1) (v1 := .slice A2 lb k2) (v2 := .int .i64 fp) (v3 := .int .i64 fr) (v4 := .slice (some ⟨gc, 0, none⟩) (ls + cn) capc) HS.out.bz.tb).lower (b := w.heap.size) (by omega))
      have HZB := hide ((HS.out.oe.end5 (v0 := .slice A1 lk k1) (v1 := .slice A2 lb k2) (v2 := .int .i64 fp) (v3 := .int .i64 fr) (v4 := .slice (some ⟨gc, 0, none⟩) (ls + cn) capc) HS.out.bz.tb).lower (b := w.heap.size) (by omega))
      have HZM := hide ((HS.out.m.end5 (v0 := .slice A1 lk k1) (v1 := .slice A2 lb k2) (v2 := .int .i64 fp) (v3 := .int .i64 fr) (v4 := .slice (some ⟨gc, 0, none⟩) (ls + cn) capc) HS.out.bz.tb).lower (b := w.heap.size) (by omega))
      have HZE := hide (end5_below (h := h1 + 1) (v0 := .slice A1 lk k1) (v1 := .slice A2 lb k2) (v2 := .int .i64 fp) (v3 := .int .i64 fr) (v4 := .slice (some ⟨gc, 0, none⟩) (ls + cn) capc) HS.out.bel (by have := HH1.out; have := HHB.out; omega))
      have HALL := hide (show l.map (·.1) = (splitF f).blocks by rw [HM.out, HBS.out, List.take_of_length_le (by have := HCN.out; omega)])
      go_wp2
      (try simp only [Exit.inBlock, Exit.then])
      refine bodyPost_ret (results_cell_row_tmp rfl _ _ (h1 + 1) 30 #[.slice A1 lk k1, .slice A2 lb k2, .int .i64 fp, .int .i64 fr, .slice (some ⟨gc, 0, none⟩) (ls + cn) capc] (0, 0) _ (by rfl) HZ.out Try.underlying30 rfl size_func) rfl ?_
      refine ⟨fun _ => ⟨_, _, _, l, ?_, HZA.out, HZB.out, HZM.out, HALL.out, HZE.out⟩, fun h => (by rw [HYF.out] at h; cases h)⟩
      rw [HFP.out, HFR.out]
      rfl
    have HLT := hide hlt
    obtain ⟨e, he⟩ : ∃ e, (critN f)[k]? = some e := ⟨_, List.getElem?_eq_getElem (by have := HCN.out; omega)⟩
    obtain ⟨⟨a, lA, xA, ha1, hA, hxA⟩, heR⟩ := HLA.out e (List.mem_of_getElem? he)
    have hal := (List.getElem?_eq_some_iff.1 hA).1
    obtain ⟨n, hn⟩ : ∃ n, lA.length = n + 1 := ⟨lA.length - 1, by have := (List.getElem?_eq_some_iff.1 hxA).1; omega⟩
    have hn1000 := (HCODE.out lA (List.mem_of_getElem? hA)).2.1
    have hnle : n ≤ 1000 := by omega
    obtain ⟨lsa, hlsa⟩ : ∃ lsa, bentB f.blocks.length ((critN f).take k) a lA = lsa := ⟨_, rfl⟩
    have hlsl : lsa.length = n + 1 := by rw [← hlsa, bentB_len, hn]
    obtain ⟨x, hx⟩ : ∃ x, lsa[n]? = some x := ⟨_, List.getElem?_eq_getElem (by omega)⟩
    have hbs := HPI.out.old a lA hA
    rw [hlsa, ← HM.out, List.getElem?_map] at hbs
    obtain ⟨⟨p1, ua⟩, hp, hp1⟩ : ∃ p, l[a]? = some p ∧ p.1 = lsa := by
      cases h : l[a]? with
      | none => rw [h] at hbs; cases hbs
      | some p => rw [h] at hbs; injection hbs with hbs; exact ⟨p, rfl, hbs⟩
    simp only at hp1
    subst hp1
    obtain ⟨q, hq1, hq2, hq3⟩ := HS.out.m.code _ (List.mem_of_getElem? hp)
    have hql : q.length = n + 1 := by
      have := congrArg List.length hq1
      rw [List.length_map] at this
      simp only at this
      omega
    obtain ⟨g, cg, hua, hg1, hg2, -, -, hgT⟩ := hq2.blk (by omega)
    simp only at hua
    rw [hql] at hua
    subst hua
    have HP := hide hp
    obtain ⟨da, fa⟩ := HS.out.m.own.at' hll (fun _ => rfl) hp (i := 0) (by omega)
    rw [Nat.mul_one, Nat.add_zero] at da
    have da' : wo.cell? ⟨gc, a, none⟩ = some (.slice (some ⟨g, 0, none⟩) (n + 1) cg) := da
    obtain ⟨be, oe, rfl, hbe, hce⟩ := HS3.out (by have := HCN.out; omega)
    have hbe1 := HA3.out be oe rfl
    obtain ⟨z1, z2⟩ := hce k e he
    have d1 := (World.cell?_of_block (a := ⟨be, oe + k * 2, none⟩) (HE.out be hbe1 hbe)).trans z1
    have d2 := (World.cell?_of_block (a := ⟨be, oe + k * 2 + 1, none⟩) (HE.out be hbe1 hbe)).trans z2
    rw [ha1] at d1
    obtain ⟨tz, hto⟩ : ∃ tz, e.2 = tz := ⟨_, rfl⟩
    rw [hto] at d2 heR
    have hbs2 : be < wo.heap.size := by omega
    have hk0 : (0 : Int) ≤ (k : Int) := by omega
    have hk1 : (k : Int) < (cn : Int) := by omega
    have HMAP := hide (fun (u2 : Value) => (show ((l.set a (bendB p1 tz ((ls + k : Nat) : Int), .slice (some ⟨g, 0, none⟩) (n + 1) cg)) ++ [([jumpI tz], u2)]).map (·.1) = splitBs f.blocks ((critN f).take (k + 1)) from by
      rw [splitBs_snoc he, ← HM.out, ← hto]
      exact splitStep_map HP.out ha1 HLL.out))
    have hals : a < ls := by have := HLS.out; omega
    clear he hA hxA hal hlsa hbs hp hql da z1 z2 hce ha1 hto hn f0 f1 f2 f3 f4 fa x0 x1 x2 x3
    go_upto_region 9 with (fail)
    obtain ⟨w6, hw6⟩ : ∃ w6, w6 = wo.alloc (.cells #[.int .i64 (a : Int), .int .i64 tz] 55) := ⟨_, rfl⟩
    obtain ⟨h7, hh7⟩ : ∃ h7, wo.heap.size = h7 := ⟨_, rfl⟩
    have HX7 := hide (show Box w6 h7 #[.int .i64 (a : Int), .int .i64 tz] 55 by rw [hw6, ← hh7]; exact Box.new wo _ _)
    have HB6 := hide (show Below wo.heap.size wo w6 by rw [hw6]; exact alloc1 wo _)
    have HS6 := hide (HS.out.below HB6.out)
    rw [← hw6, hh7]
    have w6s := HB6.out.size
    have y4 := (HB6.out.cell (p := ⟨hb, 4, none⟩) lx).trans x4
    have ya := (HB6.out.cell (p := ⟨gc, a, none⟩) hgc2).trans da'
    have hgT6 : TB w6 50 g := hgT.keep (HB6.out.block g hg2)
    clear hw6 hh7 x4 da' d1 d2 hbs2
    have l7 := HX7.out.lt
    have b0 := (HX7.out.cell 0 (v := .int .i64 (a : Int)) rfl).1
    have b1 := (HX7.out.cell 1 (v := .int .i64 tz) rfl).1
    have lx6 : hb < w6.heap.size := by omega
    have lgc6 : gc < w6.heap.size := by omega
    have lg6 : g < w6.heap.size := by omega
    obtain ⟨⟨y, va⟩, hy⟩ : ∃ y, q[n]? = some y := ⟨_, List.getElem?_eq_getElem (by have := congrArg List.length hq1; rw [List.length_map] at this; simp only at this; omega)⟩
    have hyx : y = x := by
      have h4 : (q.map (·.1))[n]? = some y := by rw [List.getElem?_map, hy]; rfl
      rw [hq1] at h4
      simp only at h4
      rw [hx] at h4
      injection h4 with h4
      exact h4.symm
    subst hyx
    have hR : InsR y := (hq3 _ (List.mem_of_getElem? hy)).2
    have hql2 : q.length = n + 1 := by have := congrArg List.length hq1; rw [List.length_map] at this; simp only at this; omega
    obtain ⟨d4, f4'⟩ := hq2.at' hql2 (fun _ => rfl) hy (i := 4) (by omega)
    obtain ⟨d5, f5'⟩ := hq2.at' hql2 (fun _ => rfl) hy (i := 5) (by omega)
    have b4 : w6.cell? ⟨g, n * 7 + 4, none⟩ = some (.int .i64 y.n) := (HB6.out.cell (p := ⟨g, n * 7 + 4, none⟩) hg2).trans d4
    have b5 : w6.cell? ⟨g, n * 7 + 5, none⟩ = some (.int .i64 y.m) := (HB6.out.cell (p := ⟨g, n * 7 + 5, none⟩) hg2).trans d5
    have z4 := (HB6.out.frozen (p := ⟨g, n * 7 + 4, none⟩) hg2).trans f4'
    have z5 := (HB6.out.frozen (p := ⟨g, n * 7 + 5, none⟩) hg2).trans f5'
    have hmR : i64R ((ls + k : Nat) : Int) := by unfold i64R; omega
    have HP4 := hide (fun (W : World) (hW : Below w6.heap.size w6 W) (e : y.n = tz) => (show BlkM (W.setCell ⟨g, n * 7 + 4, none⟩ (.int .i64 ((ls : Int) + (k : Int)))) w3.heap.size (.slice (some ⟨gc, 0, none⟩) (ls + k) capc) (l.set a (bendB p1 tz ((ls + k : Nat) : Int), .slice (some ⟨g, 0, none⟩) (n + 1) cg)) from by
      rw [bendB_eq hlsl hx, show bendI y tz ((ls + k : Nat) : Int) = { y with n := ((ls + k : Nat) : Int) } by unfold bendI; rw [if_pos e], show (ls : Int) + (k : Int) = ((ls + k : Nat) : Int) by omega]
      exact (HS6.out.m.below hW).put (x' := { y with n := ((ls + k : Nat) : Int) }) HP.out hlsl hx (fun _ => rfl) (by omega) hmR ⟨⟨hR.1, hR.2.1, hR.2.2.1, hR.2.2.2.1, hmR, hR.2.2.2.2.2⟩, rfl⟩))
    have HP5 := hide (fun (W : World) (hW : Below w6.heap.size w6 W) (e : ¬ y.n = tz) => (show BlkM (W.setCell ⟨g, n * 7 + 5, none⟩ (.int .i64 ((ls : Int) + (k : Int)))) w3.heap.size (.slice (some ⟨gc, 0, none⟩) (ls + k) capc) (l.set a (bendB p1 tz ((ls + k : Nat) : Int), .slice (some ⟨g, 0, none⟩) (n + 1) cg)) from by
      rw [bendB_eq hlsl hx, show bendI y tz ((ls + k : Nat) : Int) = { y with m := ((ls + k : Nat) : Int) } by unfold bendI; rw [if_neg e], show (ls : Int) + (k : Int) = ((ls + k : Nat) : Int) by omega]
      exact (HS6.out.m.below hW).put (x' := { y with m := ((ls + k : Nat) : Int) }) HP.out hlsl hx (fun _ => rfl) (by omega) hmR ⟨⟨hR.1, hR.2.1, hR.2.2.1, hR.2.2.2.1, hR.2.2.2.2.1, hmR⟩, rfl⟩))
    obtain ⟨yn, hyn⟩ : ∃ yn, y.n = yn := ⟨_, rfl⟩
    rw [hyn] at b4 HP4 HP5
    have n1 : hb ≠ g := tb_ne HS6.out.bx.tb hgT6 (by decide)
    have n2 : h7 ≠ g := tb_ne HX7.out.tb hgT6 (by decide)
    have n3 : gc ≠ g := tb_ne (HS6.out.m.own.row gc rfl) hgT6 (by decide)
    have ha0 : (0 : Int) ≤ (a : Int) := by omega
    have ha1 : (a : Int) < ((ls + k : Nat) : Int) := by omega
    have ha2 : a < ls + k := by omega
    have ha3 : (a : Int) < (ls : Int) + (k : Int) := by omega
    have kn0 : (0 : Int) ≤ (n : Int) := by omega
    have kn1 : (n : Int) < ((n + 1 : Nat) : Int) := by omega
    have kn2 : n < n + 1 := by omega
    have HBN := hide (fun (W : World) (hW : Below w6.heap.size w6 W) (o : Nat) (u : Value) => (show But g w6 (W.setCell ⟨g, o, none⟩ u) from ⟨hW.os, hW.tape, hW.output, by rw [World.size_setCell]; exact hW.size, fun k hk hne => (heap_setCell_other W ⟨g, o, none⟩ k _ hne).trans (hW.block k hk)⟩))
    have HIT := hide (show InsR y from hR)
    clear hx hy hq1 hq2 hq3 hyn d4 d5 f4' f5' hR hmR hql2
    go_upto_region 11 with (fail)
    by_cases hq : yn = tz
    · have q1 : (yn == tz) = true := by simpa using hq
      go_quiet (fail)
      obtain ⟨w7, hw7⟩ : ∃ w7, w7 = w6.drewN nq := ⟨_, rfl⟩
      have HB7 := hide (show Below w6.heap.size w6 w7 by rw [hw7]; exact below_drewN (Below.refl _ _) nq)
      rw [← hw7]
      clear hw7
      have y4' := (HB7.out.cell (p := ⟨hb, 4, none⟩) lx6).trans y4
      have b5' := (HB7.out.cell (p := ⟨g, n * 7 + 4, none⟩) lg6).trans b4
      have z5' := (HB7.out.frozen (p := ⟨g, n * 7 + 4, none⟩) lg6).trans z4
      have lx7 : hb < w7.heap.size := by have := HB7.out.size; omega
      have lg7 : g < w7.heap.size := by have := HB7.out.size; omega
      obtain ⟨w8, hw8⟩ : ∃ w8, w8 = w7.setCell ⟨g, n * 7 + 4, none⟩ (.int .i64 ((ls : Int) + (k : Int))) := ⟨_, rfl⟩
      have HM8 := hide (show BlkM w8 w3.heap.size (.slice (some ⟨gc, 0, none⟩) (ls + k) capc) (l.set a (bendB p1 tz ((ls + k : Nat) : Int), .slice (some ⟨g, 0, none⟩) (n + 1) cg)) by rw [hw8]; exact HP4.out w7 HB7.out hq)
      have HBT8 := hide (show But g w6 w8 by rw [hw8]; exact HBN.out w7 HB7.out _ _)
      have x48 : w8.cell? ⟨hb, 4, none⟩ = some (.slice (some ⟨gc, 0, none⟩) (ls + k) capc) := (World.cell?_of_block (a := ⟨hb, 4, none⟩) (HBT8.out.block hb lx6 n1)).trans y4
      have b18 : w8.cell? ⟨h7, 1, none⟩ = some (.int .i64 tz) := (World.cell?_of_block (a := ⟨h7, 1, none⟩) (HBT8.out.block h7 l7 n2)).trans b1
      have w8s := HBT8.out.size
      clear b4 b5 z4 z5 y4 b0 b1 ya
      go_upto_region 14 with (fail)
      (try rw [← hw8])
      clear hw8 y4' b5' z5'
      have HS8 := hide (HS6.out.turned HBT8.out hgT6 (by omega) HM8.out)
      have HE8 := hide (show ∀ b, w1.heap.size ≤ b → b < w3.heap.size → w8.heap[b]? = w3.heap[b]? from fun b hb1 hb2 => (HBT8.out.block b (by omega) (by omega)).trans ((HB6.out.block b (by omega)).trans (HE.out b hb1 hb2)))
      have HOW := hide (show OwC blkC 53 1 ((w8.alloc (.cells (jmpC tz) 50)).alloc (.cells #[.slice (some ⟨w8.heap.size, 0, none⟩) 1 1] 53)) w3.heap.size (.slice (some ⟨gc, 0, none⟩) (ls + k) capc) (l.set a (bendB p1 tz ((ls + k : Nat) : Int), .slice (some ⟨g, 0, none⟩) (n + 1) cg)) from HS8.out.m.own.below (alloc2 w8 _ _))
      have HLL8 := hide (show (l.set a (bendB p1 tz ((ls + k : Nat) : Int), .slice (some ⟨g, 0, none⟩) (n + 1) cg)).length = ls + k by rw [List.length_set, HLL.out])
      have HBX := hide (show Box ((w8.alloc (.cells (jmpC tz) 50)).alloc (.cells #[.slice (some ⟨w8.heap.size, 0, none⟩) 1 1] 53)) (w8.heap.size + 1) #[.slice (some ⟨w8.heap.size, 0, none⟩) 1 1] 53 by
        have t := Box.new (w8.alloc (.cells (jmpC tz) 50)) #[.slice (some ⟨w8.heap.size, 0, none⟩) 1 1] 53
        rw [World.size_alloc] at t
        exact t)
      obtain ⟨l8, hl8⟩ : ∃ l8, l.set a (bendB p1 tz ((ls + k : Nat) : Int), .slice (some ⟨g, 0, none⟩) (n + 1) cg) = l8 := ⟨_, rfl⟩
      rw [hl8] at HOW HLL8 HS8 HMAP
      have hroom : ls + k < 1000000 := by omega
      have lx8 : hb < w8.heap.size := by omega
      have l78 : h7 < w8.heap.size := by omega
      clear hl8
      go_wp2_with (at_builtin; refine wpList_append_c (c := blkC) (sz := 1) ((w8.alloc (.cells (jmpC tz) 50)).alloc (.cells #[.slice (some ⟨w8.heap.size, 0, none⟩) 1 1] 53)) (by rfl) _ _ _ (by rfl) w3.heap.size iB _ 24 Try.underlying28 HIB.out bz0 bz1 bz2 rfl (by omega) (by omega) (.slice (some ⟨gc, 0, none⟩) (ls + k) capc) l8 (ls + k) HLL8.out (by rfl) HOW.out ([jumpI tz], .slice (some ⟨w8.heap.size, 0, none⟩) 1 1) rfl (by intro u hu; simp [blkC] at hu; subst hu; rfl) (w8.heap.size + 1) _ HBX.out rfl (by rfl) hroom (by simp only [World.size_alloc]; omega) ?_; intro g9 c9 w9 ho9 hg9 ha9 hl9; have HA9 := hide (HS8.out.app (by omega) (by omega) (by omega) (by omega) heR hg9 ho9); have hbx9 := HS8.out.app_box hg9; have HK9 := hide hbx9.2; obtain ⟨x4', f4'⟩ := hbx9.1.cell 4 (v := .slice (some ⟨gc, 0, none⟩) (ls + k) capc) rfl; have lx9 := hbx9.1.lt; clear ho9 hg9 hbx9)
      go_roundw
      case rel => exact ⟨k + 1, _, _, by have := HLT.out; omega, by go_num, HA9, hide (HMAP.out _), hide (fun b hb1 hb2 => (heap_setCell_other w9 ⟨hb, 4, none⟩ b _ (by show b ≠ hb; omega)).trans ((HK9.out b hb2 (by omega)).trans (HE8.out b hb1 hb2)))⟩
      case measure => have := HLT.out; simp [intOf]; omega
    · have q1 : (yn == tz) = false := by simpa using hq
      go_quiet (fail)
      obtain ⟨w7, hw7⟩ : ∃ w7, w7 = w6.drewN nq := ⟨_, rfl⟩
      have HB7 := hide (show Below w6.heap.size w6 w7 by rw [hw7]; exact below_drewN (Below.refl _ _) nq)
      rw [← hw7]
      clear hw7
      have y4' := (HB7.out.cell (p := ⟨hb, 4, none⟩) lx6).trans y4
      have b5' := (HB7.out.cell (p := ⟨g, n * 7 + 5, none⟩) lg6).trans b5
      have z5' := (HB7.out.frozen (p := ⟨g, n * 7 + 5, none⟩) lg6).trans z5
      have lx7 : hb < w7.heap.size := by have := HB7.out.size; omega
      have lg7 : g < w7.heap.size := by have := HB7.out.size; omega
      obtain ⟨w8, hw8⟩ : ∃ w8, w8 = w7.setCell ⟨g, n * 7 + 5, none⟩ (.int .i64 ((ls : Int) + (k : Int))) := ⟨_, rfl⟩
      have HM8 := hide (show BlkM w8 w3.heap.size (.slice (some ⟨gc, 0, none⟩) (ls + k) capc) (l.set a (bendB p1 tz ((ls + k : Nat) : Int), .slice (some ⟨g, 0, none⟩) (n + 1) cg)) by rw [hw8]; exact HP5.out w7 HB7.out hq)
      have HBT8 := hide (show But g w6 w8 by rw [hw8]; exact HBN.out w7 HB7.out _ _)
      have x48 : w8.cell? ⟨hb, 4, none⟩ = some (.slice (some ⟨gc, 0, none⟩) (ls + k) capc) := (World.cell?_of_block (a := ⟨hb, 4, none⟩) (HBT8.out.block hb lx6 n1)).trans y4
      have b18 : w8.cell? ⟨h7, 1, none⟩ = some (.int .i64 tz) := (World.cell?_of_block (a := ⟨h7, 1, none⟩) (HBT8.out.block h7 l7 n2)).trans b1
      have w8s := HBT8.out.size
      clear b4 b5 z4 z5 y4 b0 b1 ya
      go_upto_region 14 with (fail)
      (try rw [← hw8])
      clear hw8 y4' b5' z5'
      have HS8 := hide (HS6.out.turned HBT8.out hgT6 (by omega) HM8.out)
      have HE8 := hide (show ∀ b, w1.heap.size ≤ b → b < w3.heap.size → w8.heap[b]? = w3.heap[b]? from fun b hb1 hb2 => (HBT8.out.block b (by omega) (by omega)).trans ((HB6.out.block b (by omega)).trans (HE.out b hb1 hb2)))
      have HOW := hide (show OwC blkC 53 1 ((w8.alloc (.cells (jmpC tz) 50)).alloc (.cells #[.slice (some ⟨w8.heap.size, 0, none⟩) 1 1] 53)) w3.heap.size (.slice (some ⟨gc, 0, none⟩) (ls + k) capc) (l.set a (bendB p1 tz ((ls + k : Nat) : Int), .slice (some ⟨g, 0, none⟩) (n + 1) cg)) from HS8.out.m.own.below (alloc2 w8 _ _))
      have HLL8 := hide (show (l.set a (bendB p1 tz ((ls + k : Nat) : Int), .slice (some ⟨g, 0, none⟩) (n + 1) cg)).length = ls + k by rw [List.length_set, HLL.out])
      have HBX := hide (show Box ((w8.alloc (.cells (jmpC tz) 50)).alloc (.cells #[.slice (some ⟨w8.heap.size, 0, none⟩) 1 1] 53)) (w8.heap.size + 1) #[.slice (some ⟨w8.heap.size, 0, none⟩) 1 1] 53 by
        have t := Box.new (w8.alloc (.cells (jmpC tz) 50)) #[.slice (some ⟨w8.heap.size, 0, none⟩) 1 1] 53
        rw [World.size_alloc] at t
        exact t)
      obtain ⟨l8, hl8⟩ : ∃ l8, l.set a (bendB p1 tz ((ls + k : Nat) : Int), .slice (some ⟨g, 0, none⟩) (n + 1) cg) = l8 := ⟨_, rfl⟩
      rw [hl8] at HOW HLL8 HS8 HMAP
      have hroom : ls + k < 1000000 := by omega
      have lx8 : hb < w8.heap.size := by omega
      have l78 : h7 < w8.heap.size := by omega
      clear hl8
      go_wp2_with (at_builtin; refine wpList_append_c (c := blkC) (sz := 1) ((w8.alloc (.cells (jmpC tz) 50)).alloc (.cells #[.slice (some ⟨w8.heap.size, 0, none⟩) 1 1] 53)) (by rfl) _ _ _ (by rfl) w3.heap.size iB _ 24 Try.underlying28 HIB.out bz0 bz1 bz2 rfl (by omega) (by omega) (.slice (some ⟨gc, 0, none⟩) (ls + k) capc) l8 (ls + k) HLL8.out (by rfl) HOW.out ([jumpI tz], .slice (some ⟨w8.heap.size, 0, none⟩) 1 1) rfl (by intro u hu; simp [blkC] at hu; subst hu; rfl) (w8.heap.size + 1) _ HBX.out rfl (by rfl) hroom (by simp only [World.size_alloc]; omega) ?_; intro g9 c9 w9 ho9 hg9 ha9 hl9; have HA9 := hide (HS8.out.app (by omega) (by omega) (by omega) (by omega) heR hg9 ho9); have hbx9 := HS8.out.app_box hg9; have HK9 := hide hbx9.2; obtain ⟨x4', f4'⟩ := hbx9.1.cell 4 (v := .slice (some ⟨gc, 0, none⟩) (ls + k) capc) rfl; have lx9 := hbx9.1.lt; clear ho9 hg9 hbx9)
      go_roundw
      case rel => exact ⟨k + 1, _, _, by have := HLT.out; omega, by go_num, HA9, hide (HMAP.out _), hide (fun b hb1 hb2 => (heap_setCell_other w9 ⟨hb, 4, none⟩ b _ (by show b ≠ hb; omega)).trans ((HK9.out b hb2 (by omega)).trans (HE8.out b hb1 hb2)))⟩
      case measure => have := HLT.out; simp [intOf]; omega
end Go.Proofs.Ytnoknodijombpaa
