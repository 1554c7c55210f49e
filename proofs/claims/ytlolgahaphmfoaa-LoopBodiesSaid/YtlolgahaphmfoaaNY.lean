/- What comes ahead of each block, in memory: the slice of slices that dom's comes makes. Condition: the function is one of a program that may be. -/
import Derived.Test.YtlolgahaphmfoaaYP
import Derived.Laws.CopyOwn
import Derived.Laws.Rows
set_option linter.unusedSimpArgs false
set_option linter.unusedVariables false
namespace Go.Proofs.Ytlolgahaphmfoaa
open Go.RowKit

theorem info_ints : (Try.prog.info? 27).map (fun i => (i.zero, i.size, i.bytes)) = some (some (.slice none 0 0), 1, 24) := by kernel_rfl
theorem madeCells_ints (n : Nat) : madeCells (Value.slice none 0 0).cells (n * 1) = (List.replicate n (Value.slice none 0 0)).toArray := by
  unfold madeCells
  apply Array.ext
  · simp
  · intro i h1 h2
    simp [Value.cells, Nat.mod_one]
/-- Slices that grow, in memory, each in a block of its own. -/
def CmW (w2 : World) (gp n : Nat) (es : List (Int × Int)) (k : Nat) (vs : List Value) (wr : World) : Prop :=
  vs.length = n ∧ Box wr gp vs.toArray 27 ∧ (∀ (b : Nat) (v : Value), vs[b]? = some v → Ow wr w2.heap.size 3 .i64 v (selTo es b k)) ∧
  (∀ (b c : Nat) (v u : Value) (g : Nat), b ≠ c → vs[b]? = some v → vs[c]? = some u → v.ownBlock = some g → u.ownBlock ≠ some g) ∧ But gp w2 wr
theorem CmW.start {w2 : World} {gp n : Nat} {es : List (Int × Int)} (h : Box w2 gp (List.replicate n (Value.slice none 0 0)).toArray 27) : CmW w2 gp n es 0 (List.replicate n (Value.slice none 0 0)) w2 := by
  refine ⟨by simp, h, fun b v hv => ?_, fun b c v u g _ hv _ hg => ?_, But.refl _ _⟩
  · have : v = .slice none 0 0 := by rw [List.getElem?_replicate] at hv; split at hv <;> simp_all
    subst this
    have : selTo es b 0 = [] := by simp [selTo]
    rw [this]
    exact Ow.nil _ _ _ _
  · have : v = .slice none 0 0 := by rw [List.getElem?_replicate] at hv; split at hv <;> simp_all
    subst this
    cases hg
theorem CmW.far {w2 wr : World} {gp n k b : Nat} {es : List (Int × Int)} {vs : List Value} {v : Value} (h : CmW w2 gp n es k vs wr) (hv : vs[b]? = some v) : v.ownBlock ≠ some gp := (h.2.2.1 b v hv).apart h.2.1 (by decide)
theorem CmW.step {w2 wr w4 w5 : World} {gp n k yb : Nat} {ya : Int} {es : List (Int × Int)} {vs : List Value} {v v5 : Value} (h : CmW w2 gp n es k vs wr) (hv : vs[yb]? = some v) (hy : es[k]? = some (ya, (yb : Int)))
    (hb4 : Below wr.heap.size wr w4) (hg : w4.grownBy w5 v.ownBlock) (ho : Ow w5 w2.heap.size 3 .i64 v5 (selTo es yb k ++ [ya])) (hv5 : v5.ownBlock = v.ownBlock ∨ ∃ g, v5.ownBlock = some g ∧ wr.heap.size ≤ g) :
    CmW w2 gp n es (k + 1) (vs.set yb v5) (w5.setCell ⟨gp, yb, none⟩ v5) := by
  obtain ⟨h1, h2, h3, h4, h5⟩ := h
  have hfar := (h3 yb v hv).apart h2 (by decide)
  have hyl := (List.getElem?_eq_some_iff.1 hv).1
  have hgl := h2.lt
  have k5 : ∀ b, b < wr.heap.size → v.ownBlock ≠ some b → w5.heap[b]? = wr.heap[b]? := fun b hb hn => (hg.block b (by have := hb4.size; omega) (fun e => hn e.symm)).trans (hb4.block b hb)
  have hb5 : Box w5 gp vs.toArray 27 := (k5 gp hgl hfar).trans h2
  have hsz5 : wr.heap.size ≤ w5.heap.size := by have := hb4.size; have := hg.size; omega
  have h5far := ho.apart hb5 (by decide)
  have kS : ∀ b, b < wr.heap.size → b ≠ gp → v.ownBlock ≠ some b → (w5.setCell ⟨gp, yb, none⟩ v5).heap[b]? = wr.heap[b]? := fun b hb hn1 hn2 => (heap_setCell_other _ _ _ _ hn1).trans (k5 b hb hn2)
  refine ⟨by simp [h1], by have := hb5.set yb v5; simpa using this, fun c u hu => ?_, fun b c u1 u2 g hbc hu1 hu2 hg1 => ?_, ?_⟩
  · by_cases e : c = yb
    · subst e
      rw [List.getElem?_set_self hyl] at hu
      injection hu with hu
      subst hu
      rw [← selTo_yes hy rfl]
      exact ho.kept' fun g hgv => heap_setCell_other _ _ _ _ (fun e => h5far (by rw [hgv, e]))
    · rw [List.getElem?_set_ne (fun h => e h.symm)] at hu
      rw [← selTo_no hy (by simp; omega)]
      refine (h3 c u hu).kept' fun g hgv => kS g ((h3 c u hu).row' g hgv).2.1 (fun e2 => (h3 c u hu).apart h2 (by decide) (by rw [hgv, e2])) (fun e2 => h4 yb c v u g (fun e3 => e e3.symm) hv hu e2 hgv)
  · by_cases e1 : b = yb
    · subst e1
      have e2 : c ≠ b := fun e => hbc e.symm
      rw [List.getElem?_set_self hyl] at hu1
      injection hu1 with hu1
      subst hu1
      rw [List.getElem?_set_ne (fun h => e2 h.symm)] at hu2
      rcases hv5 with h6 | ⟨g', h6, h7⟩
      · rw [h6] at hg1; exact h4 b c v u2 g hbc hv hu2 hg1
      · rw [h6] at hg1
        injection hg1 with hg1
        intro h8
        have := ((h3 c u2 hu2).row' g h8).2.1
        omega
    · rw [List.getElem?_set_ne (fun h => e1 h.symm)] at hu1
      by_cases e2 : c = yb
      · subst e2
        rw [List.getElem?_set_self hyl] at hu2
        injection hu2 with hu2
        subst hu2
        rcases hv5 with h6 | ⟨g', h6, h7⟩
        · rw [h6]; exact h4 b c u1 v g hbc hu1 hv hg1
        · rw [h6]
          intro h8
          injection h8 with h8
          have := ((h3 b u1 hu1).row' g hg1).2.1
          omega
      · rw [List.getElem?_set_ne (fun h => e2 h.symm)] at hu2
        exact h4 b c u1 u2 g hbc hu1 hu2 hg1
  · refine ⟨?_, ?_, ?_, by rw [World.size_setCell]; have := h5.size; omega, fun b hb hn => ?_⟩
    · exact (show (w5.setCell ⟨gp, yb, none⟩ v5).os = w5.os from rfl).trans (hg.os.trans (hb4.os.trans h5.os))
    · exact (show (w5.setCell ⟨gp, yb, none⟩ v5).tape = w5.tape from rfl).trans (hg.tape.trans (hb4.tape.trans h5.tape))
    · exact (show (w5.setCell ⟨gp, yb, none⟩ v5).output = w5.output from rfl).trans (hg.output.trans (hb4.output.trans h5.output))
    · have hbr : b < wr.heap.size := by have := h5.size; omega
      exact (kS b hbr hn (fun e => by have := ((h3 yb v hv).row' b e).1; omega)).trans (h5.block b hb hn)
theorem CmW.pv {w2 wr : World} {f : FunV} {gp n k ga : Nat} {vs : List Value} (h : CmW w2 gp n (edgesN f) k vs wr) (hk : (edgesN f).length ≤ k) (hg : gp ≠ ga) (ha : ga < w2.heap.size) : PvW wr gp n ga (fun b => prevN f (b : Int)) := by
  obtain ⟨h1, h2, h3, h4, h5⟩ := h
  refine ⟨h2.lt, hg, fun b hb => ?_⟩
  obtain ⟨v, hv⟩ : ∃ v, vs[b]? = some v := ⟨_, List.getElem?_eq_getElem (by omega)⟩
  have ho := h3 b v hv
  rw [selTo_all hk] at ho
  obtain ⟨A, c, rfl, hc, hm, hs⟩ := ho.sl
  refine ⟨A, c, (h2.cell b (by simpa using hv)).1, hc, hm, hs, fun be o e => ?_⟩
  have := (ho.row' be (by rw [e]; rfl)).1
  omega
set_option maxHeartbeats 2000000 in
set_option maxRecDepth 100000 in
theorem dcomes_any (vk vb vs : Value) (f : FunV) (w : World) (B : Nat) (hB : B ≤ w.heap.size) (hi : FunI w (· < B) vk vb vs f) (hok : FlowOk f) :
    Calls Try.prog 58 #[.agg #[vk, vb, .int .i64 f.params, .int .i64 f.result, vs]] w fun e w' => ∃ gp, e = .returned (.slice (some ⟨gp, 0, none⟩) f.blocks.length f.blocks.length) ∧ w.heap.size ≤ gp ∧ (∀ ga, ga < w.heap.size → PvW w' gp f.blocks.length ga (fun b => prevN f (b : Int))) ∧ Below w.heap.size w w' := by
  have HED := hide (fun (W : World) (hW : Below w.heap.size w W) => fedges_any vk vb vs f W B (by have := hW.size; omega) (hi.keep (up hW hB) (fun _ h => h)) hok)
  obtain ⟨Ak, ck, rfl, hck, hmk⟩ := hi.1.open'
  obtain ⟨Ab, cb, rfl, hcb, hmb⟩ := hi.2.1.open'
  obtain ⟨As, cs, rfl, hcs, hms⟩ := hi.2.2.1.open'
  obtain ⟨i0, hi0, hz0, hz1, hz2⟩ := info_parts info_i64
  have HI := hide hi0
  have hls40 := hok.1
  have hel := edgesN_len hok
  have hmake : ∀ W : World, (Instr.makeSlice 56 (.int .i64 (f.blocks.length : Int)) (.int .i64 (f.blocks.length : Int))).run Try.prog W = .ok (.slice (some ⟨W.heap.size, 0, none⟩) f.blocks.length f.blocks.length) (W.alloc (.cells (madeCells (Value.slice none 0 0).cells (f.blocks.length * 1)) 27)) := fun W => mk_run 56 27 Try.underlying56 info_ints (by omega) f.blocks.length (by omega) W
  obtain ⟨mc, hmc⟩ : ∃ mc, madeCells (Value.slice none 0 0).cells (f.blocks.length * 1) = mc := ⟨_, rfl⟩
  rw [hmc] at hmake
  have HMC := hide (show mc = (List.replicate f.blocks.length (Value.slice none 0 0)).toArray by rw [← hmc]; exact madeCells_ints _)
  have HEN := hide (fun (k : Nat) (p : Int × Int) (h : (edgesN f)[k]? = some p) => (show ∃ yb : Nat, p.2 = yb ∧ yb < f.blocks.length by
    obtain ⟨a, -, -, hv⟩ := edges_nat' (x := p.1) (v := p.2) (List.mem_of_getElem? h)
    have := hok.2.2 _ _ hv
    exact ⟨p.2.toNat, by omega, by omega⟩))
  have HPV := hide (fun (w2 wr : World) (gp n k ga : Nat) (vs : List Value) h h1 h2 h3 => @CmW.pv w2 wr f gp n k ga vs h h1 h2 h3)
  generalize edgesN f = es at *
  obtain ⟨n, hn⟩ : ∃ n, es.length = n := ⟨_, rfl⟩
  rw [hn] at hel HPV
  have HN := hide hn
  generalize f.kinds.length = lk, f.base.length = lb, f.blocks.length = ls, f.params = fp, f.result = fr at *
  clear hi hok hn hi0 hmc
  go_enter Try.func58, Try.ntmps58
  go_upto_region 1 with (fail)
  obtain ⟨w1, hw1⟩ : ∃ w1, w1 = w.alloc (.cells #[.slice Ak lk ck, .slice Ab lb cb, .int .i64 fp, .int .i64 fr, .slice As ls cs] 30) := ⟨_, rfl⟩
  obtain ⟨h1, hh1⟩ : ∃ h1, w.heap.size = h1 := ⟨_, rfl⟩
  have HX1 := hide (show Box w1 h1 #[.slice Ak lk ck, .slice Ab lb cb, .int .i64 fp, .int .i64 fr, .slice As ls cs] 30 by rw [hw1, ← hh1]; exact Box.new w _ _)
  have HB1 := hide (show Below w.heap.size w w1 by rw [hw1]; exact alloc1 w _)
  have h1w : w.heap.size ≤ h1 := by omega
  rw [← hw1, hh1]
  clear hw1 hh1
  have l1 := HX1.out.lt
  have c4 := (HX1.out.cell 4 (v := .slice As ls cs) rfl).1
  go_upto_region 2 with (fail)
  obtain ⟨wp, hwp⟩ : ∃ wp, wp = w1.alloc (.cells mc 27) := ⟨_, rfl⟩
  obtain ⟨gp, hgp⟩ : ∃ gp, w1.heap.size = gp := ⟨_, rfl⟩
  have HMP := hide (show Box wp gp (List.replicate ls (Value.slice none 0 0)).toArray 27 by rw [hwp, ← hgp, ← HMC.out]; exact Box.new w1 _ _)
  have HXP := hide (show Box wp h1 #[.slice Ak lk ck, .slice Ab lb cb, .int .i64 fp, .int .i64 fr, .slice As ls cs] 30 by rw [hwp]; exact HX1.out.alloc _)
  have HBP := hide (show Below w.heap.size w wp by rw [hwp]; exact HB1.out.alloc HB1.out.size _)
  have hwgp : w.heap.size ≤ gp := by rw [← hgp]; exact HB1.out.size
  rw [← hwp, hgp]
  clear hwp hgp c4 l1 hmake HMC
  have lp := HXP.out.lt
  have c0 := (HXP.out.cell 0 (v := .slice Ak lk ck) rfl).1
  have c1 := (HXP.out.cell 1 (v := .slice Ab lb cb) rfl).1
  have c2 := (HXP.out.cell 2 (v := .int .i64 fp) rfl).1
  have c3 := (HXP.out.cell 3 (v := .int .i64 fr) rfl).1
  have c4 := (HXP.out.cell 4 (v := .slice As ls cs) rfl).1
  go_wp2_with (go_at_call 32; refine (HED.out wp HBP.out).mono ?_; rintro e w2 ⟨ve, rfl, hoe, hb2⟩; obtain ⟨Ae, ce, hve, hce, hme, hse⟩ := hoe.sl; have HSE := hide hse; have HM2 := hide (HMP.out.below hb2); have HB2 := hide (HBP.out.trans (hb2.mono HBP.out.size)); have HAE := hide (show ∀ b o, Ae = some ⟨b, o, none⟩ → b ≠ gp from fun b o e => by have := (World.ownsRow.lt hoe b (by rw [hve, e]; rfl)).1; have := HMP.out.lt; omega); rw [HN.out] at hve; subst hve; clear hb2 hoe hse)
  rw [HN.out] at hce
  clear c0 c1 c2 c3 c4
  have HG2 := hide HM2.out.lt
  have HPE := hide (fun (wr : World) (k ga : Nat) (vs : List Value) (h : CmW w2 gp ls es k vs wr) (hk : n ≤ k) (hga : ga < w.heap.size) => HPV.out w2 wr gp ls k ga vs h hk (by omega) (by have := HB2.out.size; omega))
  go_loopw [13] (fun i wr => ∃ (k : Nat) (vs : List Value), k ≤ n ∧ i = .int .i64 k ∧ Hid (CmW w2 gp ls es k vs wr)) (fun i _ => n - (intOf i).toNat)
  case atStart => exact ⟨0, _, Nat.zero_le _, rfl, hide (CmW.start HM2.out)⟩
  case round =>
    obtain ⟨k, vs, hk, rfl, hin⟩ := hrel
    obtain ⟨wo, rfl⟩ : ∃ wo, wo = wr := ⟨_, rfl⟩
    have HC := hide hin.out
    have HBT := hide hin.out.2.2.2.2
    have HBE := hide (HBT.out.below HB2.out hwgp HB2.out.size)
    have hsz := HBT.out.size
    clear hin
    by_cases hlt : k < n
    case neg =>
      have HR := hide (fun ga hga => HPE.out wo k ga vs HC.out (by omega) hga)
      go_wp2
      go_ret
      exact ⟨gp, rfl, hwgp, HR.out, HBE.out⟩
    obtain ⟨y, hy⟩ : ∃ y, es[k]? = some y := ⟨_, List.getElem?_eq_getElem (by have := HN.out; omega)⟩
    obtain ⟨yb, hyb, hybl⟩ := HEN.out k y hy
    obtain ⟨be, oe, rfl, hbe, hce'⟩ := HSE.out (by have := HN.out; omega)
    obtain ⟨y1, y2⟩ := hce' k y hy
    have hbg := HAE.out be oe rfl
    have kb := HBT.out.block be hbe hbg
    have d1 := (World.cell?_of_block (a := ⟨be, oe + k * 2, none⟩) kb).trans y1
    have d2 := (World.cell?_of_block (a := ⟨be, oe + k * 2 + 1, none⟩) kb).trans y2
    have hbs : be < wo.heap.size := by omega
    obtain ⟨ya, yc⟩ := y
    simp only at d1 d2 hyb
    subst hyb
    have HY := hide hy
    obtain ⟨v, hv⟩ : ∃ v, vs[yb]? = some v := ⟨_, List.getElem?_eq_getElem (by rw [HC.out.1]; exact hybl)⟩
    have HV := hide hv
    have HFAR := hide (HC.out.far hv)
    have HOW := hide (HC.out.2.2.1 yb v hv)
    have hlen : (selTo es yb k).length < 1000000 := by have := selTo_len es yb k; omega
    have HLN := hide hlen
    obtain ⟨Av, cv, rfl, hcv, hmv, hsv⟩ := HOW.out.sl
    have hyi : (0 : Int) ≤ (yb : Int) := by omega
    have hyj : (yb : Int) < (ls : Int) := by omega
    clear hce' y1 y2 hy kb hv hlen
    go_upto_region 5 with (fail)
    obtain ⟨w4, hw4⟩ : ∃ w4, w4 = wo.alloc (.cells #[.int .i64 ya, .int .i64 (yb : Int)] 42) := ⟨_, rfl⟩
    obtain ⟨h4, hh4⟩ : ∃ h4, wo.heap.size = h4 := ⟨_, rfl⟩
    have HX4 := hide (show Box w4 h4 #[.int .i64 ya, .int .i64 (yb : Int)] 42 by rw [hw4, ← hh4]; exact Box.new wo _ _)
    have HB4 := hide (show Below wo.heap.size wo w4 by rw [hw4]; exact alloc1 wo _)
    have hg4 : h4 ≠ gp := by have := HC.out.2.1.lt; omega
    have h4o : wo.heap.size ≤ h4 := by omega
    rw [← hw4, hh4]
    clear hw4 hh4 d1 d2 hbs
    have l4 := HX4.out.lt
    have hz4 := HB4.out.size
    have hgl := HC.out.2.1.lt
    have hgl4 : gp < w4.heap.size := by omega
    have HP4 := hide (HC.out.2.1.below HB4.out)
    have x0 := (HX4.out.cell 0 (v := .int .i64 ya) rfl).1
    have x1 := (HX4.out.cell 1 (v := .int .i64 (yb : Int)) rfl).1
    obtain ⟨pc, pf⟩ := HP4.out.cell yb (by simpa using HV.out)
    have HO4 := hide (show Ow w4 w2.heap.size 3 .i64 (.slice Av (selTo es yb k).length cv) (selTo es yb k) from HOW.out.below HB4.out)
    have h4own : ∀ g, (Value.slice Av (selTo es yb k).length cv).ownBlock = some g → g ≠ h4 := fun g hg => by have := (HOW.out.row' g hg).2.1; omega
    have H4O := hide h4own
    have hbs4 : w2.heap.size ≤ w4.heap.size := by omega
    clear h4own
    go_region_law
      (first
        | (refine step_append_int ((w4.drewN 1).alloc (.cells #[.int .i64 ya] 3)) (by rfl) _ _ _ (by rfl) w2.heap.size i0 _ Try.underlying27 HI.out hz0 hz1 hz2 rfl (.slice Av (selTo es yb k).length cv) (selTo es yb k) (by rfl) ((HO4.out.drewN 1).alloc _) ya w4.heap.size (Box.new (w4.drewN 1) _ _) (by rfl) HLN.out (by simp only [World.size_alloc]; exact Nat.le_succ_of_le hbs4) ?_; intro g5 cap5 w5 ho5 hg5 hv5 hl5; have hne := HFAR.out; have z7 := (hg5.cell_far ⟨gp, yb, none⟩ (by simp only [World.size_alloc]; exact Nat.lt_succ_of_lt hgl4) (Ne.symm hne)).trans ((World.cell?_alloc_lt (w4.drewN 1) _ ⟨gp, yb, none⟩ hgl4).trans pc); have z7f := (hg5.frozen_far ⟨gp, yb, none⟩ (by simp only [World.size_alloc]; exact Nat.lt_succ_of_lt hgl4) (Ne.symm hne)).trans ((World.frozen?_of_block (a := ⟨gp, yb, none⟩) (w := w4.drewN 1) (Below.heap_alloc (w4.drewN 1) _ gp hgl4)).trans pf); have z8 := (hg5.cell_far ⟨h4, 0, none⟩ (by simp only [World.size_alloc]; exact Nat.lt_succ_of_lt l4) (fun e => H4O.out h4 e.symm rfl)).trans ((World.cell?_alloc_lt (w4.drewN 1) _ ⟨h4, 0, none⟩ l4).trans x0); have z9 := (hg5.cell_far ⟨h4, 1, none⟩ (by simp only [World.size_alloc]; exact Nat.lt_succ_of_lt l4) (fun e => H4O.out h4 e.symm rfl)).trans ((World.cell?_alloc_lt (w4.drewN 1) _ ⟨h4, 1, none⟩ l4).trans x1)))
    all_goals
      have HN5 := hide (HC.out.step (w4 := (w4.drewN 1).alloc (.cells #[.int .i64 ya] 3)) HV.out HY.out ((below_drewN HB4.out 1).alloc hz4 _) hg5 ho5 (by
        rcases hv5 with h | h
        · exact .inl (by rw [h]; rfl)
        · refine .inr ⟨g5, rfl, ?_⟩
          rw [h, World.size_alloc]
          exact Nat.le_succ_of_le hz4))
      go_wp2
      go_roundw
      case rel => exact ⟨k + 1, _, by omega, by go_num, HN5⟩
      case measure => simp [intOf]; omega
end Go.Proofs.Ytlolgahaphmfoaa
namespace Go.Proofs.Ytlolgahaphmfoaa
open Go.RowKit

theorem and_few : ∀ n : Fin 41, Go.bits BinOp.and IntKind.u64 ((n.val : Nat) : Int) 4294967295 = ((n.val : Nat) : Int) := by decide
theorem u64_few {n : Nat} (hn : n ≤ 40) : IntKind.u64.wrap (n : Int) = n := (by decide : ∀ n : Fin 41, IntKind.u64.wrap ((n.val : Nat) : Int) = ((n.val : Nat) : Int)) ⟨n, by omega⟩
theorem i64_few {n : Nat} (hn : n ≤ 40) : IntKind.i64.wrap (n : Int) = n := (by decide : ∀ n : Fin 41, IntKind.i64.wrap ((n.val : Nat) : Int) = ((n.val : Nat) : Int)) ⟨n, by omega⟩
set_option maxRecDepth 100000 in
theorem mul64_one (n : Nat) (hn : n ≤ 40) (w : World) :
    Calls Try.prog 91 #[.int .u64 1, .int .u64 (n : Int)] w fun e w' => e = .returned (.tuple #[.int .u64 0, .int .u64 (n : Int)]) ∧ w' = w := by
  have a1 : Go.bits BinOp.and IntKind.u64 1 4294967295 = 1 := by decide
  have a2 : Go.bits BinOp.and IntKind.u64 (n : Int) 4294967295 = n := and_few ⟨n, by omega⟩
  have a3 := u64_few hn
  have a4 : (n : Int) / 4294967296 = 0 := by omega
  have a5 : Go.bits BinOp.and IntKind.u64 0 4294967295 = 0 := by decide
  have a6 : IntKind.u64.wrap 0 = 0 := by decide
  clear hn
  go_enter Try.func91, Try.ntmps91
  go_wp2
  go_ret2
  exact ⟨by simp [*], rfl⟩
set_option maxRecDepth 100000 in
theorem mul_one' (n : Nat) (hn : n ≤ 40) (w : World) :
    Calls Try.prog 73 #[.int .u64 1, .int .u64 (n : Int)] w fun e w' => e = .returned (.tuple #[.int .u64 0, .int .u64 (n : Int)]) ∧ w' = w := by
  have HM := hide (mul64_one n hn w)
  clear hn
  go_enter Try.func73, Try.ntmps73
  go_wp2_with (go_at_call 91; refine (HM.out).mono ?_; rintro e w2 ⟨rfl, rfl⟩)
  go_ret2
  exact ⟨rfl, rfl⟩
theorem size_i64' : (Try.prog.info? 3).map (·.size) = some 1 := by kernel_rfl
/-- A row of n numbers under way: the first k of them are c. -/
def repL (n k : Nat) (c : Int) : List Value := List.replicate k (Value.int .i64 c) ++ List.replicate (n - k) (Value.int .i64 0)
theorem repL_len {n k : Nat} {c : Int} (h : k ≤ n) : (repL n k c).length = n := by simp [repL]; omega
theorem repL_splice {n k m : Nat} {c : Int} (h : k + m ≤ n) : splice (repL n k c) k (List.replicate m (Value.int .i64 c)) = repL n (k + m) c := by
  unfold splice repL
  rw [List.take_append_of_le_length (by simp), List.take_of_length_le (by simp), List.length_replicate, List.drop_append, List.drop_eq_nil_of_le (by simp), List.nil_append, List.length_replicate, List.drop_replicate, ← List.append_assoc, List.replicate_append_replicate]
  congr 2
  omega
theorem repL_zero (n : Nat) (c : Int) : (madeCells (Value.int .i64 0).cells (n * 1)) = (repL n 0 c).toArray := by
  rw [madeCells_int]; simp [repL]
theorem repL_all (n : Nat) (c : Int) : (repL n n c).toArray = ((List.replicate n c).map (Value.int .i64)).toArray := by simp [repL]
theorem repL_cell {w : World} {g n k j : Nat} {c : Int} {v : Value} (h : w.heap[g]? = some (.cells (repL n k c).toArray 3 (0, 0))) (hj : j < k) (hv : (List.replicate k (Value.int .i64 c))[j]? = some v) : w.cell? ⟨g, j, none⟩ = some v := by
  refine (Box.cell (w := w) (h := g) (T := 3) h j ?_).1
  simp only [List.getElem?_toArray]
  unfold repL
  rw [List.getElem?_append_left (by simpa using hj)]
  exact hv
set_option maxHeartbeats 1000000 in
set_option maxRecDepth 100000 in
theorem repeat_any (n : Nat) (c : Int) (bx : Nat) (w : World) (h1 : 1 ≤ n) (hn : n ≤ 40) (hx : w.cell? ⟨bx, 0, none⟩ = some (.int .i64 c)) (hbx : bx < w.heap.size) :
    Calls Try.prog 57 #[.slice (some ⟨bx, 0, none⟩) 1 1, .int .i64 (n : Int)] w fun e w' => ∃ g, e = .returned (.slice (some ⟨g, 0, none⟩) n n) ∧ w.heap.size ≤ g ∧ AbW w' g (List.replicate n c) ∧ Below w.heap.size w w' := by
  have HM := hide (mul_one' n hn w)
  have hmake : ∀ W : World, (Instr.makeSlice 27 (.int .i64 (n : Int)) (.int .i64 (n : Int))).run Try.prog W = .ok (.slice (some ⟨W.heap.size, 0, none⟩) n n) (W.alloc (.cells (madeCells (Value.int .i64 0).cells (n * 1)) 3)) := fun W => mk_run 27 3 Try.underlying27 info_i64 (by omega) n (by omega) W
  obtain ⟨mc, hmc⟩ : ∃ mc, madeCells (Value.int .i64 0).cells (n * 1) = mc := ⟨_, rfl⟩
  rw [hmc] at hmake
  have HMC := hide (show mc = (repL n 0 c).toArray by rw [← hmc]; exact repL_zero n c)
  have a3 := u64_few hn
  have a4 := i64_few hn
  have a5 : ¬ n < 0 := by omega
  have a6 : ¬ 9223372036854775807 < n := by omega
  have a7 : ¬ (n : Int) < 0 := by omega
  have a8 : ¬ (9223372036854775807 : Int) < (n : Int) := by omega
  have HN := hide hn
  have H1 := hide h1
  have hw0 : w.heap.size ≠ bx := by omega
  have HXX := hide hx
  clear hmc
  go_enter Try.func57, Try.ntmps57
  go_upto_region 7 with (go_at_call 73; refine (HM.out).mono ?_; rintro e w2 ⟨rfl, rfl⟩)
  obtain ⟨w1, hw1⟩ : ∃ w1, w1 = w2.alloc (.cells mc 3) := ⟨_, rfl⟩
  obtain ⟨g, hg⟩ : ∃ g, w2.heap.size = g := ⟨_, rfl⟩
  have HG1 := hide (show w1.heap[g]? = some (.cells (repL n 0 c).toArray 3 (0, 0)) by rw [hw1, ← hg, ← HMC.out]; exact heap_alloc_new w2 _)
  have HB1 := hide (show Below w2.heap.size w2 w1 by rw [hw1]; exact alloc1 w2 _)
  have hgw : w2.heap.size ≤ g := by omega
  rw [← hw1, hg]
  clear hw1 hg hmake HMC hx
  obtain ⟨X, hX⟩ : ∃ X, X = [Value.int .i64 c] := ⟨_, rfl⟩
  have HX := hide hX
  obtain ⟨L, hL⟩ : ∃ L, L = repL n 0 c := ⟨_, rfl⟩
  have HL := hide hL
  rw [← hL] at HG1
  have hXl : X.length = 1 := by rw [hX]; rfl
  have hLl : L.length = n := by rw [hL]; exact repL_len (by omega)
  clear hX hL
  go_wp2_with (refine wpList_copy_splice (by rfl) (.tmp 31) (.tmp 32) 27 27 (by rfl) 3 Try.underlying27 size_i64' (some ⟨g, 0, none⟩) (some ⟨bx, 0, none⟩) n n 1 1 (by rfl) (by rfl) g 0 L 3 HG1.out X (by have := H1.out; rw [hXl]; simp only [Nat.min_def]; split <;> omega) (fun hp => ⟨rfl, ?_⟩) (by rw [hXl, hLl]; omega) (by rw [HX.out]; intro v hv; simp at hv; subst hv; rfl) w2.heap.size w2 HB1.out hgw ?_)
  · refine ⟨⟨bx, 0, none⟩, rfl, fun j v hj => ?_⟩
    rw [HX.out] at hj
    have hj0 : j = 0 := by
      have := (List.getElem?_eq_some_iff.1 hj).1
      simpa using this
    subst hj0
    simp at hj
    subst hj
    rw [Addr.add_lit]
    exact (HB1.out.cell (p := ⟨bx, 0, none⟩) hbx).trans HXX.out
  · intro w3 hg3 hb3
    have HG3 := hide (show w3.heap[g]? = some (.cells (repL n 1 c).toArray 3 (0, 0)) by
      have h := hg3.out
      rw [HX.out, HL.out] at h
      have h2 := repL_splice (n := n) (k := 0) (m := 1) (c := c) (by have := H1.out; omega)
      simp only [List.replicate_one] at h2
      rw [h2] at h
      exact h)
    have HB3 := hide hb3
    clear hg3 hb3 HG1 hLl HL HX
    go_wp2
    go_loopw [8] (fun i wr => ∃ k : Nat, k ≤ n ∧ i = .int .i64 (k : Int) ∧ Hid (1 ≤ k) ∧ Hid (wr.heap[g]? = some (.cells (repL n k c).toArray 3 (0, 0))) ∧ Below w2.heap.size w2 wr) (fun i _ => n - (intOf i).toNat)
    case atStart => exact ⟨1, H1.out, by first | rfl | go_num, hide (Nat.le_refl _), HG3, HB3.out⟩
    case round =>
      obtain ⟨k, hk, rfl, hk1, hin, hb⟩ := hrel
      obtain ⟨wo, rfl⟩ : ∃ wo, wo = wr := ⟨_, rfl⟩
      have HBO := hide hb
      clear hb
      by_cases hlt : k < n
      case neg =>
        have HE := hide (show AbW wo g (List.replicate n c) by
          have h := hin.out
          rw [show k = n by omega, repL_all] at h
          exact h)
        go_wp2
        go_ret
        exact ⟨g, rfl, hgw, HE.out, HBO.out⟩
      obtain ⟨m, hm⟩ : ∃ m, m = Nat.min k (n - k) := ⟨_, rfl⟩
      have hm1 : 1 ≤ m ∧ k + m ≤ n := by have := hk1.out; rw [hm]; simp only [Nat.min_def]; split <;> omega
      have HM1 := hide hm1
      have HMK := hide (show m ≤ k by rw [hm]; exact Nat.min_le_left _ _)
      have HM := hide hm
      obtain ⟨X, hX⟩ : ∃ X, X = List.replicate m (Value.int .i64 c) := ⟨_, rfl⟩
      have HX := hide hX
      obtain ⟨L, hL⟩ : ∃ L, L = repL n k c := ⟨_, rfl⟩
      have HL := hide hL
      have HLO := hide hin.out
      rw [← hL] at hin
      have hXl : X.length = m := by rw [hX]; simp
      have hLl : L.length = n := by rw [hL]; exact repL_len (by omega)
      have e1 : IntKind.i64.wrap ((k : Int) + (m : Int)) = ((k + m : Nat) : Int) := by
        have := i64_few (n := k + m) (by have := HN.out; omega)
        rw [← this]; congr 1
      have HXL := hide hXl
      have i1 : (0 : Int) ≤ (k : Int) := by omega
      have i2 : (k : Int) ≤ (n : Int) := by omega
      clear hX hL hm hm1
      go_upto_region 9 with (fail)
      go_region_law
        (first
          | (refine step_copy_splice rfl (.tmp 41) (.tmp 44) _ _ rfl 3 Try.underlying27 size_i64' (some ⟨g, k, none⟩) (some ⟨g, 0, none⟩) (n - k) (n - k) k n (by go_simp; omega) (by go_simp) g k L 3 hin.out X (by rw [HXL.out]; exact HM.out) (fun hp => ⟨rfl, ⟨g, 0, none⟩, rfl, fun j v hj => by rw [HX.out] at hj; have hjm : j < m := (by simpa using (List.getElem?_eq_some_iff.1 hj).1); rw [Addr.add_lit, Nat.zero_add]; exact repL_cell (w := wo) HLO.out (by have := HMK.out; omega) (by rw [List.getElem?_replicate] at hj ⊢; rw [if_pos hjm] at hj; rw [if_pos (by have := HMK.out; omega)]; exact hj)⟩) (by rw [HXL.out, hLl]; exact HM1.out.2) (by rw [HX.out]; intro v hv; rw [List.eq_of_mem_replicate hv]; rfl) w2.heap.size w2 (below_drewN HBO.out 1) hgw ?_; intro w4 hg4 hb4))
      all_goals
        have HG4 := hide (show w4.heap[g]? = some (.cells (repL n (k + m) c).toArray 3 (0, 0)) by
          have h := hg4.out
          rw [HX.out, HL.out, repL_splice HM1.out.2] at h
          exact h)
        have HB4 := hide hb4
        clear hg4 hb4
        go_wp2
        go_roundw
        case rel => exact ⟨k + m, HM1.out.2, by go_num, hide (by have := hk1.out; omega), HG4, HB4.out⟩
        case measure => have := HM1.out; simp [intOf]; omega
end Go.Proofs.Ytlolgahaphmfoaa
namespace Go.Proofs.Ytlolgahaphmfoaa
open Go.RowKit
attribute [local go_sem ↓] Go.wp_at_zero Go.wp_at_succ

theorem tnO_nil : tnO [] = fun _ => 0 := by funext b; unfold tnO; rw [placeN_out (by simp)]; rfl
theorem tnO_snoc {o : List Int} {b : Nat} (hb : (b : Int) ∉ o) : tnO (o ++ [(b : Int)]) = fun x => if x = b then o.length else tnO o x := by
  funext x
  unfold tnO
  rw [placeN_snoc hb]
  by_cases e : x = b
  · subst e
    rw [if_pos rfl, if_pos rfl]
    omega
  · rw [if_neg (by omega), if_neg e]
theorem TnW.zero {w : World} {gt n : Nat} {mc : Array Value} (h : Box w gt mc 3) (hm : mc = ((List.replicate n (0 : Int)).map (Value.int .i64)).toArray) : TnW w gt n (fun _ => 0) := by
  subst hm
  unfold TnW
  have e : (List.range n).map (fun _ : Nat => Value.int .i64 ((0 : Nat) : Int)) = (List.replicate n (0 : Int)).map (Value.int .i64) := by
    apply List.ext_getElem
    · simp
    · intro i h1 h2; simp
  rw [e]
  exact h
theorem TnW.set {w : World} {gt n b v : Nat} {tn : Nat → Nat} (h : TnW w gt n tn) : TnW (w.setCell ⟨gt, b, none⟩ (.int .i64 (v : Int))) gt n (fun x => if x = b then v else tn x) := by
  have := Box.set h b (.int .i64 (v : Int))
  unfold TnW
  have e : (List.range n).map (fun x : Nat => Value.int .i64 (((if x = b then v else tn x : Nat) : Nat) : Int)) = ((List.range n).map (fun x : Nat => Value.int .i64 ((tn x : Nat) : Int))).set b (.int .i64 (v : Int)) := by
    apply List.ext_getElem
    · simp
    · intro i h1 h2
      rw [List.getElem_set]
      by_cases e : i = b
      · subst e; simp
      · simp [e]; intro h; exact absurd h.symm e
  rw [e]
  simpa using this
theorem Box.newAt {w : World} {k : Nat} {cs : Array Value} {T : TypeId} (h : w.heap.size = k) : Box (w.alloc (.cells cs T)) k cs T := by subst h; exact Box.new w cs T
theorem Box.drew {w : World} {k : Nat} {cs : Array Value} {T : TypeId} (h : Box w k cs T) : Box w.drew k cs T := h
theorem Box.use {w w' : World} {k : Nat} {cs : Array Value} {T : TypeId} {G : Prop} (hb : Below w.heap.size w w') (b : Box w k cs T) (h : Box w' k cs T → G) : G := h (b.below hb)
theorem Box.put2 {w : World} {k : Nat} {a b v0 v1 : Value} {T : TypeId} (h : Box w k #[a, b] T) : Box ((w.setCell ⟨k, 0, none⟩ v0).setCell ⟨k, 1, none⟩ v1) k #[v0, v1] T := by
  have := (Box.set h 0 v0).set 1 v1
  simpa using this
theorem Below.use {a w w' : World} {B : Nat} {G : Prop} (hb : Below w.heap.size w w') (h : Below B a w) (hB : B ≤ w.heap.size) (k : Below B a w' → G) : G := k (h.trans (hb.mono hB))
theorem Below.dr {a w : World} {B : Nat} (h : Below B a w) : Below B a w.drew := below_drewN h 1
theorem size_tree : (Try.prog.info? 62).map (·.size) = some 2 := by kernel_rfl
theorem PvW.but2 {w w' : World} {gp n ga gt : Nat} {pv : Nat → List Int} (h : PvW w gp n ga pv) (h2 : PvW w gp n gt pv) (hb : But gt w w') : PvW w' gp n ga pv := by
  obtain ⟨p1, p2, p3⟩ := h2.but hb
  refine ⟨p1, h.2.1, fun b hbn => ?_⟩
  obtain ⟨A, c, c1, c2, c3, c4, c5⟩ := p3 b hbn
  obtain ⟨A', c', d1, d2, d3, d4, d5⟩ := h.2.2 b hbn
  have e : w'.cell? ⟨gp, b, none⟩ = w.cell? ⟨gp, b, none⟩ := World.cell?_of_block (a := ⟨gp, b, none⟩) (hb.block gp h.1 h2.2.1)
  rw [e, d1] at c1
  injection c1 with c1
  injection c1 with c1 _ _
  subst c1
  exact ⟨A', c, by rw [e, d1]; congr 2, c2, c3, c4, d5⟩
def TnL (w7 : World) (gt n : Nat) (o : List Int) (k : Nat) (wr : World) : Prop := TnW wr gt n (tnO (o.take k)) ∧ But gt w7 wr
theorem TnL.step {w7 wr : World} {gt n k b : Nat} {o : List Int} (h : TnL w7 gt n o k wr) (hn : o.Nodup) (hy : o[k]? = some (b : Int)) : TnL w7 gt n o (k + 1) (wr.setCell ⟨gt, b, none⟩ (.int .i64 (k : Int))) := by
  refine ⟨?_, h.2.set⟩
  have hk := (List.getElem?_eq_some_iff.1 hy).1
  rw [take_snocI hy, tnO_snoc (nodup_take hn hy), List.length_take, Nat.min_eq_left (Nat.le_of_lt hk)]
  exact h.1.set
def GrL (w8 : World) (ga n m : Nat) (tn : Nat → Nat) (R : Nat → Prop) (pv : Nat → List Int) (D : Nat → Nat → Prop) (k : Nat) (wr : World) : Prop := ∃ A, farA m tn A = k ∧ GI n tn R pv D 1 A ∧ AbW wr ga A ∧ But ga w8 wr
def GStart (w1 : World) (base n : Nat) (p : Value) (w' : World) : Prop := ∃ h4 ga gt, p = .pointer (some ⟨h4, 0, none⟩) ∧ Box w' h4 #[.slice (some ⟨ga, 0, none⟩) n n, .slice (some ⟨gt, 0, none⟩) n n] 62 ∧ AbW w' ga (List.replicate n (-1)) ∧ TnW w' gt n (fun _ => 0) ∧
  ga ≠ gt ∧ base ≤ h4 ∧ base ≤ ga ∧ base ≤ gt ∧ Below base w1 w'
theorem gstart_of {w1 w' : World} {base n h4 ga gt : Nat} {mc : Array Value} (hmc : mc = ((List.replicate n (0 : Int)).map (Value.int .i64)).toArray) (b : Box w' h4 #[.slice (some ⟨ga, 0, none⟩) n n, .slice (some ⟨gt, 0, none⟩) n n] 62) (ha : Box w' ga (((List.replicate n (-1 : Int)).map (Value.int .i64)).toArray) 3) (hm : Box w' gt mc 3)
    (h1 : ga ≠ gt) (h2 : base ≤ h4) (h3 : base ≤ ga) (h5 : base ≤ gt) (hb : Below base w1 w') : GStart w1 base n (.pointer (some ⟨h4, 0, none⟩)) w' := ⟨h4, ga, gt, rfl, b, ha, TnW.zero hm hmc, h1, h2, h3, h5, hb⟩
set_option maxHeartbeats 2000000 in
set_option maxRecDepth 100000 in
theorem grow_any (vk vb vs : Value) (f : FunV) (w : World) (B : Nat) (hB : B ≤ w.heap.size) (hi : FunI w (· < B) vk vb vs f) (hok : FlowOk f) (h1 : 1 ≤ f.blocks.length) :
    Calls Try.prog 43 #[.agg #[vk, vb, .int .i64 f.params, .int .i64 f.result, vs]] w fun e w' => ∃ ga gt o A, e = .returned (.agg #[.slice (some ⟨ga, 0, none⟩) f.blocks.length f.blocks.length, .slice (some ⟨gt, 0, none⟩) f.blocks.length f.blocks.length]) ∧
      OrderOf f o ∧ AbW w' ga A ∧ TnW w' gt f.blocks.length (tnO o) ∧ w.heap.size ≤ ga ∧ w.heap.size ≤ gt ∧ Rest f.blocks.length (tnO o) (rO o) (fun b => prevN f (b : Int)) (Dmn f) A ∧ Below w.heap.size w w' := by
  have HOR := hide (fun (W : World) (hW : Below w.heap.size w W) => forder_any vk vb vs f W B (by have := hW.size; omega) (hi.keep (up hW hB) (fun _ h => h)) hok h1)
  have HCM := hide (fun (W : World) (hW : Below w.heap.size w W) => dcomes_any vk vb vs f W B (by have := hW.size; omega) (hi.keep (up hW hB) (fun _ h => h)) hok)
  have HGR := hide (fun (o : List Int) (h : OrderOf f o) => gr_of hok h1 h)
  have HRO := hide (fun (o : List Int) (h : OrderOf f o) => order_reach hok h1 h)
  have HRNG := hide (fun (o : List Int) (h : OrderOf f o) (y : Int) (hy : y ∈ o) => (show 0 ≤ y ∧ y < (f.blocks.length : Int) from (order_reach hok h1 h).rng y hy))
  have HOL := hide (fun (o : List Int) (h : OrderOf f o) => order_len hok h1 h)
  obtain ⟨Ak, ck, rfl, hck, hmk⟩ := hi.1.open'
  obtain ⟨Ab, cb, rfl, hcb, hmb⟩ := hi.2.1.open'
  obtain ⟨As, cs, rfl, hcs, hms⟩ := hi.2.2.1.open'
  have hls40 := hok.1
  have HP80 := hide (fun b : Nat => prevN_len80 hok (b : Int))
  have hmake : ∀ W : World, (Instr.makeSlice 27 (.int .i64 (f.blocks.length : Int)) (.int .i64 (f.blocks.length : Int))).run Try.prog W = .ok (.slice (some ⟨W.heap.size, 0, none⟩) f.blocks.length f.blocks.length) (W.alloc (.cells (madeCells (Value.int .i64 0).cells (f.blocks.length * 1)) 3)) := fun W => mk_run 27 3 Try.underlying27 info_i64 (by omega) f.blocks.length (by omega) W
  obtain ⟨mc, hmc⟩ : ∃ mc, madeCells (Value.int .i64 0).cells (f.blocks.length * 1) = mc := ⟨_, rfl⟩
  rw [hmc] at hmake
  have HMC := hide (show mc = ((List.replicate f.blocks.length (0 : Int)).map (Value.int .i64)).toArray by rw [← hmc]; exact madeCells_int _)
  have HREP := hide (fun (W : World) (bx : Nat) hx hbx => repeat_any f.blocks.length (-1) bx W h1 hls40 hx hbx)
  generalize f.kinds.length = lk, f.base.length = lb, f.blocks.length = ls, f.params = fp, f.result = fr at *
  clear hi hok hmc
  go_enter Try.func43, Try.ntmps43
  go_upto_region 2 with (fail)
  obtain ⟨w1, hw1⟩ : ∃ w1, w1 = (w.alloc (.cells #[.slice Ak lk ck, .slice Ab lb cb, .int .i64 fp, .int .i64 fr, .slice As ls cs] 30)).alloc (.cells #[.slice none 0 0, .slice none 0 0] 62) := ⟨_, rfl⟩
  obtain ⟨g1, hg1⟩ : ∃ g1, w.heap.size = g1 := ⟨_, rfl⟩
  have HX1 := hide (show Box w1 g1 #[.slice Ak lk ck, .slice Ab lb cb, .int .i64 fp, .int .i64 fr, .slice As ls cs] 30 by rw [hw1, ← hg1]; exact (Box.new w _ _).alloc _)
  have HR1 := hide (show Box w1 (g1 + 1) #[.slice none 0 0, .slice none 0 0] 62 by rw [hw1, ← hg1]; have h := Box.new (w.alloc (.cells #[.slice Ak lk ck, .slice Ab lb cb, .int .i64 fp, .int .i64 fr, .slice As ls cs] 30)) #[.slice none 0 0, .slice none 0 0] 62; rw [World.size_alloc] at h; exact h)
  have HB1 := hide (show Below w.heap.size w w1 by rw [hw1]; exact (alloc1 w _).alloc (by rw [World.size_alloc]; omega) _)
  have hs1 : w1.heap.size = g1 + 1 + 1 := by rw [hw1, World.size_alloc, World.size_alloc, hg1]
  have hwg : w.heap.size ≤ g1 := by omega
  rw [← hw1, hg1]
  have HS1 := hide hs1
  clear hw1 hg1 hs1
  go_cut [4] from 12 (fun p wx => GStart w1 w1.heap.size ls p wx)
  case first =>
    go_region_law
      (first
        | (rw [if_pos (by rfl)]; go_simp; go_at_call 57; refine (HREP.out _ _ (Box.cell (cs := #[.int .i64 (-1)]) (T := 3) ?_ 0 rfl).1 ?_).mono ?_; (focus ((repeat (first | (with_reducible refine Box.newAt ?_; (first | (simp; done) | (simp; omega))) | with_reducible apply Box.alloc | with_reducible apply Box.drew)); done)); (focus (first | (simp; done) | (simp; omega))); rintro e w5 ⟨g5, rfl, hg5, ha5, hb5⟩; refine Below.use (a := w1) (B := w1.heap.size) hb5 ?_ ?_ (fun hbb => ?_); (focus (repeat (first | exact Below.refl _ _ | with_reducible apply Below.dr | (with_reducible refine Below.alloc ?_ ?_ _; rotate_left; (focus (first | (simp; done) | (simp; omega))))))); (focus (first | (simp; done) | (simp; omega))); (simp at hg5); have hz5 := hb5.size; (simp at hz5); have hl5 := Box.lt ha5; (first | (refine Box.use (k := w1.heap.size) (cs := #[.slice none 0 0, .slice none 0 0]) (T := 62) hb5 ?_ (fun qa => ?_); (focus ((repeat (first | (with_reducible refine Box.newAt ?_; (first | (simp; done) | (simp; omega))) | with_reducible apply Box.alloc | with_reducible apply Box.drew)); done)); have qa0 := (Box.cell qa 0 (v := .slice none 0 0) rfl).1; have qa1 := (Box.cell qa 0 (v := .slice none 0 0) rfl).2; have qa2 := (Box.cell qa 1 (v := .slice none 0 0) rfl).1; have qa3 := (Box.cell qa 1 (v := .slice none 0 0) rfl).2; have qa4 := qa.lt) | skip); (first | (refine Box.use (k := w1.heap.size + 1) (cs := #[.slice none 0 0, .slice none 0 0]) (T := 62) hb5 ?_ (fun qb => ?_); (focus ((repeat (first | (with_reducible refine Box.newAt ?_; (first | (simp; done) | (simp; omega))) | with_reducible apply Box.alloc | with_reducible apply Box.drew)); done)); have qb0 := (Box.cell qb 0 (v := .slice none 0 0) rfl).1; have qb1 := (Box.cell qb 0 (v := .slice none 0 0) rfl).2; have qb2 := (Box.cell qb 1 (v := .slice none 0 0) rfl).1; have qb3 := (Box.cell qb 1 (v := .slice none 0 0) rfl).2; have qb4 := qb.lt) | skip); (first | (refine Box.use (k := w1.heap.size + 1 + 1) (cs := #[.slice none 0 0, .slice none 0 0]) (T := 62) hb5 ?_ (fun qc => ?_); (focus ((repeat (first | (with_reducible refine Box.newAt ?_; (first | (simp; done) | (simp; omega))) | with_reducible apply Box.alloc | with_reducible apply Box.drew)); done)); have qc0 := (Box.cell qc 0 (v := .slice none 0 0) rfl).1; have qc1 := (Box.cell qc 0 (v := .slice none 0 0) rfl).2; have qc2 := (Box.cell qc 1 (v := .slice none 0 0) rfl).1; have qc3 := (Box.cell qc 1 (v := .slice none 0 0) rfl).2; have qc4 := qc.lt) | skip)))
    all_goals (go_wp2_with fail; go_meet)
    all_goals
      unfold AbW at ha5
      apply gstart_of HMC.out
      · (repeat (first | assumption | (with_reducible refine Box.newAt ?_; (first | (simp; done) | (simp; omega))) | with_reducible apply Box.put2 | with_reducible apply Box.alloc | with_reducible apply Box.drew | (with_reducible refine Box.other ?_ (by omega)) | (refine Box.below ?_ hb5)))
      · (repeat (first | assumption | (with_reducible refine Box.newAt ?_; (first | (simp; done) | (simp; omega))) | with_reducible apply Box.put2 | with_reducible apply Box.alloc | with_reducible apply Box.drew | (with_reducible refine Box.other ?_ (by omega)) | (refine Box.below ?_ hb5)))
      · (repeat (first | assumption | (with_reducible refine Box.newAt ?_; (first | (simp; done) | (simp; omega))) | with_reducible apply Box.put2 | with_reducible apply Box.alloc | with_reducible apply Box.drew | (with_reducible refine Box.other ?_ (by omega)) | (refine Box.below ?_ hb5)))
      · omega
      · omega
      · omega
      · omega
      · repeat (first | assumption | (with_reducible refine Below.setCell (p := _) ?_ ?_ _; rotate_left; (focus (first | (simp; done) | (simp; omega)))) | (with_reducible refine Below.alloc ?_ ?_ _; rotate_left; (focus (first | (simp; done) | (simp; omega) | omega))))
  case rest =>
    obtain ⟨h4, ga, gt, rfl, hx4, ha, ht, hne, b4, ba, bt, hb⟩ := hcut
    have hsc := hb.size
    have HXC := hide (HX1.out.below hb)
    have HRC := hide (HR1.out.below hb)
    have HBC := hide (HB1.out.trans (hb.mono HB1.out.size))
    have HX4 := hide hx4
    have HA := hide ha
    have HT := hide ht
    have c0 := (HXC.out.cell 0 (v := .slice Ak lk ck) rfl).1
    have c1 := (HXC.out.cell 1 (v := .slice Ab lb cb) rfl).1
    have c2 := (HXC.out.cell 2 (v := .int .i64 fp) rfl).1
    have c3 := (HXC.out.cell 3 (v := .int .i64 fr) rfl).1
    have c4 := (HXC.out.cell 4 (v := .slice As ls cs) rfl).1
    have lc := HXC.out.lt
    have l4 := hx4.lt
    have la : ga < wc.heap.size := Box.lt ha
    have lt : gt < wc.heap.size := Box.lt ht
    have HK := hide (fun (W : World) (hW : Below wc.heap.size wc W) => And.intro ((HXC.out.below hW).cell 0 (v := .slice Ak lk ck) rfl).1 (And.intro ((HXC.out.below hW).cell 1 (v := .slice Ab lb cb) rfl).1 (And.intro ((HXC.out.below hW).cell 2 (v := .int .i64 fp) rfl).1 (And.intro ((HXC.out.below hW).cell 3 (v := .int .i64 fr) rfl).1 ((HXC.out.below hW).cell 4 (v := .slice As ls cs) rfl).1))))
    have HUP := hide (fun (W : World) (hW : Below wc.heap.size wc W) => HBC.out.trans (hW.mono HBC.out.size))
    have hwc := HBC.out.size
    have hs1 := HS1.out
    have hgw1 : w.heap.size ≤ ga ∧ w.heap.size ≤ gt ∧ w.heap.size ≤ h4 ∧ g1 + 1 ≠ ga ∧ g1 + 1 ≠ gt ∧ g1 + 1 < wc.heap.size := by omega
    have HGW := hide hgw1
    clear hx4 ha ht hb hs1 hgw1
    go_upto_region 3 with (fail)
    go_region_held3 (fun w' => w'.cell? ⟨g1, 0, none⟩ = some (.slice Ak lk ck) ∧ w'.cell? ⟨g1, 1, none⟩ = some (.slice Ab lb cb) ∧ w'.cell? ⟨g1, 2, none⟩ = some (.int .i64 fp) ∧ w'.cell? ⟨g1, 3, none⟩ = some (.int .i64 fr) ∧ w'.cell? ⟨g1, 4, none⟩ = some (.slice As ls cs)) (first | go_keep | (exact q7) | (exact q6))
      (first
        | (go_at_call 58; refine (HCM.out w6 (HUP.out w6 HC6.out)).mono ?_; rintro e w7 ⟨gp, rfl, hgp, hpv, hb7⟩; have hc7 := HC6.out.trans (hb7.mono HC6.out.size); have q7 := HK.out w7 hc7; have HB7 := hide hb7; have HPV := hide hpv; have HC7 := hide hc7; clear hb7 hc7 hpv)
        | (go_at_call 49; refine (HOR.out _ (HUP.out _ (below_drewN (Below.refl _ _) 1))).mono ?_; rintro e w6 ⟨v6, o, rfl, hO, ho6, hb6⟩; have hc6 : Below wc.heap.size wc w6 := ⟨hb6.os, hb6.tape, hb6.output, hb6.size, hb6.block⟩; have q6 := HK.out w6 hc6; have HO := hide hO; have HOW := hide (show Ow w6 wc.heap.size 3 .i64 v6 o from ho6); have HC6 := hide hc6; clear hb6 hc6 ho6 hO))
    all_goals
      obtain ⟨Ao, co, rfl, hco, hmo, hso⟩ := HOW.out.sl
      have HOA := hide (show ∀ b k, Ao = some ⟨b, k, none⟩ → b ≠ ga ∧ b ≠ gt from fun b k e => by
        have := (World.ownsRow.lt HOW.out b (by rw [e]; rfl)).1
        omega)
      have hs6 := HC6.out.size
      have hs7 := HB7.out.size
      have HSO := hide ((hso.below HB7.out).more HB7.out.size)
      have HR := hide (HRO.out o HO.out)
      have HG := hide (HGR.out o HO.out)
      have hol : o.length ≤ 40 := HOL.out o HO.out
      have hop : 1 ≤ o.length := List.length_pos_iff.2 (List.ne_nil_of_mem HR.out.zer)
      have HX7 := hide (HX4.out.below HC7.out)
      have HA7 := hide (HA.out.below HC7.out)
      have HT7 := hide (show TnL w7 gt ls o 0 w7 from ⟨by rw [List.take_zero, tnO_nil]; exact HT.out.below HC7.out, But.refl _ _⟩)
      have HR7 := hide (HRC.out.below HC7.out)
      have HPA := hide (HPV.out ga (by omega))
      have HPT := hide (HPV.out gt (by omega))
      obtain ⟨m, hm⟩ : ∃ m, o.length = m := ⟨_, rfl⟩
      have HM := hide hm
      have h4t : h4 ≠ gt := HX7.out.apart (HT7.out.1) (by decide)
      have h4a : h4 ≠ ga := HX7.out.apart HA7.out (by decide)
      have lx7 := HX7.out.lt
      have HNO := hide HR.out.nod
      have HORR := hide (fun (i : Nat) (y : Int) (h : o[i]? = some y) => (show ∃ b : Nat, y = b ∧ rO o b ∧ tnO o b = i ∧ b < ls by
        have h8 := HRNG.out o HO.out y (List.mem_of_getElem? h)
        obtain ⟨b, rfl⟩ : ∃ b : Nat, y = b := ⟨y.toNat, by omega⟩
        exact ⟨b, rfl, List.mem_of_getElem? h, tnO_get HNO.out h, by omega⟩))
      rw [hm] at hco hol hop HG ⊢
      clear c0 c1 c2 c3 c4 hso hm
      go_wp2
      go_loopw [24] (fun i wr => ∃ k : Nat, k ≤ m ∧ i = .int .i64 (k : Int) ∧ Hid (TnL w7 gt ls o k wr)) (fun i _ => m - (intOf i).toNat)
      case atStart => exact ⟨0, Nat.zero_le _, rfl, HT7⟩
      case round =>
        obtain ⟨k, hk, rfl, hin⟩ := hrel
        obtain ⟨wo, rfl⟩ : ∃ wo, wo = wr := ⟨_, rfl⟩
        have HTL := hide hin.out
        have HBT := hide hin.out.2
        have hzo := HBT.out.size
        clear hin
        by_cases hlt : k < m
        case pos =>
          obtain ⟨y, hy⟩ : ∃ y, o[k]? = some y := ⟨_, List.getElem?_eq_getElem (by have := HM.out; omega)⟩
          obtain ⟨b, rfl, -, -, hbl⟩ := HORR.out k y hy
          obtain ⟨be, oe, rfl, hbe, hce⟩ := HSO.out (by have := HM.out; omega)
          have hbn := (HOA.out be oe rfl).2
          have d1 := (World.cell?_of_block (a := ⟨be, oe + k, none⟩) (HBT.out.block be hbe hbn)).trans (hce k (by have := HM.out; omega))
          rw [show o.getD k 0 = (b : Int) by simp [List.getD, hy]] at d1
          have hbs : be < wo.heap.size := by omega
          have HXO := hide (HBT.out.box HX7.out h4t)
          have lo := HXO.out.lt
          have x1 := (HXO.out.cell 1 (v := .slice (some ⟨gt, 0, none⟩) ls ls) rfl).1
          obtain ⟨t1, t2⟩ := HTL.out.1.cell hbl
          have ltw : gt < wo.heap.size := Box.lt HTL.out.1
          have HN := hide (HTL.out.step HNO.out hy)
          have hb0 : (0 : Int) ≤ (b : Int) := by omega
          have hb1 : (b : Int) < (ls : Int) := by omega
          clear hce hbe hy hbn
          go_wp2
          go_roundw
          case rel => exact ⟨k + 1, by omega, by go_num, HN⟩
          case measure => simp [intOf]; omega
        have HTF := hide (show TnW wo gt ls (tnO o) by
          have h := HTL.out.1
          rw [List.take_of_length_le (by have := HM.out; omega)] at h
          exact h)
        have HAF := hide (show AbW wo ga (List.replicate ls (-1)) from HBT.out.box HA7.out hne)
        have HXF := hide (HBT.out.box HX7.out h4t)
        have HRF := hide (HBT.out.box HR7.out HGW.out.2.2.2.2.1)
        have HPF := hide (HPA.out.but2 HPT.out HBT.out)
        have HSF := hide ((HBT.out.sl HSO.out (Nat.le_refl _) (fun b k e => (HOA.out b k e).2)).more hzo)
        have HBF := hide (HBT.out.below (HUP.out w7 HC7.out) HGW.out.2.1 (by omega))
        have HL0 := hide (show GrL wo ga ls m (tnO o) (rO o) (fun b => prevN f (b : Int)) (Dmn f) (farA m (tnO o) (List.replicate ls (-1))) wo from ⟨_, rfl, GI.start HG.out, HAF.out, But.refl _ _⟩)
        clear HT7 HTL
        go_wp2
        go_loopg [] (farA m (tnO o) (List.replicate ls (-1))) (fun k wr => GrL wo ga ls m (tnO o) (rO o) (fun b => prevN f (b : Int)) (Dmn f) k wr)
        case atStart => exact HL0.out
        case round =>
          obtain ⟨A, hfk, hgi, hab, hbt⟩ := hrel
          obtain ⟨wi, rfl⟩ : ∃ wi, wi = wr := ⟨_, rfl⟩
          have HBI := hide hbt
          have hzi := hbt.size
          have HCP := hide (dpass_any HG.out A hgi h1 hls40 hop hol o HM.out (fun i y h => by obtain ⟨b, e1, e2, e3, -⟩ := HORR.out i y h; exact ⟨b, e1, e2, e3⟩) HP80.out ga gt gp Ao co hco hmo wi hab (HTF.out.but hbt (fun e => hne e.symm)) (fun e => hne e.symm) (HPF.out.but hbt) ((hbt.sl HSF.out (Nat.le_refl _) (fun b k e => (HOA.out b k e).1)).more hzi) (fun b k e => (HOA.out b k e).1))
          have HXI := hide (hbt.box HXF.out h4a)
          have lxi := HXI.out.lt
          have x0 := (HXI.out.cell 0 (v := .slice (some ⟨ga, 0, none⟩) ls ls) rfl).1
          have x1 := (HXI.out.cell 1 (v := .slice (some ⟨gt, 0, none⟩) ls ls) rfl).1
          have HFK := hide hfk
          clear hfk hgi hab hbt
          go_wp2_with (go_at_call 59; refine (HCP.out).mono ?_; rintro e w9 ⟨mv, A', rfl, ha9, hg9, hb9, hy9, hn9⟩; have HA9 := hide ha9; have HG9 := hide hg9; have HB9 := hide (HBI.out.trans hb9); have HY9 := hide hy9; have HN9 := hide hn9; have hz9 := hb9.size; have HX9 := hide (HB9.out.box HXF.out h4a); have HR9 := hide (HB9.out.box HRF.out HGW.out.2.2.2.1); clear ha9 hg9 hb9 hy9 hn9 x0 x1; have l9 := HX9.out.lt; have lr9 := HR9.out.lt; have x0 := (HX9.out.cell 0 (v := .slice (some ⟨ga, 0, none⟩) ls ls) rfl).1; have x1 := (HX9.out.cell 1 (v := .slice (some ⟨gt, 0, none⟩) ls ls) rfl).1; have r0 := (HR9.out.cell 0 (v := .slice none 0 0) rfl).1; have r1 := (HR9.out.cell 1 (v := .slice none 0 0) rfl).1; have s0 := (HR9.out.cell 0 (v := .slice none 0 0) rfl).2; have s1 := (HR9.out.cell 1 (v := .slice none 0 0) rfl).2)
          · go_roundg (farA m (tnO o) A')
            case measure => have := HY9.out (by assumption); have := HFK.out; omega
            case rel => exact ⟨A', rfl, HG9.out, HA9.out, HB9.out⟩
          · rename_i hmv
            have hmv' : mv = false := by cases mv <;> simp_all
            have hq := HGW.out
            have HRE := hide (HN9.out hmv')
            have HR10 := hide (HR9.out.put2 (v0 := .slice (some ⟨ga, 0, none⟩) ls ls) (v1 := .slice (some ⟨gt, 0, none⟩) ls ls))
            have HA10 := hide (show AbW _ ga A' from (Box.other (Box.other (g := g1 + 1) (j := 0) (v := .slice (some ⟨ga, 0, none⟩) ls ls) HA9.out (by omega)) (g := g1 + 1) (j := 1) (v := .slice (some ⟨gt, 0, none⟩) ls ls) (by omega)))
            have HT10 := hide (show TnW _ gt ls (tnO o) from (Box.other (Box.other (g := g1 + 1) (j := 0) (v := .slice (some ⟨ga, 0, none⟩) ls ls) (HTF.out.but HB9.out (fun e => hne e.symm)) (by omega)) (g := g1 + 1) (j := 1) (v := .slice (some ⟨gt, 0, none⟩) ls ls) (by omega)))
            have HB10 := hide (((HB9.out.below HBF.out hq.1 (by have := HBF.out.size; omega)).setCell (p := ⟨g1 + 1, 0, none⟩) (by show w.heap.size ≤ g1 + 1; omega) (.slice (some ⟨ga, 0, none⟩) ls ls)).setCell (p := ⟨g1 + 1, 1, none⟩) (by show w.heap.size ≤ g1 + 1; omega) (.slice (some ⟨gt, 0, none⟩) ls ls))
            (try simp only [Exit.inBlock, Exit.then])
            refine bodyPost_ret (results_cell_row rfl _ _ (g1 + 1) 62 #[.slice (some ⟨ga, 0, none⟩) ls ls, .slice (some ⟨gt, 0, none⟩) ls ls] (0, 0) _ (by rfl) HR10.out Try.underlying62 rfl size_tree) rfl ?_
            exact ⟨ga, gt, o, A', rfl, HO.out, HA10.out, HT10.out, hq.1, hq.2.1, HRE.out, HB10.out⟩
end Go.Proofs.Ytlolgahaphmfoaa
