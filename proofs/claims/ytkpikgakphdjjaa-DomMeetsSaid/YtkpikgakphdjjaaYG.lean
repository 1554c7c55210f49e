/- What comes ahead of each block, in memory: the slice of slices that dom's comes makes. Condition: the function is one of a program that may be. -/
import Derived.Test.YtkpikgakphdjjaaYP
set_option linter.unusedSimpArgs false
set_option linter.unusedVariables false
namespace Go.Proofs.Ytkpikgakphdjjaa
open Go.RowKit

theorem info_ints : (Try.prog.info? 27).map (fun i => (i.zero, i.size, i.bytes)) = some (some (.slice none 0 0), 1, 24) := by kernel_rfl
theorem madeCells_ints (n : Nat) : madeCells (Value.slice none 0 0).cells (n * 1) = (List.replicate n (Value.slice none 0 0)).toArray := by
  unfold madeCells
  apply Array.ext
  · simp
  · intro i h1 h2
    simp [Value.cells, Nat.mod_one]
/-- Slices that grow, in memory, each in a block of its own. -/
def CmW (w2 : World) (gp n : Nat) (es : List (Int × Int)) (k : Nat) (vs : List Value) (wr : World) : Prop :=
  vs.length = n ∧ Box wr gp vs.toArray 27 ∧ (∀ (b : Nat) (v : Value), vs[b]? = some v → Ow wr w2.heap.size 3 .i64 v (selTo es b k)) ∧
  (∀ (b c : Nat) (v u : Value) (g : Nat), b ≠ c → vs[b]? = some v → vs[c]? = some u → v.ownBlock = some g → u.ownBlock ≠ some g) ∧ But gp w2 wr
theorem CmW.start {w2 : World} {gp n : Nat} {es : List (Int × Int)} (h : Box w2 gp (List.replicate n (Value.slice none 0 0)).toArray 27) : CmW w2 gp n es 0 (List.replicate n (Value.slice none 0 0)) w2 := by
  refine ⟨by simp, h, fun b v hv => ?_, fun b c v u g _ hv _ hg => ?_, But.refl _ _⟩
  · have : v = .slice none 0 0 := by rw [List.getElem?_replicate] at hv; split at hv <;> simp_all
    subst this
    have : selTo es b 0 = [] := by simp [selTo]
    rw [this]
    exact Ow.nil _ _ _ _
  · have : v = .slice none 0 0 := by rw [List.getElem?_replicate] at hv; split at hv <;> simp_all
    subst this
    cases hg
theorem CmW.far {w2 wr : World} {gp n k b : Nat} {es : List (Int × Int)} {vs : List Value} {v : Value} (h : CmW w2 gp n es k vs wr) (hv : vs[b]? = some v) : v.ownBlock ≠ some gp := (h.2.2.1 b v hv).apart h.2.1 (by decide)
theorem CmW.step {w2 wr w4 w5 : World} {gp n k yb : Nat} {ya : Int} {es : List (Int × Int)} {vs : List Value} {v v5 : Value} (h : CmW w2 gp n es k vs wr) (hv : vs[yb]? = some v) (hy : es[k]? = some (ya, (yb : Int)))
    (hb4 : Below wr.heap.size wr w4) (hg : w4.grownBy w5 v.ownBlock) (ho : Ow w5 w2.heap.size 3 .i64 v5 (selTo es yb k ++ [ya])) (hv5 : v5.ownBlock = v.ownBlock ∨ ∃ g, v5.ownBlock = some g ∧ wr.heap.size ≤ g) :
    CmW w2 gp n es (k + 1) (vs.set yb v5) (w5.setCell ⟨gp, yb, none⟩ v5) := by
  obtain ⟨h1, h2, h3, h4, h5⟩ := h
  have hfar := (h3 yb v hv).apart h2 (by decide)
  have hyl := (List.getElem?_eq_some_iff.1 hv).1
  have hgl := h2.lt
  have k5 : ∀ b, b < wr.heap.size → v.ownBlock ≠ some b → w5.heap[b]? = wr.heap[b]? := fun b hb hn => (hg.block b (by have := hb4.size; omega) (fun e => hn e.symm)).trans (hb4.block b hb)
  have hb5 : Box w5 gp vs.toArray 27 := (k5 gp hgl hfar).trans h2
  have hsz5 : wr.heap.size ≤ w5.heap.size := by have := hb4.size; have := hg.size; omega
  have h5far := ho.apart hb5 (by decide)
  have kS : ∀ b, b < wr.heap.size → b ≠ gp → v.ownBlock ≠ some b → (w5.setCell ⟨gp, yb, none⟩ v5).heap[b]? = wr.heap[b]? := fun b hb hn1 hn2 => (heap_setCell_other _ _ _ _ hn1).trans (k5 b hb hn2)
  refine ⟨by simp [h1], by have := hb5.set yb v5; simpa using this, fun c u hu => ?_, fun b c u1 u2 g hbc hu1 hu2 hg1 => ?_, ?_⟩
  · by_cases e : c = yb
    · subst e
      rw [List.getElem?_set_self hyl] at hu
      injection hu with hu
      subst hu
      rw [← selTo_yes hy rfl]
      exact ho.kept' fun g hgv => heap_setCell_other _ _ _ _ (fun e => h5far (by rw [hgv, e]))
    · rw [List.getElem?_set_ne (fun h => e h.symm)] at hu
      rw [← selTo_no hy (by simp; omega)]
      refine (h3 c u hu).kept' fun g hgv => kS g ((h3 c u hu).row' g hgv).2.1 (fun e2 => (h3 c u hu).apart h2 (by decide) (by rw [hgv, e2])) (fun e2 => h4 yb c v u g (fun e3 => e e3.symm) hv hu e2 hgv)
  · by_cases e1 : b = yb
    · subst e1
      have e2 : c ≠ b := fun e => hbc e.symm
      rw [List.getElem?_set_self hyl] at hu1
      injection hu1 with hu1
      subst hu1
      rw [List.getElem?_set_ne (fun h => e2 h.symm)] at hu2
      rcases hv5 with h6 | ⟨g', h6, h7⟩
      · rw [h6] at hg1; exact h4 b c v u2 g hbc hv hu2 hg1
      · rw [h6] at hg1
        injection hg1 with hg1
        intro h8
        have := ((h3 c u2 hu2).row' g h8).2.1
        omega
    · rw [List.getElem?_set_ne (fun h => e1 h.symm)] at hu1
      by_cases e2 : c = yb
      · subst e2
        rw [List.getElem?_set_self hyl] at hu2
        injection hu2 with hu2
        subst hu2
        rcases hv5 with h6 | ⟨g', h6, h7⟩
        · rw [h6]; exact h4 b c u1 v g hbc hu1 hv hg1
        · rw [h6]
          intro h8
          injection h8 with h8
          have := ((h3 b u1 hu1).row' g hg1).2.1
          omega
      · rw [List.getElem?_set_ne (fun h => e2 h.symm)] at hu2
        exact h4 b c u1 u2 g hbc hu1 hu2 hg1
  · refine ⟨?_, ?_, ?_, by rw [World.size_setCell]; have := h5.size; omega, fun b hb hn => ?_⟩
    · exact (show (w5.setCell ⟨gp, yb, none⟩ v5).os = w5.os from rfl).trans (hg.os.trans (hb4.os.trans h5.os))
    · exact (show (w5.setCell ⟨gp, yb, none⟩ v5).tape = w5.tape from rfl).trans (hg.tape.trans (hb4.tape.trans h5.tape))
    · exact (show (w5.setCell ⟨gp, yb, none⟩ v5).output = w5.output from rfl).trans (hg.output.trans (hb4.output.trans h5.output))
    · have hbr : b < wr.heap.size := by have := h5.size; omega
      exact (kS b hbr hn (fun e => by have := ((h3 yb v hv).row' b e).1; omega)).trans (h5.block b hb hn)
theorem CmW.pv {w2 wr : World} {f : FunV} {gp n k ga : Nat} {vs : List Value} (h : CmW w2 gp n (edgesN f) k vs wr) (hk : (edgesN f).length ≤ k) (hg : gp ≠ ga) (ha : ga < w2.heap.size) : PvW wr gp n ga (fun b => prevN f (b : Int)) := by
  obtain ⟨h1, h2, h3, h4, h5⟩ := h
  refine ⟨h2.lt, hg, fun b hb => ?_⟩
  obtain ⟨v, hv⟩ : ∃ v, vs[b]? = some v := ⟨_, List.getElem?_eq_getElem (by omega)⟩
  have ho := h3 b v hv
  rw [selTo_all hk] at ho
  obtain ⟨A, c, rfl, hc, hm, hs⟩ := ho.sl
  refine ⟨A, c, (h2.cell b (by simpa using hv)).1, hc, hm, hs, fun be o e => ?_⟩
  have := (ho.row' be (by rw [e]; rfl)).1
  omega
set_option maxHeartbeats 2000000 in
set_option maxRecDepth 100000 in
theorem dcomes_any (vk vb vs : Value) (f : FunV) (w : World) (B : Nat) (hB : B ≤ w.heap.size) (hi : FunI w (· < B) vk vb vs f) (hok : FlowOk f) :
    Calls Try.prog 53 #[.agg #[vk, vb, .int .i64 f.params, .int .i64 f.result, vs]] w fun e w' => ∃ gp, e = .returned (.slice (some ⟨gp, 0, none⟩) f.blocks.length f.blocks.length) ∧ w.heap.size ≤ gp ∧ (∀ ga, ga < w.heap.size → PvW w' gp f.blocks.length ga (fun b => prevN f (b : Int))) ∧ Below w.heap.size w w' := by
  have HED := hide (fun (W : World) (hW : Below w.heap.size w W) => fedges_any vk vb vs f W B (by have := hW.size; omega) (hi.keep (up hW hB) (fun _ h => h)) hok)
  obtain ⟨Ak, ck, rfl, hck, hmk⟩ := hi.1.open'
  obtain ⟨Ab, cb, rfl, hcb, hmb⟩ := hi.2.1.open'
  obtain ⟨As, cs, rfl, hcs, hms⟩ := hi.2.2.1.open'
  obtain ⟨i0, hi0, hz0, hz1, hz2⟩ := info_parts info_i64
  have HI := hide hi0
  have hls40 := hok.1
  have hel := edgesN_len hok
  have hmake : ∀ W : World, (Instr.makeSlice 76 (.int .i64 (f.blocks.length : Int)) (.int .i64 (f.blocks.length : Int))).run Try.prog W = .ok (.slice (some ⟨W.heap.size, 0, none⟩) f.blocks.length f.blocks.length) (W.alloc (.cells (madeCells (Value.slice none 0 0).cells (f.blocks.length * 1)) 27)) := fun W => mk_run 76 27 Try.underlying76 info_ints (by omega) f.blocks.length (by omega) W
  obtain ⟨mc, hmc⟩ : ∃ mc, madeCells (Value.slice none 0 0).cells (f.blocks.length * 1) = mc := ⟨_, rfl⟩
  rw [hmc] at hmake
  have HMC := hide (show mc = (List.replicate f.blocks.length (Value.slice none 0 0)).toArray by rw [← hmc]; exact madeCells_ints _)
  have HEN := hide (fun (k : Nat) (p : Int × Int) (h : (edgesN f)[k]? = some p) => (show ∃ yb : Nat, p.2 = yb ∧ yb < f.blocks.length by
    obtain ⟨a, -, -, hv⟩ := edges_nat' (x := p.1) (v := p.2) (List.mem_of_getElem? h)
    have := hok.2.2 _ _ hv
    exact ⟨p.2.toNat, by omega, by omega⟩))
  have HPV := hide (fun (w2 wr : World) (gp n k ga : Nat) (vs : List Value) h h1 h2 h3 => @CmW.pv w2 wr f gp n k ga vs h h1 h2 h3)
  generalize edgesN f = es at *
  obtain ⟨n, hn⟩ : ∃ n, es.length = n := ⟨_, rfl⟩
  rw [hn] at hel HPV
  have HN := hide hn
  generalize f.kinds.length = lk, f.base.length = lb, f.blocks.length = ls, f.params = fp, f.result = fr at *
  clear hi hok hn hi0 hmc
  go_enter Try.func53, Try.ntmps53
  go_upto_region 1 with (fail)
  obtain ⟨w1, hw1⟩ : ∃ w1, w1 = w.alloc (.cells #[.slice Ak lk ck, .slice Ab lb cb, .int .i64 fp, .int .i64 fr, .slice As ls cs] 30) := ⟨_, rfl⟩
  obtain ⟨h1, hh1⟩ : ∃ h1, w.heap.size = h1 := ⟨_, rfl⟩
  have HX1 := hide (show Box w1 h1 #[.slice Ak lk ck, .slice Ab lb cb, .int .i64 fp, .int .i64 fr, .slice As ls cs] 30 by rw [hw1, ← hh1]; exact Box.new w _ _)
  have HB1 := hide (show Below w.heap.size w w1 by rw [hw1]; exact alloc1 w _)
  have h1w : w.heap.size ≤ h1 := by omega
  rw [← hw1, hh1]
  clear hw1 hh1
  have l1 := HX1.out.lt
  have c4 := (HX1.out.cell 4 (v := .slice As ls cs) rfl).1
  go_upto_region 2 with (fail)
  obtain ⟨wp, hwp⟩ : ∃ wp, wp = w1.alloc (.cells mc 27) := ⟨_, rfl⟩
  obtain ⟨gp, hgp⟩ : ∃ gp, w1.heap.size = gp := ⟨_, rfl⟩
  have HMP := hide (show Box wp gp (List.replicate ls (Value.slice none 0 0)).toArray 27 by rw [hwp, ← hgp, ← HMC.out]; exact Box.new w1 _ _)
  have HXP := hide (show Box wp h1 #[.slice Ak lk ck, .slice Ab lb cb, .int .i64 fp, .int .i64 fr, .slice As ls cs] 30 by rw [hwp]; exact HX1.out.alloc _)
  have HBP := hide (show Below w.heap.size w wp by rw [hwp]; exact HB1.out.alloc HB1.out.size _)
  have hwgp : w.heap.size ≤ gp := by rw [← hgp]; exact HB1.out.size
  rw [← hwp, hgp]
  clear hwp hgp c4 l1 hmake HMC
  have lp := HXP.out.lt
  have c0 := (HXP.out.cell 0 (v := .slice Ak lk ck) rfl).1
  have c1 := (HXP.out.cell 1 (v := .slice Ab lb cb) rfl).1
  have c2 := (HXP.out.cell 2 (v := .int .i64 fp) rfl).1
  have c3 := (HXP.out.cell 3 (v := .int .i64 fr) rfl).1
  have c4 := (HXP.out.cell 4 (v := .slice As ls cs) rfl).1
  go_wp2_with (go_at_call 28; refine (HED.out wp HBP.out).mono ?_; rintro e w2 ⟨ve, rfl, hoe, hb2⟩; obtain ⟨Ae, ce, hve, hce, hme, hse⟩ := hoe.sl; have HSE := hide hse; have HM2 := hide (HMP.out.below hb2); have HB2 := hide (HBP.out.trans (hb2.mono HBP.out.size)); have HAE := hide (show ∀ b o, Ae = some ⟨b, o, none⟩ → b ≠ gp from fun b o e => by have := (World.ownsRow.lt hoe b (by rw [hve, e]; rfl)).1; have := HMP.out.lt; omega); rw [HN.out] at hve; subst hve; clear hb2 hoe hse)
  rw [HN.out] at hce
  clear c0 c1 c2 c3 c4
  have HG2 := hide HM2.out.lt
  have HPE := hide (fun (wr : World) (k ga : Nat) (vs : List Value) (h : CmW w2 gp ls es k vs wr) (hk : n ≤ k) (hga : ga < w.heap.size) => HPV.out w2 wr gp ls k ga vs h hk (by omega) (by have := HB2.out.size; omega))
  go_loopw [13] (fun i wr => ∃ (k : Nat) (vs : List Value), k ≤ n ∧ i = .int .i64 k ∧ Hid (CmW w2 gp ls es k vs wr)) (fun i _ => n - (intOf i).toNat)
  case atStart => exact ⟨0, _, Nat.zero_le _, rfl, hide (CmW.start HM2.out)⟩
  case round =>
    obtain ⟨k, vs, hk, rfl, hin⟩ := hrel
    obtain ⟨wo, rfl⟩ : ∃ wo, wo = wr := ⟨_, rfl⟩
    have HC := hide hin.out
    have HBT := hide hin.out.2.2.2.2
    have HBE := hide (HBT.out.below HB2.out hwgp HB2.out.size)
    have hsz := HBT.out.size
    clear hin
    by_cases hlt : k < n
    case neg =>
      have HR := hide (fun ga hga => HPE.out wo k ga vs HC.out (by omega) hga)
      go_wp2
      go_ret
      exact ⟨gp, rfl, hwgp, HR.out, HBE.out⟩
    obtain ⟨y, hy⟩ : ∃ y, es[k]? = some y := ⟨_, List.getElem?_eq_getElem (by have := HN.out; omega)⟩
    obtain ⟨yb, hyb, hybl⟩ := HEN.out k y hy
    obtain ⟨be, oe, rfl, hbe, hce'⟩ := HSE.out (by have := HN.out; omega)
    obtain ⟨y1, y2⟩ := hce' k y hy
    have hbg := HAE.out be oe rfl
    have kb := HBT.out.block be hbe hbg
    have d1 := (World.cell?_of_block (a := ⟨be, oe + k * 2, none⟩) kb).trans y1
    have d2 := (World.cell?_of_block (a := ⟨be, oe + k * 2 + 1, none⟩) kb).trans y2
    have hbs : be < wo.heap.size := by omega
    obtain ⟨ya, yc⟩ := y
    simp only at d1 d2 hyb
    subst hyb
    have HY := hide hy
    obtain ⟨v, hv⟩ : ∃ v, vs[yb]? = some v := ⟨_, List.getElem?_eq_getElem (by rw [HC.out.1]; exact hybl)⟩
    have HV := hide hv
    have HFAR := hide (HC.out.far hv)
    have HOW := hide (HC.out.2.2.1 yb v hv)
    have hlen : (selTo es yb k).length < 1000000 := by have := selTo_len es yb k; omega
    have HLN := hide hlen
    obtain ⟨Av, cv, rfl, hcv, hmv, hsv⟩ := HOW.out.sl
    have hyi : (0 : Int) ≤ (yb : Int) := by omega
    have hyj : (yb : Int) < (ls : Int) := by omega
    clear hce' y1 y2 hy kb hv hlen
    go_upto_region 5 with (fail)
    obtain ⟨w4, hw4⟩ : ∃ w4, w4 = wo.alloc (.cells #[.int .i64 ya, .int .i64 (yb : Int)] 64) := ⟨_, rfl⟩
    obtain ⟨h4, hh4⟩ : ∃ h4, wo.heap.size = h4 := ⟨_, rfl⟩
    have HX4 := hide (show Box w4 h4 #[.int .i64 ya, .int .i64 (yb : Int)] 64 by rw [hw4, ← hh4]; exact Box.new wo _ _)
    have HB4 := hide (show Below wo.heap.size wo w4 by rw [hw4]; exact alloc1 wo _)
    have hg4 : h4 ≠ gp := by have := HC.out.2.1.lt; omega
    have h4o : wo.heap.size ≤ h4 := by omega
    rw [← hw4, hh4]
    clear hw4 hh4 d1 d2 hbs
    have l4 := HX4.out.lt
    have hz4 := HB4.out.size
    have hgl := HC.out.2.1.lt
    have hgl4 : gp < w4.heap.size := by omega
    have HP4 := hide (HC.out.2.1.below HB4.out)
    have x0 := (HX4.out.cell 0 (v := .int .i64 ya) rfl).1
    have x1 := (HX4.out.cell 1 (v := .int .i64 (yb : Int)) rfl).1
    obtain ⟨pc, pf⟩ := HP4.out.cell yb (by simpa using HV.out)
    have HO4 := hide (show Ow w4 w2.heap.size 3 .i64 (.slice Av (selTo es yb k).length cv) (selTo es yb k) from HOW.out.below HB4.out)
    have h4own : ∀ g, (Value.slice Av (selTo es yb k).length cv).ownBlock = some g → g ≠ h4 := fun g hg => by have := (HOW.out.row' g hg).2.1; omega
    have H4O := hide h4own
    have hbs4 : w2.heap.size ≤ w4.heap.size := by omega
    clear h4own
    go_region_law
      (first
        | (refine step_append_int ((w4.drewN 1).alloc (.cells #[.int .i64 ya] 3)) (by rfl) _ _ _ (by rfl) w2.heap.size i0 _ Try.underlying27 HI.out hz0 hz1 hz2 rfl (.slice Av (selTo es yb k).length cv) (selTo es yb k) (by rfl) ((HO4.out.drewN 1).alloc _) ya w4.heap.size (Box.new (w4.drewN 1) _ _) (by rfl) HLN.out (by simp only [World.size_alloc]; exact Nat.le_succ_of_le hbs4) ?_; intro g5 cap5 w5 ho5 hg5 hv5 hl5; have hne := HFAR.out; have z7 := (hg5.cell_far ⟨gp, yb, none⟩ (by simp only [World.size_alloc]; exact Nat.lt_succ_of_lt hgl4) (Ne.symm hne)).trans ((World.cell?_alloc_lt (w4.drewN 1) _ ⟨gp, yb, none⟩ hgl4).trans pc); have z7f := (hg5.frozen_far ⟨gp, yb, none⟩ (by simp only [World.size_alloc]; exact Nat.lt_succ_of_lt hgl4) (Ne.symm hne)).trans ((World.frozen?_of_block (a := ⟨gp, yb, none⟩) (w := w4.drewN 1) (Below.heap_alloc (w4.drewN 1) _ gp hgl4)).trans pf); have z8 := (hg5.cell_far ⟨h4, 0, none⟩ (by simp only [World.size_alloc]; exact Nat.lt_succ_of_lt l4) (fun e => H4O.out h4 e.symm rfl)).trans ((World.cell?_alloc_lt (w4.drewN 1) _ ⟨h4, 0, none⟩ l4).trans x0); have z9 := (hg5.cell_far ⟨h4, 1, none⟩ (by simp only [World.size_alloc]; exact Nat.lt_succ_of_lt l4) (fun e => H4O.out h4 e.symm rfl)).trans ((World.cell?_alloc_lt (w4.drewN 1) _ ⟨h4, 1, none⟩ l4).trans x1)))
    all_goals
      have HN5 := hide (HC.out.step (w4 := (w4.drewN 1).alloc (.cells #[.int .i64 ya] 3)) HV.out HY.out ((below_drewN HB4.out 1).alloc hz4 _) hg5 ho5 (by
        rcases hv5 with h | h
        · exact .inl (by rw [h]; rfl)
        · refine .inr ⟨g5, rfl, ?_⟩
          rw [h, World.size_alloc]
          exact Nat.le_succ_of_le hz4))
      go_wp2
      go_roundw
      case rel => exact ⟨k + 1, _, by omega, by go_num, HN5⟩
      case measure => simp [intOf]; omega
end Go.Proofs.Ytkpikgakphdjjaa
