/- Layer 14, the program: Lay. Condition: the function is one that may be. -/
import Derived.Test.YtnoknodijombpaaPgPO
import Derived.Deep.RegionWith
set_option linter.unusedSimpArgs false
set_option linter.unusedVariables false
namespace Go.Proofs.Ytnoknodijombpaa
open Go.RowKit

theorem calls14 {P : Program} {f : FuncId} {args : Array Value} {w : World} {R : Ending → World → Prop} (h : Calls P f args w R) : ∃ e w', R e w' := by
  obtain ⟨e, w', fr, hr, -⟩ := h []
  exact ⟨e, w', hr⟩
/-- What Lay answers. -/
def LayA (f : FunV) (w : World) (e : Ending) (w' : World) : Prop := (fitsL f = true → ∃ v1 v2 v3, e = .returned (.tuple #[.agg #[v1, v2, .int .i64 f.params, .int .i64 f.result, v3], .int .i64 0]) ∧ FunI w' (NF w') v1 v2 v3 (layF f) ∧ Below w.heap.size w w') ∧
  (fitsL f = false → e = .returned (.tuple #[.agg #[.slice none 0 0, .slice none 0 0, .int .i64 0, .int .i64 0, .slice none 0 0], .int .i64 9]) ∧ Below w.heap.size w w')
theorem any_all14 (l : List (List InsV)) : l.all (fun l => decide (l.length ≤ 40)) = !(l.any longB) := by
  induction l with
  | nil => rfl
  | cons x l ih =>
    rw [List.all_cons, List.any_cons, ih]
    unfold longB
    by_cases h : x.length ≤ 40
    · rw [decide_eq_true h, decide_eq_false (by omega)]
      simp
    · rw [decide_eq_false h, decide_eq_true (by omega)]
      simp
theorem blks_NF {w w' : World} {v : Value} {xs : List (List InsV)} (h : BlksV w (NF w) v xs) (hk : ∀ b, NF w b → w'.heap[b]? = w.heap[b]?) : BlksV w' (NF w') v xs :=
  h.keep (fun b o hb => World.cell?_of_block (a := ⟨b, o, none⟩) (hk b hb)) (fun b hb => hb.keep (hk b hb))
set_option maxHeartbeats 4000000 in
set_option maxRecDepth 100000 in
theorem play_any (vk vb vs : Value) (f : FunV) (w : World) (B : Nat) (hB : B ≤ w.heap.size) (hi : FunI w (· < B) vk vb vs f) (hs : SOk f) :
    Calls Try.prog 20 #[.agg #[vk, vb, .int .i64 f.params, .int .i64 f.result, vs]] w (LayA f w) := by
  have kI := fun (W : World) (hW : Below w.heap.size w W) => hi.keep (w := w) (S := (· < B)) (up hW hB) (fun _ h => h)
  have HSP := hide (fun (W : World) (hW : Below w.heap.size w W) => (esplit_any _ _ _ f W B (by have := hW.size; omega) (kI W hW) hs.flow hs.one hs.kinds hs.bl hs.code).mono (R' := fun e w' => (fitsB f = true → ∃ v1 v2 v3, e = .returned (.tuple #[.agg #[v1, v2, .int .i64 f.params, .int .i64 f.result, v3], .int .i64 0]) ∧ FunI w' (NF w') v1 v2 v3 (splitF f) ∧ Below W.heap.size W w') ∧ (fitsB f = false → e = .returned (.tuple #[.agg #[.slice none 0 0, .slice none 0 0, .int .i64 0, .int .i64 0, .slice none 0 0], .int .i64 9]) ∧ Below W.heap.size W w')) (fun e w' h => ⟨fun hf => by
      obtain ⟨v1, v2, v3, l, h1, h2, h3, h4, h5, h6⟩ := h.1 hf
      exact ⟨v1, v2, v3, h1, spl_funNF (kI W hW) h2 h3 h4 h5, h6⟩, h.2⟩))
  have HS := hide hs
  obtain ⟨Ak, ck, rfl, -, -⟩ := hi.1.open'
  obtain ⟨Ab, cb, rfl, -, -⟩ := hi.2.1.open'
  obtain ⟨As, cs, rfl, -, -⟩ := hi.2.2.1.open'
  obtain ⟨fp, hfp⟩ : ∃ fp, f.params = fp := ⟨_, rfl⟩
  obtain ⟨fr, hfr⟩ : ∃ fr, f.result = fr := ⟨_, rfl⟩
  have HFP := hide hfp
  have HFR := hide hfr
  rw [hfp, hfr] at HSP
  rw [hfp, hfr]
  generalize f.kinds.length = lk, f.base.length = lb, f.blocks.length = ls at *
  obtain ⟨ft, hft⟩ : ∃ ft, fitsB f = ft := ⟨_, rfl⟩
  have HFT := hide hft
  rw [hft] at HSP
  clear hi kI hs hB hfp hfr hft
  go_enter Try.func20, Try.ntmps20
  go_upto_region 1 with (fail)
  obtain ⟨w1, hw1⟩ : ∃ w1, w1 = (w.alloc (.cells #[.slice Ak lk ck, .slice Ab lb cb, .int .i64 fp, .int .i64 fr, .slice As ls cs] 30)).alloc (.cells #[.slice none 0 0, .slice none 0 0, .int .i64 0, .int .i64 0, .slice none 0 0] 30) := ⟨_, rfl⟩
  obtain ⟨h1, hh1⟩ : ∃ h1, w.heap.size = h1 := ⟨_, rfl⟩
  have HX1 := hide (show Box w1 h1 #[.slice Ak lk ck, .slice Ab lb cb, .int .i64 fp, .int .i64 fr, .slice As ls cs] 30 by rw [hw1, ← hh1]; exact (Box.new w _ _).alloc _)
  have HY1 := hide (show Box w1 (h1 + 1) #[.slice none 0 0, .slice none 0 0, .int .i64 0, .int .i64 0, .slice none 0 0] 30 by
    have t := Box.new (w.alloc (.cells #[.slice Ak lk ck, .slice Ab lb cb, .int .i64 fp, .int .i64 fr, .slice As ls cs] 30)) #[.slice none 0 0, .slice none 0 0, .int .i64 0, .int .i64 0, .slice none 0 0] 30
    rw [World.size_alloc, hh1] at t
    rw [hw1]
    exact t)
  have HB1 := hide (show Below w.heap.size w w1 by rw [hw1]; exact alloc2 w _ _)
  have w1s := HB1.out.size
  have HH1 := hide hh1
  rw [← hw1, hh1]
  clear hw1 hh1
  have lX1 := HX1.out.lt
  have lY1 := HY1.out.lt
  obtain ⟨c0, f0⟩ := HX1.out.cell 0 (v := .slice Ak lk ck) rfl
  obtain ⟨c1, f1⟩ := HX1.out.cell 1 (v := .slice Ab lb cb) rfl
  obtain ⟨c2, f2⟩ := HX1.out.cell 2 (v := .int .i64 fp) rfl
  obtain ⟨c3, f3⟩ := HX1.out.cell 3 (v := .int .i64 fr) rfl
  obtain ⟨c4, f4⟩ := HX1.out.cell 4 (v := .slice As ls cs) rfl
  have HSPW := hide (HSP.out w1 HB1.out)
  have HKX := hide (fun (W : World) (hW : Below w1.heap.size w1 W) => (show (W.cell? ⟨h1, 0, none⟩ = some (.slice Ak lk ck) ∧ W.frozen? ⟨h1, 0, none⟩ = false) ∧ (W.cell? ⟨h1, 1, none⟩ = some (.slice Ab lb cb) ∧ W.frozen? ⟨h1, 1, none⟩ = false) ∧ (W.cell? ⟨h1, 2, none⟩ = some (.int .i64 fp) ∧ W.frozen? ⟨h1, 2, none⟩ = false) ∧ (W.cell? ⟨h1, 3, none⟩ = some (.int .i64 fr) ∧ W.frozen? ⟨h1, 3, none⟩ = false) ∧ (W.cell? ⟨h1, 4, none⟩ = some (.slice As ls cs) ∧ W.frozen? ⟨h1, 4, none⟩ = false) from
    ⟨(HX1.out.below hW).cell 0 (v := .slice Ak lk ck) rfl, (HX1.out.below hW).cell 1 (v := .slice Ab lb cb) rfl, (HX1.out.below hW).cell 2 (v := .int .i64 fp) rfl, (HX1.out.below hW).cell 3 (v := .int .i64 fr) rfl, (HX1.out.below hW).cell 4 (v := .slice As ls cs) rfl⟩))
  cases ft with
  | false =>
    have HFL := hide (show fitsL f = false by unfold fitsL; rw [HFT.out]; rfl)
    go_upto_region 2 with (go_at_call 9; (with_reducible refine HSPW.out.mono ?_); rintro e w3 ⟨-, h3⟩; obtain ⟨rfl, hb3⟩ := h3 rfl; have HB3 := hide hb3; have p3 := HKX.out w3 hb3; have lX3 : h1 < w3.heap.size := (by have := hb3.size; omega); clear h3 hb3 c0 c1 c2 c3 c4 f0 f1 f2 f3 f4; obtain ⟨⟨c0, f0⟩, ⟨c1, f1⟩, ⟨c2, f2⟩, ⟨c3, f3⟩, ⟨c4, f4⟩⟩ := p3)
    obtain ⟨w5, hw5⟩ : ∃ w5, w5 = ((((w3.setCell ⟨h1, 0, none⟩ (.slice none 0 0)).setCell ⟨h1, 1, none⟩ (.slice none 0 0)).setCell ⟨h1, 2, none⟩ (.int .i64 0)).setCell ⟨h1, 3, none⟩ (.int .i64 0)).setCell ⟨h1, 4, none⟩ (.slice none 0 0) := ⟨_, rfl⟩
    have HY5 := hide (show Box w5 (h1 + 1) #[.slice none 0 0, .slice none 0 0, .int .i64 0, .int .i64 0, .slice none 0 0] 30 by rw [hw5]; exact (end5_blk (by omega)).trans (HY1.out.below HB3.out))
    have HB5 := hide (show Below w.heap.size w w5 by rw [hw5]; exact end5_below (HB1.out.trans (HB3.out.mono w1s)) (by have := HH1.out; omega))
    rw [← hw5]
    clear hw5 c0 c1 c2 c3 c4 f0 f1 f2 f3 f4
    have lY5 := HY5.out.lt
    obtain ⟨y0, g0⟩ := HY5.out.cell 0 (v := .slice none 0 0) rfl
    obtain ⟨y1, g1⟩ := HY5.out.cell 1 (v := .slice none 0 0) rfl
    obtain ⟨y2, g2⟩ := HY5.out.cell 2 (v := .int .i64 0) rfl
    obtain ⟨y3, g3⟩ := HY5.out.cell 3 (v := .int .i64 0) rfl
    obtain ⟨y4, g4⟩ := HY5.out.cell 4 (v := .slice none 0 0) rfl
    have HZ := hide (HY5.out.end5 (v0 := .slice none 0 0) (v1 := .slice none 0 0) (v2 := .int .i64 0) (v3 := .int .i64 0) (v4 := .slice none 0 0))
    have HBE := hide (end5_below (h := h1 + 1) (v0 := .slice none 0 0) (v1 := .slice none 0 0) (v2 := .int .i64 0) (v3 := .int .i64 0) (v4 := .slice none 0 0) HB5.out (by have := HH1.out; omega))
    go_wp2
    (try simp only [Exit.inBlock, Exit.then])
    refine bodyPost_ret (results_cell_row_tmp rfl _ _ (h1 + 1) 30 #[.slice none 0 0, .slice none 0 0, .int .i64 0, .int .i64 0, .slice none 0 0] (0, 0) _ (by rfl) HZ.out Try.underlying30 rfl size_func) rfl ?_
    exact ⟨fun h => (by rw [HFL.out] at h; cases h), fun _ => ⟨rfl, HBE.out⟩⟩
  | true =>
    have HFI := hide (show fitsL f = (layBs f).all (fun l => decide (l.length ≤ 40)) by unfold fitsL; rw [HFT.out]; rfl)
    obtain ⟨fg, hfg⟩ : ∃ fg, splitF f = fg := ⟨_, rfl⟩
    have HFG := hide hfg
    have HSG := hide (show SOk fg by rw [← hfg]; exact HS.out.split HFT.out)
    have HPP := hide (show fp = fg.params ∧ fr = fg.result by rw [← hfg, ← HFP.out, ← HFR.out]; exact ⟨rfl, rfl⟩)
    rw [hfg] at HSPW
    obtain ⟨gk, hgk⟩ : ∃ gk, fg.kinds.length = gk := ⟨_, rfl⟩
    obtain ⟨gb, hgb⟩ : ∃ gb, fg.base.length = gb := ⟨_, rfl⟩
    obtain ⟨gl, hgl⟩ : ∃ gl, fg.blocks.length = gl := ⟨_, rfl⟩
    have HGK := hide hgk
    have HGB := hide hgb
    have HGL := hide hgl
    clear hgk hgb hgl hfg HSP
    go_upto_region 2 with (go_at_call 9; (with_reducible refine HSPW.out.mono ?_); rintro e w3 ⟨h3, -⟩; obtain ⟨v1, v2, v3, rfl, hf3, hb3⟩ := h3 rfl; obtain ⟨A1, k1, hv1, -, -⟩ := hf3.1.open'; obtain ⟨A2, k2, hv2, -, -⟩ := hf3.2.1.open'; obtain ⟨A4, k4, hv4, -, -⟩ := hf3.2.2.1.open'; rw [HGK.out] at hv1; rw [HGB.out] at hv2; rw [HGL.out] at hv4; subst hv1; subst hv2; subst hv4; have HF3 := hide hf3; have HB3 := hide hb3; have p3 := HKX.out w3 hb3; have lX3 : h1 < w3.heap.size := (by have := hb3.size; omega); clear h3 hb3 hf3 c0 c1 c2 c3 c4 f0 f1 f2 f3 f4; obtain ⟨⟨c0, f0⟩, ⟨c1, f1⟩, ⟨c2, f2⟩, ⟨c3, f3⟩, ⟨c4, f4⟩⟩ := p3)
    obtain ⟨w5, hw5⟩ : ∃ w5, w5 = ((((w3.setCell ⟨h1, 0, none⟩ (.slice A1 gk k1)).setCell ⟨h1, 1, none⟩ (.slice A2 gb k2)).setCell ⟨h1, 2, none⟩ (.int .i64 fp)).setCell ⟨h1, 3, none⟩ (.int .i64 fr)).setCell ⟨h1, 4, none⟩ (.slice A4 gl k4) := ⟨_, rfl⟩
    have HX5 := hide (show Box w5 h1 #[.slice A1 gk k1, .slice A2 gb k2, .int .i64 fp, .int .i64 fr, .slice A4 gl k4] 30 by rw [hw5]; exact (HX1.out.below HB3.out).end5)
    have HY5 := hide (show Box w5 (h1 + 1) #[.slice none 0 0, .slice none 0 0, .int .i64 0, .int .i64 0, .slice none 0 0] 30 by rw [hw5]; exact (end5_blk (by omega)).trans (HY1.out.below HB3.out))
    have HB5 := hide (show Below w.heap.size w w5 by rw [hw5]; exact end5_below (HB1.out.trans (HB3.out.mono w1s)) (by have := HH1.out; omega))
    have HF5 := hide (show FunI w5 (NF w5) (.slice A1 gk k1) (.slice A2 gb k2) (.slice A4 gl k4) fg by
      rw [hw5]
      exact funI_NF HF3.out (fun b hb => end5_blk (hb.ne (HX1.out.below HB3.out).tb (by decide) (by decide) (by decide))))
    rw [← hw5]
    clear hw5 c0 c1 c2 c3 c4 f0 f1 f2 f3 f4 lX3 lX1 lY1
    obtain ⟨_, _, v0, ol, -, hol, -⟩ := calls14 (forder_any _ _ _ fg w5 w5.heap.size (Nat.le_refl _) (HF5.out.keep (fun _ _ _ => rfl) (fun b hb => hb.lt)) HSG.out.flow HSG.out.one)
    have HOR := hide (ordN_of hol)
    clear hol
    have HBS := hide (show layBs f = layTo fg.blocks (turnT fg) gl by unfold layBs; rw [HFG.out, HGL.out])
    have HTT := hide (show turnsAt (turnsN fg (ordN fg)) = turnT fg from rfl)
    have HTN := hide (fun (W : World) (hW : Below w5.heap.size w5 W) => (show Calls Try.prog 44 #[.agg #[.slice A1 gk k1, .slice A2 gb k2, .int .i64 fp, .int .i64 fr, .slice A4 gl k4]] W fun e w' => ∃ b n, e = .returned (.map (some b)) ∧ SetK w' b n (turnT fg) ∧ W.heap.size ≤ b ∧ Below W.heap.size W w' from by
      rw [HPP.out.1, HPP.out.2]
      exact pturning_any _ _ _ fg (ordN fg) HOR.out W W.heap.size (Nat.le_refl _) (HF5.out.keep (fun b o hb => hW.cell (p := ⟨b, o, none⟩) hb.lt) (fun b hb => by have := hb.lt; have := hW.size; omega)) HSG.out.flow HSG.out.one))
    obtain ⟨T, hT⟩ : ∃ T, turnT fg = T := ⟨_, rfl⟩
    rw [hT] at HTN HBS
    clear hT HTT
    have HPO := hide (fun (W : World) (b n : Nat) (hW : Below w5.heap.size w5 W) (hK : SetK W b n T) => (show Calls Try.prog 43 #[.slice A4 gl k4, .map (some b)] W (PolA fg.blocks T W) from
      ppolled_any _ fg.blocks b n T W (blks_NF HF5.out.2.2.1 (fun x hx => hW.block x hx.lt)) hK (by have := HSG.out.flow.1; omega) HSG.out.one (fun l hl => ⟨(HSG.out.code l hl).1, (HSG.out.code l hl).2.1⟩)))
    have HKY := hide (fun (W : World) (hW : Below w5.heap.size w5 W) => (show W.cell? ⟨h1, 0, none⟩ = some (.slice A1 gk k1) ∧ W.cell? ⟨h1, 1, none⟩ = some (.slice A2 gb k2) ∧ W.cell? ⟨h1, 2, none⟩ = some (.int .i64 fp) ∧ W.cell? ⟨h1, 3, none⟩ = some (.int .i64 fr) ∧ W.cell? ⟨h1, 4, none⟩ = some (.slice A4 gl k4) ∧ W.frozen? ⟨h1, 4, none⟩ = false from
      ⟨((HX5.out.below hW).cell 0 (v := .slice A1 gk k1) rfl).1, ((HX5.out.below hW).cell 1 (v := .slice A2 gb k2) rfl).1, ((HX5.out.below hW).cell 2 (v := .int .i64 fp) rfl).1, ((HX5.out.below hW).cell 3 (v := .int .i64 fr) rfl).1, (HX5.out.below hW).cell 4 (v := .slice A4 gl k4) rfl⟩))
    have lX5 := HX5.out.lt
    obtain ⟨c0, c1, c2, c3, c4, f4⟩ := HKY.out w5 (Below.refl _ _)
    go_upto_region 4 with (fail)
    go_cut [] from 20 (fun wx => ∃ A8 k8 w8, wx = w8.setCell ⟨h1, 4, none⟩ (.slice A8 gl k8) ∧ BlksV w8 (NF w8) (.slice A8 gl k8) (layTo fg.blocks T gl) ∧ Below w5.heap.size w5 w8)
    case first =>
      go_region_with (first
        | (go_at_call 43; refine (HPO.out w6 b6 n6 HC6.out HK6.out).mono ?_; rintro e w8 ⟨v8, rfl, hi8, hb8⟩; obtain ⟨A8, k8, hv8, -, -⟩ := hi8.open'; rw [layTo_len, HGL.out] at hv8; subst hv8; have hc8 := HC6.out.trans (hb8.mono HC6.out.size); obtain ⟨c08, c18, c28, c38, c48, f48⟩ := HKY.out w8 hc8; have HI8 := hide hi8; have HC8 := hide hc8; have lX8 : h1 < w8.heap.size := (by have := hc8.size; omega); clear hi8 hb8 hc8)
        | (go_at_call 44; refine (HTN.out _ (below_drewN (Below.refl _ _) 1)).mono ?_; rintro e w6 ⟨b6, n6, rfl, hk6, -, hb6⟩; have hc6 : Below w5.heap.size w5 w6 := ⟨hb6.os, hb6.tape, hb6.output, hb6.size, hb6.block⟩; obtain ⟨c06, c16, c26, c36, c46, f46⟩ := HKY.out w6 hc6; have HK6 := hide hk6; have HC6 := hide hc6; have lX6 : h1 < w6.heap.size := (by have := hc6.size; omega); clear hk6 hb6 hc6))
      all_goals
        have HIZ := hide (show BlksV w8 (NF w8) (.slice A8 gl k8) (layTo fg.blocks T gl) by have t := HI8.out; rwa [HGL.out] at t)
        go_wp2_with fail
        go_meet
        case rel => exact ⟨A8, k8, w8, rfl, HIZ.out, HC8.out⟩
    case rest =>
      obtain ⟨A8, k8, w8, hw9, hi8, hb8⟩ := hcut
      have HC8 := hide hb8
      have HX9 := hide (show Box wc h1 #[.slice A1 gk k1, .slice A2 gb k2, .int .i64 fp, .int .i64 fr, .slice A8 gl k8] 30 by rw [hw9]; have t := (HX5.out.below hb8).set 4 (.slice A8 gl k8); simpa using t)
      have HY9 := hide (show Box wc (h1 + 1) #[.slice none 0 0, .slice none 0 0, .int .i64 0, .int .i64 0, .slice none 0 0] 30 by rw [hw9]; exact (HY5.out.below hb8).other (by omega))
      have hnf : ∀ b, NF w8 b → wc.heap[b]? = w8.heap[b]? := fun b hb => by rw [hw9]; exact heap_setCell_other w8 ⟨h1, 4, none⟩ b _ (hb.ne (HX5.out.below hb8).tb (by decide) (by decide) (by decide))
      have HF9 := hide (show FunI wc (NF wc) (.slice A1 gk k1) (.slice A2 gb k2) (.slice A8 gl k8) (layF f) by
        have t := funI_NF (funI_NF HF5.out (fun b hb => hb8.block b hb.lt)) hnf
        have e : layF f = { fg with blocks := layTo fg.blocks T gl } := by unfold layF; rw [HFG.out, HBS.out]
        rw [e]
        exact ⟨t.1, t.2.1, blks_NF hi8 hnf, t.2.2.2.1, t.2.2.2.2⟩)
      have HB9 := hide (show Below w.heap.size w wc by rw [hw9]; exact Below.setCell (HB5.out.trans (hb8.mono HB5.out.size)) (by show _ ≤ h1; have := HH1.out; omega) _)
      have HCT := hide (pcontLong_any (.slice A8 gl k8) (layTo fg.blocks T gl) wc wc.heap.size (Nat.le_refl _) ((blks_NF hi8 hnf).keep (fun _ _ _ => rfl) (fun b hb => hb.lt)) (by rw [layTo_len, HGL.out]; have := HSG.out.flow.1; have := HGL.out; omega))
      clear hw9 hi8 hb8 hnf c0 c1 c2 c3 c4 f4 lX5
      have lX9 := HX9.out.lt
      have x4 := (HX9.out.cell 4 (v := .slice A8 gl k8) rfl).1
      cases hq : (layTo fg.blocks T gl).any longB with
      | true =>
        rw [hq] at HCT
        have HFL := hide (show fitsL f = false by rw [HFI.out, HBS.out, any_all14, hq]; rfl)
        clear hq
        go_upto_region 7 with (go_at_call 46; refine HCT.out.mono ?_; rintro e wd ⟨rfl, hbd⟩; have HYd := hide (HY9.out.below hbd); have HBd := hide (HB9.out.trans (hbd.mono HB9.out.size)); clear hbd x4 lX9)
        have lY5 := HYd.out.lt
        obtain ⟨y0, g0⟩ := HYd.out.cell 0 (v := .slice none 0 0) rfl
        obtain ⟨y1, g1⟩ := HYd.out.cell 1 (v := .slice none 0 0) rfl
        obtain ⟨y2, g2⟩ := HYd.out.cell 2 (v := .int .i64 0) rfl
        obtain ⟨y3, g3⟩ := HYd.out.cell 3 (v := .int .i64 0) rfl
        obtain ⟨y4, g4⟩ := HYd.out.cell 4 (v := .slice none 0 0) rfl
        have HZ := hide (HYd.out.end5 (v0 := .slice none 0 0) (v1 := .slice none 0 0) (v2 := .int .i64 0) (v3 := .int .i64 0) (v4 := .slice none 0 0))
        have HBE := hide (end5_below (h := h1 + 1) (v0 := .slice none 0 0) (v1 := .slice none 0 0) (v2 := .int .i64 0) (v3 := .int .i64 0) (v4 := .slice none 0 0) HBd.out (by have := HH1.out; omega))
        go_wp2
        (try simp only [Exit.inBlock, Exit.then])
        refine bodyPost_ret (results_cell_row_tmp rfl _ _ (h1 + 1) 30 #[.slice none 0 0, .slice none 0 0, .int .i64 0, .int .i64 0, .slice none 0 0] (0, 0) _ (by rfl) HZ.out Try.underlying30 rfl size_func) rfl ?_
        exact ⟨fun h => (by rw [HFL.out] at h; cases h), fun _ => ⟨rfl, HBE.out⟩⟩
      | false =>
        rw [hq] at HCT
        have HFL := hide (show fitsL f = true by rw [HFI.out, HBS.out, any_all14, hq]; rfl)
        clear hq
        go_upto_region 8 with (go_at_call 46; refine HCT.out.mono ?_; rintro e wd ⟨rfl, hbd⟩; have HXd := hide (HX9.out.below hbd); have HYd := hide (HY9.out.below hbd); have HFd := hide (funI_NF HF9.out (fun b hb => hbd.block b hb.lt)); have HBd := hide (HB9.out.trans (hbd.mono HB9.out.size)); clear hbd x4 lX9)
        have lY5 := HYd.out.lt
        have lXd := HXd.out.lt
        have x0 := (HXd.out.cell 0 (v := .slice A1 gk k1) rfl).1
        have x1 := (HXd.out.cell 1 (v := .slice A2 gb k2) rfl).1
        have x2 := (HXd.out.cell 2 (v := .int .i64 fp) rfl).1
        have x3 := (HXd.out.cell 3 (v := .int .i64 fr) rfl).1
        have x4 := (HXd.out.cell 4 (v := .slice A8 gl k8) rfl).1
        obtain ⟨y0, g0⟩ := HYd.out.cell 0 (v := .slice none 0 0) rfl
        obtain ⟨y1, g1⟩ := HYd.out.cell 1 (v := .slice none 0 0) rfl
        obtain ⟨y2, g2⟩ := HYd.out.cell 2 (v := .int .i64 0) rfl
        obtain ⟨y3, g3⟩ := HYd.out.cell 3 (v := .int .i64 0) rfl
        obtain ⟨y4, g4⟩ := HYd.out.cell 4 (v := .slice none 0 0) rfl
        have HZ := hide (HYd.out.end5 (v0 := .slice A1 gk k1) (v1 := .slice A2 gb k2) (v2 := .int .i64 fp) (v3 := .int .i64 fr) (v4 := .slice A8 gl k8))
        have HBE := hide (end5_below (h := h1 + 1) (v0 := .slice A1 gk k1) (v1 := .slice A2 gb k2) (v2 := .int .i64 fp) (v3 := .int .i64 fr) (v4 := .slice A8 gl k8) HBd.out (by have := HH1.out; omega))
        have HFE := hide (funI_NF (w' := end5 wd (h1 + 1) (.slice A1 gk k1) (.slice A2 gb k2) (.int .i64 fp) (.int .i64 fr) (.slice A8 gl k8)) HFd.out (fun b hb => end5_blk (hb.ne HYd.out.tb (by decide) (by decide) (by decide))))
        go_wp2
        (try simp only [Exit.inBlock, Exit.then])
        refine bodyPost_ret (results_cell_row_tmp rfl _ _ (h1 + 1) 30 #[.slice A1 gk k1, .slice A2 gb k2, .int .i64 fp, .int .i64 fr, .slice A8 gl k8] (0, 0) _ (by rfl) HZ.out Try.underlying30 rfl size_func) rfl ?_
        refine ⟨fun _ => ⟨_, _, _, ?_, HFE.out, HBE.out⟩, fun h => (by rw [HFL.out] at h; cases h)⟩
        rw [HFP.out, HFR.out]
        rfl
end Go.Proofs.Ytnoknodijombpaa
