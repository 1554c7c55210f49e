/- Layer 13, the program: Split. Condition: the function is one of a program that may be. -/
import Derived.Test.YtnoknodijombpaaDoorPhDJ
set_option linter.unusedSimpArgs false
set_option linter.unusedVariables false
namespace Go.Proofs.YtnoknodijombpaaDoor
open Go.RowKit

/-- What Split answers: the function split, or, where there are too many blocks, nothing. -/
def SplA (f : FunV) (w : World) (e : Ending) (w' : World) : Prop := (fitsB f = true → ∃ v1 v2 v3 l, e = .returned (.tuple #[.agg #[v1, v2, .int .i64 f.params, .int .i64 f.result, v3], .int .i64 0]) ∧ Ow w' w.heap.size 3 .i64 v1 f.kinds ∧ Ow w' w.heap.size 3 .i64 v2 f.base ∧ BlkM w' w.heap.size v3 l ∧ l.map (·.1) = (splitF f).blocks ∧ Below w.heap.size w w') ∧
  (fitsB f = false → e = .returned (.tuple #[.agg #[.slice none 0 0, .slice none 0 0, .int .i64 0, .int .i64 0, .slice none 0 0], .int .i64 9]) ∧ Below w.heap.size w w')
theorem splitStep_map {l : List (List InsV × Value)} {a n : Nat} {ls : List InsV} {u u2 : Value} {e : Int × Int} (ha : l[a]? = some (ls, u)) (he : e.1 = (a : Int)) (hn : l.length = n) : ((l.set a (bendB ls e.2 (n : Int), u)) ++ [([jumpI e.2], u2)]).map (·.1) = splitStep (l.map (·.1)) e := by
  unfold splitStep
  rw [he, Int.toNat_natCast, List.map_append, List.map_set, List.length_map, hn]
  rw [show (l.map (·.1)).getD a [] = ls by simp [List.getD, ha]]
  rfl
set_option maxHeartbeats 4000000 in
set_option maxRecDepth 100000 in
theorem esplit_any (vk vb vs : Value) (f : FunV) (w : World) (B : Nat) (hB : B ≤ w.heap.size) (hi : FunI w (· < B) vk vb vs f) (hok : FlowOk f) (hls1 : 1 ≤ f.blocks.length) (hk : f.kinds.length ≤ 1000) (hbl : f.base.length ≤ 1000) (hcode : ∀ l ∈ f.blocks, 1 ≤ l.length ∧ l.length ≤ 1000 ∧ ∀ x ∈ l, x.args.length ≤ 1000) :
    Calls Tryd.prog 10 #[.agg #[vk, vb, .int .i64 f.params, .int .i64 f.result, vs]] w (SplA f w) := by
  have hls40 := hok.1
  have HCR := hide (fun (W : World) (hW : Below w.heap.size w W) => ecritical_any vk vb vs f W B (by have := hW.size; omega) (hi.keep (up hW hB) (fun _ h => h)) hok hls1)
  have HCP := hide (fun (W : World) (hW : Below w.heap.size w W) => ecopied_any vk vb vs f W B (by have := hW.size; omega) (hi.keep (up hW hB) (fun _ h => h)) hk hbl (by omega) hls1 hcode)
  have HSP := hide (fun (k : Nat) (h : k ≤ (critN f).length) => SpI.to hok k h)
  have HFI := hide (show fitsB f = decide (f.blocks.length + (critN f).length ≤ 40) from rfl)
  have HLA := hide (fun (e : Int × Int) (he : e ∈ critN f) => (show (∃ (a : Nat) (l : List InsV) (x : InsV), e.1 = (a : Int) ∧ f.blocks[a]? = some l ∧ l[l.length - 1]? = some x) ∧ i64R e.2 from by
    obtain ⟨a, l, x, h1, h2, h3, -⟩ := crit_last he
    refine ⟨⟨a, l, x, h1, h2, h3⟩, ?_⟩
    obtain ⟨a', -, -, hm⟩ := edgesN_mem (mem_critN.1 he).1
    have := hok.2.2 a' e.2 hm
    unfold i64R
    omega))
  have HBS := hide (show (splitF f).blocks = splitBs f.blocks (critN f) from rfl)
  have hcn := critN_len hok
  obtain ⟨Ak, ck, rfl, hck, hmk⟩ := hi.1.open'
  obtain ⟨Ab, cb, rfl, hcb, hmb⟩ := hi.2.1.open'
  obtain ⟨As, cs, rfl, hcs, hms⟩ := hi.2.2.1.open'
  have HCODE := hide hcode
  obtain ⟨ls, hls⟩ : ∃ ls, f.blocks.length = ls := ⟨_, rfl⟩
  have HLS := hide hls
  obtain ⟨cn, hcne⟩ : ∃ cn, (critN f).length = cn := ⟨_, rfl⟩
  have HCN := hide hcne
  rw [hls] at HCR HCP HFI hls40 hcs hls1 ⊢
  rw [hcne] at HSP HFI hcn
  unfold CritA at HCR
  rw [hcne] at HCR
  clear hi hok hls hcne hcode
  obtain ⟨fp, hfp⟩ : ∃ fp, f.params = fp := ⟨_, rfl⟩
  obtain ⟨fr, hfr⟩ : ∃ fr, f.result = fr := ⟨_, rfl⟩
  have HFP := hide hfp
  have HFR := hide hfr
  rw [hfp, hfr] at HCR HCP
  rw [hfp, hfr]
  clear hfp hfr
  obtain ⟨lk, hlk⟩ : ∃ lk, f.kinds.length = lk := ⟨_, rfl⟩
  obtain ⟨lb, hlb⟩ : ∃ lb, f.base.length = lb := ⟨_, rfl⟩
  have HLK := hide hlk
  have HLB := hide hlb
  rw [hlk] at HCR HCP hck hk ⊢
  rw [hlb] at HCR HCP hcb hbl ⊢
  clear hlk hlb
  go_enter Tryd.func10, Tryd.ntmps10
  go_upto_region 1 with (fail)
  obtain ⟨w1, hw1⟩ : ∃ w1, w1 = (w.alloc (.cells #[.slice Ak lk ck, .slice Ab lb cb, .int .i64 fp, .int .i64 fr, .slice As ls cs] 34)).alloc (.cells #[.slice none 0 0, .slice none 0 0, .int .i64 0, .int .i64 0, .slice none 0 0] 34) := ⟨_, rfl⟩
  obtain ⟨h1, hh1⟩ : ∃ h1, w.heap.size = h1 := ⟨_, rfl⟩
  have HX1 := hide (show Box w1 h1 #[.slice Ak lk ck, .slice Ab lb cb, .int .i64 fp, .int .i64 fr, .slice As ls cs] 34 by rw [hw1, ← hh1]; exact (Box.new w _ _).alloc _)
  have HY1 := hide (show Box w1 (h1 + 1) #[.slice none 0 0, .slice none 0 0, .int .i64 0, .int .i64 0, .slice none 0 0] 34 by
    have t := Box.new (w.alloc (.cells #[.slice Ak lk ck, .slice Ab lb cb, .int .i64 fp, .int .i64 fr, .slice As ls cs] 34)) #[.slice none 0 0, .slice none 0 0, .int .i64 0, .int .i64 0, .slice none 0 0] 34
    rw [World.size_alloc, hh1] at t
    rw [hw1]
    exact t)
  have HB1 := hide (show Below w.heap.size w w1 by rw [hw1]; exact alloc2 w _ _)
  have w1s := HB1.out.size
  have lX1 := HX1.out.lt
  have lY1 := HY1.out.lt
  have HH1 := hide hh1
  rw [← hw1, hh1]
  clear hw1 hh1
  have HKX := hide (fun (W : World) (hW : Below w1.heap.size w1 W) => (show (W.cell? ⟨h1, 0, none⟩ = some (.slice Ak lk ck) ∧ W.frozen? ⟨h1, 0, none⟩ = false) ∧ (W.cell? ⟨h1, 1, none⟩ = some (.slice Ab lb cb) ∧ W.frozen? ⟨h1, 1, none⟩ = false) ∧ (W.cell? ⟨h1, 2, none⟩ = some (.int .i64 fp) ∧ W.frozen? ⟨h1, 2, none⟩ = false) ∧ (W.cell? ⟨h1, 3, none⟩ = some (.int .i64 fr) ∧ W.frozen? ⟨h1, 3, none⟩ = false) ∧ (W.cell? ⟨h1, 4, none⟩ = some (.slice As ls cs) ∧ W.frozen? ⟨h1, 4, none⟩ = false) from
    ⟨(HX1.out.below hW).cell 0 (v := .slice Ak lk ck) rfl, (HX1.out.below hW).cell 1 (v := .slice Ab lb cb) rfl, (HX1.out.below hW).cell 2 (v := .int .i64 fp) rfl, (HX1.out.below hW).cell 3 (v := .int .i64 fr) rfl, (HX1.out.below hW).cell 4 (v := .slice As ls cs) rfl⟩))
  obtain ⟨⟨c0, f0⟩, ⟨c1, f1⟩, ⟨c2, f2⟩, ⟨c3, f3⟩, ⟨c4, f4⟩⟩ := HKX.out w1 (Below.refl _ _)
  go_upto_region 2 with (go_at_call 8; (with_reducible refine (HCR.out w1 HB1.out).mono ?_); rintro e w3 ⟨A3, k3, rfl, hs3, hc3, hm3, ha3, hb3⟩; have HA3 := hide ha3; have HS3 := hide hs3; have HC3 := hide hb3; have p3 := HKX.out w3 hb3; clear hs3 hb3 ha3 c0 c1 c2 c3 c4 f0 f1 f2 f3 f4)
  obtain ⟨⟨c0, f0⟩, ⟨c1, f1⟩, ⟨c2, f2⟩, ⟨c3, f3⟩, ⟨c4, f4⟩⟩ := p3
  have w3s := HC3.out.size
  have lX3 : h1 < w3.heap.size := by omega
  have lY3 : h1 + 1 < w3.heap.size := by omega
  by_cases hft : ls + cn ≤ 40
  case neg =>
    have hg : ¬ ls + cn ≤ 40 := hft
    have hgt : (ls : Int) + (cn : Int) > 40 := by omega
    have HNF := hide (show fitsB f = false by rw [HFI.out]; exact decide_eq_false hg)
    have HY3 := hide (HY1.out.below HC3.out)
    obtain ⟨y0, g0⟩ := HY3.out.cell 0 (v := .slice none 0 0) rfl
    obtain ⟨y1, g1⟩ := HY3.out.cell 1 (v := .slice none 0 0) rfl
    obtain ⟨y2, g2⟩ := HY3.out.cell 2 (v := .int .i64 0) rfl
    obtain ⟨y3, g3⟩ := HY3.out.cell 3 (v := .int .i64 0) rfl
    obtain ⟨y4, g4⟩ := HY3.out.cell 4 (v := .slice none 0 0) rfl
    have HZ := hide (HY3.out.end5 (v0 := .slice none 0 0) (v1 := .slice none 0 0) (v2 := .int .i64 0) (v3 := .int .i64 0) (v4 := .slice none 0 0))
    have HBE := hide (end5_below (h := h1 + 1) (v0 := .slice none 0 0) (v1 := .slice none 0 0) (v2 := .int .i64 0) (v3 := .int .i64 0) (v4 := .slice none 0 0) (HB1.out.trans (HC3.out.mono w1s)) (by have := HH1.out; omega))
    go_wp2
    (try simp only [Exit.inBlock, Exit.then])
    refine bodyPost_ret (results_cell_row_tmp rfl _ _ (h1 + 1) 34 #[.slice none 0 0, .slice none 0 0, .int .i64 0, .int .i64 0, .slice none 0 0] (0, 0) _ (by rfl) HZ.out Tryd.underlying34 rfl size_func) rfl ?_
    exact ⟨fun h => (by rw [HNF.out] at h; cases h), fun _ => ⟨rfl, HBE.out⟩⟩
  have hgt : ¬ (ls : Int) + (cn : Int) > 40 := by omega
  have HYF := hide (show fitsB f = true by rw [HFI.out]; exact decide_eq_true hft)
  have HW5 := hide (fun (W : World) (v1 v2 v3 : Value) (l0 : List (List InsV × Value)) (hW : Below w3.heap.size w3 W) (ho1 : Ow W w3.heap.size 3 .i64 v1 f.kinds) (ho2 : Ow W w3.heap.size 3 .i64 v2 f.base) (hm : BlkM W w3.heap.size v3 l0) => (show SplB fp fr f.kinds f.base w3.heap.size h1 v1 v2 v3 l0 w (end5 W h1 v1 v2 (.int .i64 fp) (.int .i64 fr) v3) from SplB.start ((HX1.out.below HC3.out).below hW) ((HY1.out.below HC3.out).below hW) ho1 ho2 hm ((HB1.out.trans (HC3.out.mono w1s)).trans (hW.mono (by omega))) (by have := HH1.out; omega)))
  go_upto_region 5 with (go_at_call 17; (with_reducible refine (HCP.out w3 (HB1.out.trans (HC3.out.mono w1s))).mono ?_); rintro e w4 ⟨v1, v2, v3, l0, rfl, ho1, ho2, hm4, hl4, hb4⟩; obtain ⟨A1, k1, hv1, -, -, -⟩ := ho1.sl; obtain ⟨A2, k2, hv2, -, -, -⟩ := ho2.sl; obtain ⟨A4, k4, hv4, -, -⟩ := hm4.own.sl; have hl0 : l0.length = ls := (by have := congrArg List.length hl4; rw [List.length_map, HLS.out] at this; exact this); rw [HLK.out] at hv1; rw [HLB.out] at hv2; rw [hl0] at hv4; subst hv1; subst hv2; subst hv4; have HL0 := hide hl0; have HL4 := hide hl4; have HS4 := hide (HW5.out w4 _ _ _ l0 hb4 ho1 ho2 hm4); have HC4 := hide (HC3.out.trans (hb4.mono w3s)); have HD4 := hide hb4; obtain ⟨⟨d0, e0⟩, ⟨d1, e1⟩, ⟨d2, e2⟩, ⟨d3, e3⟩, ⟨d4, e4⟩⟩ := HKX.out w4 HC4.out; have lX4 : h1 < w4.heap.size := (by have := hb4.size; omega); clear ho1 ho2 hm4 hl4 hb4 hl0 c0 c1 c2 c3 c4 f0 f1 f2 f3 f4)
  obtain ⟨w5, hw5⟩ : ∃ w5, w5 = ((((w4.setCell ⟨h1, 0, none⟩ (.slice A1 lk k1)).setCell ⟨h1, 1, none⟩ (.slice A2 lb k2)).setCell ⟨h1, 2, none⟩ (.int .i64 fp)).setCell ⟨h1, 3, none⟩ (.int .i64 fr)).setCell ⟨h1, 4, none⟩ (.slice A4 ls k4) := ⟨_, rfl⟩
  have HS5 := hide (show SplB fp fr f.kinds f.base w3.heap.size h1 (.slice A1 lk k1) (.slice A2 lb k2) (.slice A4 ls k4) l0 w w5 by rw [hw5]; exact HS4.out)
  have HE5 := hide (show ∀ b, w1.heap.size ≤ b → b < w3.heap.size → w5.heap[b]? = w3.heap[b]? from fun b hb1 hb2 => by
    rw [hw5]
    exact (end5_blk (by omega)).trans (HD4.out.block b hb2))
  have HM0 := hide (show l0.map (·.1) = splitBs f.blocks ((critN f).take 0) by rw [HL4.out]; rfl)
  obtain ⟨iB, hiB, bz0, bz1, bz2⟩ := info_parts info_blk13
  have HIB := hide hiB
  rw [← hw5]
  clear hw5 hiB d0 d1 d2 d3 d4 e0 e1 e2 e3 e4 HW5 HKX
  go_wp2
  go_loopw [21] (fun i wr => ∃ (k : Nat) (v3 : Value) (l : List (List InsV × Value)), k ≤ cn ∧ i = .int .i64 (k : Int) ∧ Hid (SplB fp fr f.kinds f.base w3.heap.size h1 (.slice A1 lk k1) (.slice A2 lb k2) v3 l w wr) ∧ Hid (l.map (·.1) = splitBs f.blocks ((critN f).take k)) ∧ Hid (∀ b, w1.heap.size ≤ b → b < w3.heap.size → wr.heap[b]? = w3.heap[b]?)) (fun i _ => cn - (intOf i).toNat)
  case atStart => exact ⟨0, _, l0, Nat.zero_le _, rfl, HS5, HM0, HE5⟩
  case round =>
    obtain ⟨k, v3, l, hk', rfl, HS, HM, HE⟩ := hrel
    obtain ⟨wo, rfl⟩ : ∃ wo, wo = wr := ⟨_, rfl⟩
    have HPI := hide (HSP.out k hk')
    have hll : l.length = ls + k := by
      have h1' := congrArg List.length HM.out
      rw [List.length_map, HPI.out.len, HLS.out] at h1'
      exact h1'
    have HLL := hide hll
    obtain ⟨gc, capc, hv3, hgc1, hgc2, hgc3, hgc4, hgcT⟩ := HS.out.m.own.blk (by omega)
    rw [hll] at hv3
    subst hv3
    obtain ⟨x0, f0⟩ := HS.out.bx.cell 0 (v := .slice A1 lk k1) rfl
    obtain ⟨x1, f1⟩ := HS.out.bx.cell 1 (v := .slice A2 lb k2) rfl
    obtain ⟨x2, f2⟩ := HS.out.bx.cell 2 (v := .int .i64 fp) rfl
    obtain ⟨x3, f3⟩ := HS.out.bx.cell 3 (v := .int .i64 fr) rfl
    obtain ⟨x4, f4⟩ := HS.out.bx.cell 4 (v := .slice (some ⟨gc, 0, none⟩) (ls + k) capc) rfl
    have lx := HS.out.bx.lt
    have ly := HS.out.bz.lt
    have hwo3 : w3.heap.size ≤ wo.heap.size := by omega
    by_cases hlt : k < cn
    case neg =>
      obtain rfl : cn = k := by omega
      have hnl : ¬ ((cn : Int) < (cn : Int)) := by omega
      obtain ⟨y0, g0⟩ := HS.out.bz.cell 0 (v := .slice none 0 0) rfl
      obtain ⟨y1, g1⟩ := HS.out.bz.cell 1 (v := .slice none 0 0) rfl
      obtain ⟨y2, g2⟩ := HS.out.bz.cell 2 (v := .int .i64 0) rfl
      obtain ⟨y3, g3⟩ := HS.out.bz.cell 3 (v := .int .i64 0) rfl
      obtain ⟨y4, g4⟩ := HS.out.bz.cell 4 (v := .slice none 0 0) rfl
      have HZ := hide (HS.out.bz.end5 (v0 := .slice A1 lk k1) (v1 := .slice A2 lb k2) (v2 := .int .i64 fp) (v3 := .int .i64 fr) (v4 := .slice (some ⟨gc, 0, none⟩) (ls + cn) capc))
      have HZA := hide ((HS.out.ok.end5 (v0 := .slice A1 lk k1) (v1 := .slice A2 lb k2) (v2 := .int .i64 fp) (v3 := .int .i64 fr) (v4 := .slice (some ⟨gc, 0, none⟩) (ls + cn) capc) HS.out.bz.tb).lower (b := w.heap.size) (by omega))
      have HZB := hide ((HS.out.oe.end5 (v0 := .slice A1 lk k1) (v1 := .slice A2 lb k2) (v2 := .int .i64 fp) (v3 := .int .i64 fr) (v4 := .slice (some ⟨gc, 0, none⟩) (ls + cn) capc) HS.out.bz.tb).lower (b := w.heap.size) (by omega))
      have HZM := hide ((HS.out.m.end5 (v0 := .slice A1 lk k1) (v1 := .slice A2 lb k2) (v2 := .int .i64 fp) (v3 := .int .i64 fr) (v4 := .slice (some ⟨gc, 0, none⟩) (ls + cn) capc) HS.out.bz.tb).lower (b := w.heap.size) (by omega))
      have HZE := hide (end5_below (h := h1 + 1) (v0 := .slice A1 lk k1) (v1 := .slice A2 lb k2) (v2 := .int .i64 fp) (v3 := .int .i64 fr) (v4 := .slice (some ⟨gc, 0, none⟩) (ls + cn) capc) HS.out.bel (by have := HH1.out; omega))
      have HALL := hide (show l.map (·.1) = (splitF f).blocks by rw [HM.out, HBS.out, List.take_of_length_le (by have := HCN.out; omega)])
      go_wp2
      (try simp only [Exit.inBlock, Exit.then])
      refine bodyPost_ret (results_cell_row_tmp rfl _ _ (h1 + 1) 34 #[.slice A1 lk k1, .slice A2 lb k2, .int .i64 fp, .int .i64 fr, .slice (some ⟨gc, 0, none⟩) (ls + cn) capc] (0, 0) _ (by rfl) HZ.out Tryd.underlying34 rfl size_func) rfl ?_
      refine ⟨fun _ => ⟨_, _, _, l, ?_, HZA.out, HZB.out, HZM.out, HALL.out, HZE.out⟩, fun h => (by rw [HYF.out] at h; cases h)⟩
      rw [HFP.out, HFR.out]
      rfl
    have HLT := hide hlt
    obtain ⟨e, he⟩ : ∃ e, (critN f)[k]? = some e := ⟨_, List.getElem?_eq_getElem (by have := HCN.out; omega)⟩
    obtain ⟨⟨a, lA, xA, ha1, hA, hxA⟩, heR⟩ := HLA.out e (List.mem_of_getElem? he)
    have hal := (List.getElem?_eq_some_iff.1 hA).1
    obtain ⟨n, hn⟩ : ∃ n, lA.length = n + 1 := ⟨lA.length - 1, by have := (List.getElem?_eq_some_iff.1 hxA).1; omega⟩
    have hn1000 := (HCODE.out lA (List.mem_of_getElem? hA)).2.1
    have hnle : n ≤ 1000 := by omega
    obtain ⟨lsa, hlsa⟩ : ∃ lsa, bentB f.blocks.length ((critN f).take k) a lA = lsa := ⟨_, rfl⟩
    have hlsl : lsa.length = n + 1 := by rw [← hlsa, bentB_len, hn]
    obtain ⟨x, hx⟩ : ∃ x, lsa[n]? = some x := ⟨_, List.getElem?_eq_getElem (by omega)⟩
    have hbs := HPI.out.old a lA hA
    rw [hlsa, ← HM.out, List.getElem?_map] at hbs
    obtain ⟨⟨p1, ua⟩, hp, hp1⟩ : ∃ p, l[a]? = some p ∧ p.1 = lsa := by
      cases h : l[a]? with
      | none => rw [h] at hbs; cases hbs
      | some p => rw [h] at hbs; injection hbs with hbs; exact ⟨p, rfl, hbs⟩
    simp only at hp1
    subst hp1
    obtain ⟨q, hq1, hq2, -⟩ := HS.out.m.code _ (List.mem_of_getElem? hp)
    have hql : q.length = n + 1 := by
      have := congrArg List.length hq1
      rw [List.length_map] at this
      simp only at this
      omega
    obtain ⟨g, cg, hua, hg1, hg2, -, -, hgT⟩ := hq2.blk (by omega)
    simp only at hua
    rw [hql] at hua
    subst hua
    have HP := hide hp
    obtain ⟨da, fa⟩ := HS.out.m.own.at' hll (fun _ => rfl) hp (i := 0) (by omega)
    rw [Nat.mul_one, Nat.add_zero] at da
    have da' : wo.cell? ⟨gc, a, none⟩ = some (.slice (some ⟨g, 0, none⟩) (n + 1) cg) := da
    obtain ⟨be, oe, rfl, hbe, hce⟩ := HS3.out (by have := HCN.out; omega)
    have hbe1 := HA3.out be oe rfl
    obtain ⟨z1, z2⟩ := hce k e he
    have d1 := (World.cell?_of_block (a := ⟨be, oe + k * 2, none⟩) (HE.out be hbe1 hbe)).trans z1
    have d2 := (World.cell?_of_block (a := ⟨be, oe + k * 2 + 1, none⟩) (HE.out be hbe1 hbe)).trans z2
    rw [ha1] at d1
    obtain ⟨tz, hto⟩ : ∃ tz, e.2 = tz := ⟨_, rfl⟩
    rw [hto] at d2 heR
    have hbs2 : be < wo.heap.size := by omega
    have hk0 : (0 : Int) ≤ (k : Int) := by omega
    have hk1 : (k : Int) < (cn : Int) := by omega
    have HMAP := hide (fun (u2 : Value) => (show ((l.set a (bendB p1 tz ((ls + k : Nat) : Int), .slice (some ⟨g, 0, none⟩) (n + 1) cg)) ++ [([jumpI tz], u2)]).map (·.1) = splitBs f.blocks ((critN f).take (k + 1)) from by
      rw [splitBs_snoc he, ← HM.out, ← hto]
      exact splitStep_map HP.out ha1 HLL.out))
    have hals : a < ls := by have := HLS.out; omega
    clear he hA hxA hal hlsa hbs hp hq1 hq2 hql da z1 z2 hce ha1 hto hn f0 f1 f2 f3 f4 fa x0 x1 x2 x3
    go_upto_region 8 with (fail)
    obtain ⟨w6, hw6⟩ : ∃ w6, w6 = wo.alloc (.cells #[.int .i64 (a : Int), .int .i64 tz] 46) := ⟨_, rfl⟩
    obtain ⟨h7, hh7⟩ : ∃ h7, wo.heap.size = h7 := ⟨_, rfl⟩
    have HX7 := hide (show Box w6 h7 #[.int .i64 (a : Int), .int .i64 tz] 46 by rw [hw6, ← hh7]; exact Box.new wo _ _)
    have HB6 := hide (show Below wo.heap.size wo w6 by rw [hw6]; exact alloc1 wo _)
    have HS6 := hide (HS.out.below HB6.out)
    rw [← hw6, hh7]
    have w6s := HB6.out.size
    have y4 := (HB6.out.cell (p := ⟨h1, 4, none⟩) lx).trans x4
    have ya := (HB6.out.cell (p := ⟨gc, a, none⟩) hgc2).trans da'
    have hgT6 : TB w6 38 g := hgT.keep (HB6.out.block g hg2)
    have HTN := hide (eturn_any tz ((ls + k : Nat) : Int) (w6.drewN 1) (HS6.out.m.below (below_drewN (Below.refl _ _) 1)) HP.out hlsl (by omega) hx (by unfold i64R; omega))
    clear hw6 hh7 x4 da' d1 d2 hbs2 hx
    have l7 := HX7.out.lt
    have b0 := (HX7.out.cell 0 (v := .int .i64 (a : Int)) rfl).1
    have b1 := (HX7.out.cell 1 (v := .int .i64 tz) rfl).1
    have lx6 : h1 < w6.heap.size := by omega
    have lgc6 : gc < w6.heap.size := by omega
    have n1 : h1 ≠ g := tb_ne HS6.out.bx.tb hgT6 (by decide)
    have n2 : h7 ≠ g := tb_ne HX7.out.tb hgT6 (by decide)
    have n3 : gc ≠ g := tb_ne (HS6.out.m.own.row gc rfl) hgT6 (by decide)
    have HQ8 := hide (fun (W : World) (hW : But g w6 W) => (show W.cell? ⟨h1, 4, none⟩ = some (.slice (some ⟨gc, 0, none⟩) (ls + k) capc) ∧ W.cell? ⟨h7, 0, none⟩ = some (.int .i64 (a : Int)) ∧ W.cell? ⟨h7, 1, none⟩ = some (.int .i64 tz) ∧ W.cell? ⟨gc, a, none⟩ = some (.slice (some ⟨g, 0, none⟩) (n + 1) cg) from
      ⟨(World.cell?_of_block (a := ⟨h1, 4, none⟩) (hW.block h1 lx6 n1)).trans y4, (World.cell?_of_block (a := ⟨h7, 0, none⟩) (hW.block h7 l7 n2)).trans b0, (World.cell?_of_block (a := ⟨h7, 1, none⟩) (hW.block h7 l7 n2)).trans b1, (World.cell?_of_block (a := ⟨gc, a, none⟩) (hW.block gc lgc6 n3)).trans ya⟩))
    have ha0 : (0 : Int) ≤ (a : Int) := by omega
    have ha1 : (a : Int) < ((ls + k : Nat) : Int) := by omega
    have ha2 : a < ls + k := by omega
    have ha3 : (a : Int) < (ls : Int) + (k : Int) := by omega
    go_region_held3 (fun w' => w'.cell? ⟨h1, 4, none⟩ = some (.slice (some ⟨gc, 0, none⟩) (ls + k) capc) ∧ w'.cell? ⟨h7, 0, none⟩ = some (.int .i64 (a : Int)) ∧ w'.cell? ⟨h7, 1, none⟩ = some (.int .i64 tz) ∧ w'.cell? ⟨gc, a, none⟩ = some (.slice (some ⟨g, 0, none⟩) (n + 1) cg)) (first | go_keep | (exact q8))
      (first
        | (go_at_call 18; refine HTN.out.mono ?_; rintro e8 w8 ⟨rfl, hm8, hbt8⟩; have hb8 : But g w6 w8 := ⟨hbt8.os, hbt8.tape, hbt8.output, hbt8.size, hbt8.block⟩; have q8 := HQ8.out w8 hb8; have HM8 := hide hm8; have HBT8 := hide hb8; clear hm8 hbt8 hb8))
    have w8s := HBT8.out.size
    have HS8 := hide (HS6.out.turned HBT8.out hgT6 (by omega) HM8.out)
    have HE8 := hide (show ∀ b, w1.heap.size ≤ b → b < w3.heap.size → w8.heap[b]? = w3.heap[b]? from fun b hb1 hb2 => (HBT8.out.block b (by omega) (by omega)).trans ((HB6.out.block b (by omega)).trans (HE.out b hb1 hb2)))
    have HOW := hide (show OwC blkC 41 1 ((w8.alloc (.cells (jmpC tz) 38)).alloc (.cells #[.slice (some ⟨w8.heap.size, 0, none⟩) 1 1] 41)) w3.heap.size (.slice (some ⟨gc, 0, none⟩) (ls + k) capc) (l.set a (bendB p1 tz ((ls + k : Nat) : Int), .slice (some ⟨g, 0, none⟩) (n + 1) cg)) from HS8.out.m.own.below (alloc2 w8 _ _))
    have HLL8 := hide (show (l.set a (bendB p1 tz ((ls + k : Nat) : Int), .slice (some ⟨g, 0, none⟩) (n + 1) cg)).length = ls + k by rw [List.length_set, HLL.out])
    have HBX := hide (show Box ((w8.alloc (.cells (jmpC tz) 38)).alloc (.cells #[.slice (some ⟨w8.heap.size, 0, none⟩) 1 1] 41)) (w8.heap.size + 1) #[.slice (some ⟨w8.heap.size, 0, none⟩) 1 1] 41 by
      have t := Box.new (w8.alloc (.cells (jmpC tz) 38)) #[.slice (some ⟨w8.heap.size, 0, none⟩) 1 1] 41
      rw [World.size_alloc] at t
      exact t)
    obtain ⟨l8, hl8⟩ : ∃ l8, l.set a (bendB p1 tz ((ls + k : Nat) : Int), .slice (some ⟨g, 0, none⟩) (n + 1) cg) = l8 := ⟨_, rfl⟩
    rw [hl8] at HOW HLL8 HS8 HMAP
    have hroom : ls + k < 1000000 := by omega
    obtain ⟨y4', y0', y1', ya'⟩ := q8
    have lx8 : h1 < w8.heap.size := by omega
    have l78 : h7 < w8.heap.size := by omega
    clear hl8 y4 ya b0 b1
    go_upto_region 9 with (fail)
    go_wp2_with (at_builtin; refine wpList_append_c (c := blkC) (sz := 1) ((w8.alloc (.cells (jmpC tz) 38)).alloc (.cells #[.slice (some ⟨w8.heap.size, 0, none⟩) 1 1] 41)) (by rfl) _ _ _ (by rfl) w3.heap.size iB _ 24 Tryd.underlying32 HIB.out bz0 bz1 bz2 rfl (by omega) (by omega) (.slice (some ⟨gc, 0, none⟩) (ls + k) capc) l8 (ls + k) HLL8.out (by rfl) HOW.out ([jumpI tz], .slice (some ⟨w8.heap.size, 0, none⟩) 1 1) rfl (by intro u hu; simp [blkC] at hu; subst hu; rfl) (w8.heap.size + 1) _ HBX.out rfl (by rfl) hroom (by simp only [World.size_alloc]; omega) ?_; intro g9 c9 w9 ho9 hg9 ha9 hl9; have HA9 := hide (HS8.out.app (by omega) (by omega) (by have := HH1.out; omega) heR hg9 ho9); have hbx9 := HS8.out.app_box hg9; have HK9 := hide hbx9.2; obtain ⟨x4', f4'⟩ := hbx9.1.cell 4 (v := .slice (some ⟨gc, 0, none⟩) (ls + k) capc) rfl; have lx9 := hbx9.1.lt; clear ho9 hg9 hbx9)
    go_roundw
    case rel => exact ⟨k + 1, _, _, by have := HLT.out; omega, by go_num, HA9, hide (HMAP.out _), hide (fun b hb1 hb2 => (heap_setCell_other w9 ⟨h1, 4, none⟩ b _ (by show b ≠ h1; omega)).trans ((HK9.out b hb2 (by omega)).trans (HE8.out b hb1 hb2)))⟩
    case measure => have := HLT.out; simp [intOf]; omega
end Go.Proofs.YtnoknodijombpaaDoor
