/- The statement PointNumbers, walked: it answers true. Condition: no slice of the program is longer than any machine's memory. -/
import Derived.Test.YtnoknodijombpaaPfPT
set_option linter.unusedSimpArgs false
set_option linter.unusedVariables false
namespace Go.Proofs.Ytnoknodijombpaa
open Go.RowKit

def pltP (a b : Int × Int) : Prop := a.1 < b.1 ∨ (a.1 = b.1 ∧ a.2 < b.2)
theorem ptsIn_mem {b j : Nat} {l : List InsV} {e : Int × Int} (h : e ∈ ptsIn b l j) : ∃ (i : Nat) (x : InsV), e = ((b : Int), (i : Int)) ∧ l[i]? = some x ∧ isPt x.op = true := by
  unfold ptsIn at h
  obtain ⟨i, hi, rfl⟩ := List.mem_map.1 h
  have h2 := (List.mem_filter.1 hi).2
  cases hx : l[i]? with
  | none => rw [hx] at h2; cases h2
  | some x => rw [hx] at h2; exact ⟨i, x, rfl, hx, h2⟩
theorem ptsTo_snoc (f : FunV) (k : Nat) : ptsTo f (k + 1) = ptsTo f k ++ ptsIn k (f.blocks.getD k []) (f.blocks.getD k []).length := by
  unfold ptsTo
  rw [List.range_succ, List.flatMap_append]
  simp
theorem ptsTo_mem {f : FunV} {e : Int × Int} : ∀ k, e ∈ ptsTo f k → ∃ (b i : Nat) (l : List InsV) (x : InsV), b < k ∧ e = ((b : Int), (i : Int)) ∧ f.blocks[b]? = some l ∧ l[i]? = some x ∧ isPt x.op = true
  | 0, h => by simp [ptsTo] at h
  | k + 1, h => by
    rw [ptsTo_snoc] at h
    rcases List.mem_append.1 h with h | h
    · obtain ⟨b, i, l, x, h1, h2⟩ := ptsTo_mem k h
      exact ⟨b, i, l, x, by omega, h2⟩
    · obtain ⟨i, x, h1, h2, h3⟩ := ptsIn_mem h
      rw [List.getD_eq_getElem?_getD] at h2
      cases hl : f.blocks[k]? with
      | none => rw [hl] at h2; simp at h2
      | some l => rw [hl] at h2; exact ⟨k, i, l, x, by omega, h1, hl, h2, h3⟩
theorem ptsIn_pw (b : Nat) (l : List InsV) (j : Nat) : (ptsIn b l j).Pairwise pltP := by
  unfold ptsIn
  rw [List.pairwise_map]
  exact (List.pairwise_lt_range.filter _).imp (fun h => .inr ⟨rfl, by show ((_ : Nat) : Int) < ((_ : Nat) : Int); omega⟩)
theorem ptsTo_pw (f : FunV) : ∀ k, (ptsTo f k).Pairwise pltP
  | 0 => by simp [ptsTo]
  | k + 1 => by
    rw [ptsTo_snoc, List.pairwise_append]
    refine ⟨ptsTo_pw f k, ptsIn_pw _ _ _, fun a ha c hc => .inl ?_⟩
    obtain ⟨b, i, l, x, h1, rfl, -⟩ := ptsTo_mem k ha
    obtain ⟨i', x', rfl, -⟩ := ptsIn_mem hc
    show (b : Int) < (k : Int)
    omega
theorem pw_lt {es : List (Int × Int)} (h : es.Pairwise pltP) {i j : Nat} {a c : Int × Int} (hi : es[i]? = some a) (hj : es[j]? = some c) (hij : i < j) : pltP a c := by
  obtain ⟨h1, rfl⟩ := List.getElem?_eq_some_iff.1 hi
  obtain ⟨h2, rfl⟩ := List.getElem?_eq_some_iff.1 hj
  exact List.pairwise_iff_getElem.1 h i j h1 h2 hij
theorem pw_idx {es : List (Int × Int)} (h : es.Pairwise pltP) {k : Nat} {e : Int × Int} (hk : es[k]? = some e) : idxP es e = (k : Int) := by
  refine idxP_at (fun hm => ?_) hk
  obtain ⟨j, hj⟩ := List.getElem?_of_mem hm
  rw [List.getElem?_take] at hj
  split at hj
  · rename_i hlt
    have := pw_lt h hj hk hlt
    unfold pltP at this
    omega
  · cases hj
theorem lay_len {f : FunV} (h : SOk f) (hf : fitsL f = true) : (layF f).blocks.length ≤ 40 ∧ ∀ l ∈ (layF f).blocks, l.length ≤ 40 := by
  unfold fitsL at hf
  rw [Bool.and_eq_true] at hf
  refine ⟨?_, fun l hl => ?_⟩
  · show (layBs f).length ≤ 40
    unfold layBs
    rw [layTo_len]
    exact (split_flow h.flow hf.1).1
  · have := List.all_eq_true.1 hf.2 l hl
    exact of_decide_eq_true this
set_option maxHeartbeats 4000000 in
set_option maxRecDepth 100000 in
theorem numbers14_law (vp : Value) (p : List FunV) (w : World) (hp : FunsV w (· < w.heap.size) vp p) (hsz : progSize p) :
    Calls Try.prog 6 #[.agg #[vp]] w fun e w' => e = .returned (.bool true) ∧ Below w.heap.size w w' := by
  have HKP := hide (fun (W : World) (hW : Below w.heap.size w W) => hp.keep (up hW (Nat.le_refl _)) (fun _ h => h))
  have HOUT := hide (fun (W : World) (hW : Below w.heap.size w W) => out14_any vp p W w.heap.size hW.size (hp.keep (up hW (Nat.le_refl _)) (fun _ h => h)) hsz)
  have HALLOK := hide (fun h : progB4 p = true => @eOk_of p h)
  obtain ⟨A, c, rfl, hpc, hpm⟩ := hp.open'
  obtain ⟨lp, hlp⟩ : ∃ lp, p.length = lp := ⟨_, rfl⟩
  have HLP := hide hlp
  rw [hlp] at HKP HOUT hpc ⊢
  clear hp hsz hlp
  go_enter Try.func6, Try.ntmps6
  go_upto_region 1 with (fail)
  obtain ⟨w0, hw0⟩ : ∃ w0, w0 = w.alloc (.cells #[.slice A lp c] 24) := ⟨_, rfl⟩
  have HX0 := hide (show Box w0 w.heap.size #[.slice A lp c] 24 by rw [hw0]; exact Box.new w _ _)
  have HB0 := hide (show Below w.heap.size w w0 by rw [hw0]; exact alloc1 w _)
  rw [← hw0]
  clear hw0
  go_upto_region 3 with (go_at_call 18; refine (alive14_any w0).mono ?_; rintro e w1 ⟨rfl, hb1⟩; have HX1 := hide (HX0.out.below hb1); have HC1 := hide (HB0.out.trans (hb1.mono HB0.out.size)); clear hb1)
  have x1 := (HX1.out.cell 0 (v := .slice A lp c) rfl).1
  have l1 := HX1.out.lt
  go_upto_region 5 with (go_at_call 19; refine (HOUT.out w1 HC1.out).mono ?_; rintro e w2 ⟨b1, rfl, hs2, hb2⟩; have HB2 := hide (HC1.out.trans (hb2.mono HC1.out.size)); have HX2 := hide (HX1.out.below hb2); have HS2 := hide hs2; clear x1 hb2 hs2)
  all_goals try (go_ret; exact ⟨rfl, HB2.out⟩)
  have hb1f : b1 = false := by first | assumption | exact Bool.eq_false_iff.2 (by assumption)
  subst hb1f
  have HPB := hide (HS2.out.out rfl)
  have HOKS := hide (HALLOK.out (HS2.out.out rfl))
  clear HOUT HALLOK HS2 HC1 HX1 l1
  have HLN := hide (show lp ≤ 100000 from by have h1 := HPB.out; unfold progB4 at h1; rw [Bool.and_eq_true] at h1; have := inB_iff.1 h1.1; have := HLP.out; omega)
  have HWH := hide (show Calls Try.prog 22 #[.agg #[.slice A lp c]] w2 (WhLA p w2) from pwhole_any _ p w2 w.heap.size HB2.out.size (HKP.out w2 HB2.out) (fun f hf => (HOKS.out f hf).sok) (by rw [HLP.out]; exact HLN.out))
  have x2 := (HX2.out.cell 0 (v := .slice A lp c) rfl).1
  have l2 := HX2.out.lt
  cases hall : p.all fitsL with
  | false =>
    have HALL := hide hall
    go_upto_region 6 with (go_at_call 22; (with_reducible refine HWH.out.mono ?_); rintro e w3 ⟨-, h3⟩; obtain ⟨rfl, hb3⟩ := h3 HALL.out; have HB3 := hide (HB2.out.trans (hb3.mono HB2.out.size)); clear hb3 h3)
    have HB4 := hide (fun (o : Obj) => (HB3.out.alloc HB3.out.size o : Below w.heap.size w (w3.alloc o)))
    go_wp2
    go_ret
    exact ⟨rfl, HB4.out _⟩
  | true =>
    have HALL := hide hall
    have HQL := hide (show (p.map layF).length = lp by rw [List.length_map, HLP.out])
    go_upto_region 6 with (go_at_call 22; (with_reducible refine HWH.out.mono ?_); rintro e w3 ⟨h3, -⟩; obtain ⟨v3, rfl, hq3, hb3⟩ := h3 HALL.out; obtain ⟨A3, c3, hv3, hc3, hm3⟩ := hq3.open'; rw [HQL.out] at hv3 hc3; subst hv3; have HQ3 := hide hq3; have HB3 := hide (HB2.out.trans (hb3.mono HB2.out.size)); clear hb3 h3 hq3)
    obtain ⟨w4, hw4⟩ : ∃ w4, w4 = w3.alloc (.cells #[.slice A3 lp c3] 24) := ⟨_, rfl⟩
    obtain ⟨h4, hh4⟩ : ∃ h4, w3.heap.size = h4 := ⟨_, rfl⟩
    have HX4 := hide (show Box w4 h4 #[.slice A3 lp c3] 24 by rw [hw4, ← hh4]; exact Box.new w3 _ _)
    have hs34 : w3.heap.size ≤ w4.heap.size := by rw [hw4, World.size_alloc]; omega
    have HQ4 := hide (show FunsV w4 (· < w4.heap.size) (.slice A3 lp c3) (p.map layF) by rw [hw4]; exact HQ3.out.keep (up (alloc1 w3 _) (Nat.le_refl _)) (fun b hb => by have hb' : b < w3.heap.size := hb; show b < _; rw [World.size_alloc]; omega))
    have HB4 := hide (show Below w.heap.size w w4 by rw [hw4]; exact HB3.out.trans ((alloc1 w3 _).mono HB3.out.size))
    rw [← hw4, hh4]
    clear hw4 hh4 x2 l2 hs34
    go_wp2
    go_loopw [5] (fun i wr => ∃ k : Nat, k ≤ lp ∧ i = .int .i64 k ∧ Below w4.heap.size w4 wr) (fun i _ => lp - (intOf i).toNat)
    case atStart => exact ⟨0, Nat.zero_le _, rfl, Below.refl _ _⟩
    case round =>
      obtain ⟨k, hk, rfl, hb'⟩ := hrel
      obtain ⟨wo, rfl⟩ : ∃ wo, wo = wr := ⟨_, rfl⟩
      have hszo := hb'.size
      have HBEL := hide (HB4.out.trans (hb'.mono HB4.out.size))
      have HXO := hide (HX4.out.below hb')
      have HBW := hide hb'
      have xp := (HXO.out.cell 0 (v := .slice A3 lp c3) rfl).1
      have lxp := HXO.out.lt
      clear hb'
      by_cases hlt : k < lp
      case neg =>
        go_wp2
        go_ret
        exact ⟨rfl, HBEL.out⟩
      have HLT := hide hlt
      obtain ⟨f0, hf0⟩ : ∃ f, p[k]? = some f := ⟨_, List.getElem?_eq_getElem (by have := HLP.out; omega)⟩
      obtain ⟨f, hfe⟩ : ∃ f, layF f0 = f := ⟨_, rfl⟩
      have hf : (p.map layF)[k]? = some f := by rw [List.getElem?_map, hf0, ← hfe]; rfl
      obtain ⟨h40, hc40⟩ : f.blocks.length ≤ 40 ∧ ∀ l ∈ f.blocks, l.length ≤ 40 := by
        rw [← hfe]
        exact lay_len (HOKS.out f0 (List.mem_of_getElem? hf0)).sok (List.all_eq_true.1 HALL.out f0 (List.mem_of_getElem? hf0))
      have HQO := hide (HQ4.out.keep (up HBW.out (Nat.le_refl _)) (fun _ h => h) : FunsV wo (· < w4.heap.size) _ _)
      obtain ⟨b, o, Ak, ck, Ab, cb, As, cs, hA, hbb, ⟨e0, e1, e2, e3, e4⟩, hi⟩ := HQO.out.get hf
      subst hA
      have hbs : b < wo.heap.size := by omega
      have kI := fun (W : World) (hW : Below wo.heap.size wo W) => hi.keep (w := wo) (S := (· < w4.heap.size)) (up hW hszo) (fun _ h => h)
      have hsW : ∀ W : World, Below wo.heap.size wo W → w4.heap.size ≤ W.heap.size := fun W hW => by have := hW.size; omega
      have HPT := hide (fun (W : World) (hW : Below wo.heap.size wo W) => ppoints_any _ _ _ f W w4.heap.size (hsW W hW) (kI W hW) h40 hc40)
      have HPN := hide (fun (W : World) (hW : Below wo.heap.size wo W) (y1 y2 : Int) => pnumber_any _ _ _ f y1 y2 W w4.heap.size (hsW W hW) (kI W hW) h40 hc40)
      have HBK := hide (fun (W : World) (hW : Below wo.heap.size wo W) => (kI W hW).2.2.1)
      have hnp' : (ptsN f).length ≤ 1600 := by have := ptsTo_len hc40 f.blocks.length; unfold ptsN; omega
      have HMEM := hide (fun (e : Int × Int) (he : e ∈ ptsN f) => ptsTo_mem f.blocks.length he)
      have HPW := hide (show (ptsN f).Pairwise pltP from ptsTo_pw f _)
      obtain ⟨es, hes⟩ : ∃ es, ptsN f = es := ⟨_, rfl⟩
      rw [hes] at HPT HPN hnp' HMEM HPW
      obtain ⟨np, hnpe⟩ : ∃ np, es.length = np := ⟨_, rfl⟩
      have HNP := hide hnpe
      rw [hnpe] at hnp'
      obtain ⟨ls, hls⟩ : ∃ ls, f.blocks.length = ls := ⟨_, rfl⟩
      have HLS := hide hls
      rw [hls] at HPT HPN HBK HMEM e4 h40
      generalize f.kinds.length = lk, f.base.length = lb, f.params = fp, f.result = fr at *
      have hki : (0 : Int) ≤ (k : Int) := by omega
      have hkl : (k : Int) < (lp : Int) := by omega
      clear hi hf kI hsW hes hnpe hls hfe hf0 hc40
      go_upto_region 12 with (fail)
      obtain ⟨w6, hw6⟩ : ∃ w6, w6 = wo.alloc (.cells #[.slice Ak lk ck, .slice Ab lb cb, .int .i64 fp, .int .i64 fr, .slice As ls cs] 30) := ⟨_, rfl⟩
      obtain ⟨h6, hh6⟩ : ∃ h6, wo.heap.size = h6 := ⟨_, rfl⟩
      have HX6 := hide (show Box w6 h6 #[.slice Ak lk ck, .slice Ab lb cb, .int .i64 fp, .int .i64 fr, .slice As ls cs] 30 by rw [hw6, ← hh6]; exact Box.new wo _ _)
      have HB6 := hide (show Below wo.heap.size wo w6 by rw [hw6]; exact alloc1 wo _)
      rw [← hw6, hh6]
      clear hw6 hh6 e0 e1 e2 e3 e4 hbs xp lxp
      have l6 := HX6.out.lt
      have hz6 := HB6.out.size
      obtain ⟨c0, c1, c2, c3', c4⟩ := And.intro (HX6.out.cell 0 (v := .slice Ak lk ck) rfl).1 (And.intro (HX6.out.cell 1 (v := .slice Ab lb cb) rfl).1 (And.intro (HX6.out.cell 2 (v := .int .i64 fp) rfl).1 (And.intro (HX6.out.cell 3 (v := .int .i64 fr) rfl).1 (HX6.out.cell 4 (v := .slice As ls cs) rfl).1)))
      go_upto_region 13 with (go_at_call 24; refine (HPT.out w6 HB6.out).mono ?_; rintro e w7 ⟨v7, rfl, ho7, hb7⟩; obtain ⟨A7, k7, hv7, hk7, hm7⟩ := ho7.sl; rw [HNP.out] at hv7 hk7; have HO7 := hide ho7; have HC7 := hide (HB6.out.trans (hb7.mono HB6.out.size)); have HX7 := hide (HX6.out.below hb7); subst hv7; clear ho7 hb7 c0 c1 c2 c3' c4 l6)
      go_wp2
      go_loopw [8] (fun i wr => ∃ j : Nat, j ≤ np ∧ i = .int .i64 j ∧ Below w7.heap.size w7 wr) (fun i _ => np - (intOf i).toNat)
      case atStart => exact ⟨0, Nat.zero_le _, rfl, Below.refl _ _⟩
      case round =>
        obtain ⟨j, hj, rfl, hbj⟩ := hrel
        obtain ⟨wq, rfl⟩ : ∃ wq, wq = wr := ⟨_, rfl⟩
        have HBJ := hide hbj
        have hszq := hbj.size
        clear hbj
        by_cases hlj : j < np
        case neg =>
          go_wp2
          go_roundw
          case rel => exact ⟨k + 1, by have := HLT.out; omega, by go_num, HBW.out.trans ((HC7.out.trans (HBJ.out.mono HC7.out.size)).mono hszo)⟩
          case measure => have := HLT.out; simp [intOf]; omega
        have HLJ := hide hlj
        have HCJ := hide (HC7.out.trans (HBJ.out.mono HC7.out.size))
        obtain ⟨e, hy⟩ : ∃ y, es[j]? = some y := ⟨_, List.getElem?_eq_getElem (by have := HNP.out; omega)⟩
        have HY := hide hy
        obtain ⟨zb, zi, l, x, hzb, rfl, hl, hx, hpt⟩ := HMEM.out e (List.mem_of_getElem? hy)
        obtain ⟨bB, oB, A1, c1, hA1, hbB, d0, hins⟩ := (HBK.out wq HCJ.out).get hl
        subst hA1
        obtain ⟨bC, oC, A2, c2, hA2, hbC, ⟨d1, -⟩, -⟩ := hins.get hx
        subst hA2
        have hzil := (List.getElem?_eq_some_iff.1 hx).1
        obtain ⟨nl, hnl⟩ : ∃ nl, l.length = nl := ⟨_, rfl⟩
        rw [hnl] at d0 hzil
        obtain ⟨xo, hxo⟩ : ∃ xo, x.op = xo := ⟨_, rfl⟩
        rw [hxo] at d1 hpt
        obtain ⟨g7, cap7, hv7, -, hg7, -, -, -⟩ := HO7.out.blk (by have := HNP.out; omega)
        rw [HNP.out] at hv7
        injection hv7 with hA7 hx7 hy7
        subst hA7
        clear hx7 hy7 hnl hxo hins hl hx hy
        have HD0 := hide (fun (W : World) (hW : Below wq.heap.size wq W) => And.intro ((hW.cell (p := ⟨bB, oB + zb, none⟩) (show bB < wq.heap.size by have : bB < w4.heap.size := hbB; have := HCJ.out.size; omega)).trans d0) ((hW.cell (p := ⟨bC, oC + zi * 7, none⟩) (show bC < wq.heap.size by have : bC < w4.heap.size := hbC; have := HCJ.out.size; omega)).trans d1))
        have HPS := hide (fun (W : World) (hW : Below w7.heap.size w7 W) (i : Nat) (z : Int × Int) (hz : es[i]? = some z) => (show W.cell? ⟨g7, i * 2, none⟩ = some (.int .i64 z.1) ∧ W.cell? ⟨g7, i * 2 + 1, none⟩ = some (.int .i64 z.2) from
          ⟨(hW.cell (p := ⟨g7, i * 2, none⟩) hg7).trans (HO7.out.at' HNP.out plC_len hz (i := 0) (by omega)).1, (hW.cell (p := ⟨g7, i * 2 + 1, none⟩) hg7).trans (HO7.out.at' HNP.out plC_len hz (i := 1) (by omega)).1⟩))
        have HKX := hide (fun (W : World) (hW : Below wq.heap.size wq W) => (show (W.cell? ⟨h6, 0, none⟩ = some (.slice Ak lk ck) ∧ W.cell? ⟨h6, 1, none⟩ = some (.slice Ab lb cb) ∧ W.cell? ⟨h6, 2, none⟩ = some (.int .i64 fp) ∧ W.cell? ⟨h6, 3, none⟩ = some (.int .i64 fr) ∧ W.cell? ⟨h6, 4, none⟩ = some (.slice (some ⟨bB, oB, none⟩) ls cs) ∧ W.cell? ⟨g7, j * 2, none⟩ = some (.int .i64 (zb : Int)) ∧ W.cell? ⟨g7, j * 2 + 1, none⟩ = some (.int .i64 (zi : Int)) ∧ W.cell? ⟨bB, oB + zb, none⟩ = some (.slice (some ⟨bC, oC, none⟩) nl c1) ∧ W.cell? ⟨bC, oC + zi * 7, none⟩ = some (.int .i64 xo)) ∧ h6 < W.heap.size ∧ g7 < W.heap.size ∧ bB < W.heap.size ∧ bC < W.heap.size from by
          have hW7 := HBJ.out.trans (hW.mono hszq)
          have hX := HX7.out.below hW7
          have hP := HPS.out W hW7 j _ HY.out
          have hD := HD0.out W hW
          have hs1 := hW.size
          have hs2 := HCJ.out.size
          have hb1 : bB < w4.heap.size := hbB
          have hb2 : bC < w4.heap.size := hbC
          exact ⟨⟨(hX.cell 0 (v := .slice Ak lk ck) rfl).1, (hX.cell 1 (v := .slice Ab lb cb) rfl).1, (hX.cell 2 (v := .int .i64 fp) rfl).1, (hX.cell 3 (v := .int .i64 fr) rfl).1, (hX.cell 4 (v := .slice (some ⟨bB, oB, none⟩) ls cs) rfl).1, hP.1, hP.2, hD.1, hD.2⟩, hX.lt, by omega, by omega, by omega⟩))
        have HNJ := hide (show idxP es ((zb : Int), (zi : Int)) = (j : Int) from pw_idx HPW.out HY.out)
        have HPNj := hide (fun (W : World) (hW : Below wo.heap.size wo W) => (show Calls Try.prog 26 #[.agg #[.slice Ak lk ck, .slice Ab lb cb, .int .i64 fp, .int .i64 fr, .slice (some ⟨bB, oB, none⟩) ls cs], .int .i64 (zb : Int), .int .i64 (zi : Int)] W fun e w' => e = .returned (.int .i64 (j : Int)) ∧ Below W.heap.size W w' from by
          have t := HPN.out W hW (zb : Int) (zi : Int)
          rw [HNJ.out] at t
          exact t))
        have HIS := hide (fun (W : World) => (show Calls Try.prog 28 #[.int .i64 xo] W fun e w' => e = .returned (.bool true) ∧ W = w' from by have t := pis_any xo W; rw [hpt] at t; exact t))
        have hji : (0 : Int) ≤ (j : Int) := by omega
        have hjn : (j : Int) < (np : Int) := by omega
        have hzb0 : (0 : Int) ≤ (zb : Int) := by omega
        have hzbl : (zb : Int) < (ls : Int) := by omega
        have hzi0 : (0 : Int) ≤ (zi : Int) := by omega
        have hzin : (zi : Int) < (nl : Int) := by omega
        clear hpt d0 d1
        obtain ⟨⟨p0, p1, p2, p3, p4, p5, p6, p7, p8⟩, lq1, lq2, lq3, lq4⟩ := HKX.out wq (Below.refl _ _)
        go_upto_region 16 with (fail)
        go_region_held3 (fun w' => w'.cell? ⟨h6, 0, none⟩ = some (.slice Ak lk ck) ∧ w'.cell? ⟨h6, 1, none⟩ = some (.slice Ab lb cb) ∧ w'.cell? ⟨h6, 2, none⟩ = some (.int .i64 fp) ∧ w'.cell? ⟨h6, 3, none⟩ = some (.int .i64 fr) ∧ w'.cell? ⟨h6, 4, none⟩ = some (.slice (some ⟨bB, oB, none⟩) ls cs) ∧ w'.cell? ⟨g7, j * 2, none⟩ = some (.int .i64 (zb : Int)) ∧ w'.cell? ⟨g7, j * 2 + 1, none⟩ = some (.int .i64 (zi : Int)) ∧ w'.cell? ⟨bB, oB + zb, none⟩ = some (.slice (some ⟨bC, oC, none⟩) nl c1) ∧ w'.cell? ⟨bC, oC + zi * 7, none⟩ = some (.int .i64 xo)) (first | go_keep | (exact q8))
          (first
            | (go_at_call 28; refine (HIS.out w8).mono ?_; rintro e w9 ⟨rfl, rfl⟩)
            | (go_at_call 26; refine (HPNj.out _ (below_drewN HCJ.out 1)).mono ?_; rintro e w8 ⟨rfl, hb8⟩; have hb78 : Below wq.heap.size wq w8 := ⟨hb8.os, hb8.tape, hb8.output, hb8.size, hb8.block⟩; obtain ⟨q8, lr1, lr2, lr3, lr4⟩ := HKX.out w8 hb78; have HC8 := hide hb78; clear hb8 hb78))
        have HB78 := hide (HBJ.out.trans (HC8.out.mono hszq))
        go_upto_region 18 with (fail)
        clear q8 p0 p1 p2 p3 p4 p5 p6 p7 p8 lq1 lq2 lq3 lq4 hzb0 hzbl hzi0 hzin
        rcases Nat.eq_zero_or_pos j with hj0 | hj0
        · subst hj0
          have q1 : decide ((0 : Int) > 0) = false := by decide
          go_quiet (fail)
          go_wp2
          go_roundw
          case rel => exact ⟨0 + 1, by have := HLJ.out; omega, by go_num, by first | exact below_drewN HB78.out _ | exact HB78.out⟩
          case measure => have := HLJ.out; simp [intOf]; omega
        obtain ⟨i, rfl⟩ : ∃ i, j = i + 1 := ⟨j - 1, by omega⟩
        obtain ⟨⟨z1, z2⟩, hyi⟩ : ∃ y, es[i]? = some y := ⟨_, List.getElem?_eq_getElem (by have := HNP.out; omega)⟩
        have hlt2 := pw_lt HPW.out hyi HY.out (by omega)
        unfold pltP at hlt2
        simp only at hlt2
        obtain ⟨d0, d1⟩ := HPS.out w8 HB78.out i _ hyi
        obtain ⟨d2, d3⟩ := HPS.out w8 HB78.out (i + 1) _ HY.out
        simp only at d0 d1 d2 d3
        have hsub : (((i + 1 : Nat) : Int)) - 1 = (i : Int) := by omega
        have hw1 : IntKind.i64.wrap (i : Int) = (i : Int) := by rw [IntWalk.i64_in _ ⟨by omega, by omega⟩]
        have hw2 : IntKind.i64.wrap ((i : Int) + 1 - 1) = (i : Int) := by rw [IntWalk.i64_in _ ⟨by omega, by omega⟩]; omega
        have hw3 : IntKind.i64.wrap (((i + 1 : Nat) : Int) - 1) = (i : Int) := by rw [IntWalk.i64_in _ ⟨by omega, by omega⟩]; omega
        have hi0 : (0 : Int) ≤ (i : Int) := by omega
        have hin : (i : Int) < (np : Int) := by omega
        have hi1 : (0 : Int) ≤ (i : Int) + 1 := by omega
        have hi2 : (i : Int) + 1 < (np : Int) := by omega
        have hgt : decide ((i : Int) + 1 > 0) = true := by rw [decide_eq_true]; omega
        have hgt2 : (0 : Int) < (i : Int) + 1 := by omega
        clear hyi
        rcases hlt2 with h1 | ⟨rfl, h2⟩
        · have q1 : decide (z1 > (zb : Int)) = false := decide_eq_false (by omega)
          have q2 : (z1 == (zb : Int)) = false := by simp; omega
          have q3 : ¬ (zb : Int) < z1 := by omega
          have q4 : ¬ z1 = (zb : Int) := by omega
          clear h1
          go_quiet (fail)
          go_wp2
          go_roundw
          case rel => exact ⟨i + 1 + 1, by have := HLJ.out; omega, by go_num, by first | exact below_drewN HB78.out _ | exact HB78.out⟩
          case measure => have := HLJ.out; simp [intOf]; omega
        · have q1 : decide (z2 ≥ (zi : Int)) = false := decide_eq_false (by omega)
          have q3 : ¬ (zi : Int) ≤ z2 := by omega
          clear h2
          go_quiet (fail)
          go_wp2
          go_roundw
          case rel => exact ⟨i + 1 + 1, by have := HLJ.out; omega, by go_num, by first | exact below_drewN HB78.out _ | exact HB78.out⟩
          case measure => have := HLJ.out; simp [intOf]; omega
end Go.Proofs.Ytnoknodijombpaa
