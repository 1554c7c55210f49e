/- The statement FlowReach, walked: it answers true. Condition: no slice of the program is longer than any machine's memory. -/
import Derived.Test.YtpggjolbohffjaaZM
set_option linter.unusedSimpArgs false
set_option linter.unusedVariables false
namespace Go.Proofs.Ytpggjolbohffjaa
open Go.RowKit

/-- All blocks but g are as they were. -/
structure But (g : Nat) (w w' : World) : Prop where
  os : w'.os = w.os
  tape : w'.tape = w.tape
  output : w'.output = w.output
  size : w.heap.size ≤ w'.heap.size
  block : ∀ k, k < w.heap.size → k ≠ g → w'.heap[k]? = w.heap[k]?
theorem But.refl (g : Nat) (w : World) : But g w w := ⟨rfl, rfl, rfl, Nat.le_refl _, fun _ _ _ => rfl⟩
theorem But.set {g : Nat} {w w1 : World} (h : But g w w1) {j : Nat} {v : Value} : But g w (w1.setCell ⟨g, j, none⟩ v) :=
  ⟨h.os, h.tape, h.output, by rw [World.size_setCell]; exact h.size, fun k hk hg => (heap_setCell_other w1 ⟨g, j, none⟩ k v hg).trans (h.block k hk hg)⟩
theorem But.below {g B : Nat} {w0 w w1 : World} (h : But g w w1) (hb : Below B w0 w) (hg : B ≤ g) (hB : B ≤ w.heap.size) : Below B w0 w1 := hb.trans ⟨h.os, h.tape, h.output, h.size, fun k hk => h.block k (by omega) (by omega)⟩
theorem But.box {g k : Nat} {w w1 : World} {cs : Array Value} {T : TypeId} (h : But g w w1) (b : Box w k cs T) (hk : k ≠ g) : Box w1 k cs T := (h.block k b.lt hk).trans b
theorem But.sl {g B : Nat} {w w1 : World} {A : Option Addr} {zs : List Int} (h : But g w w1) (hs : Sl w B .i64 A zs) (hB : B ≤ w.heap.size) (hA : ∀ b o, A = some ⟨b, o, none⟩ → b ≠ g) : Sl w1 B .i64 A zs := fun hp => by
  obtain ⟨b, o, e, hb, hc⟩ := hs hp
  exact ⟨b, o, e, hb, fun j hj => (World.cell?_of_block (a := ⟨b, o + j, none⟩) (h.block b (by omega) (hA b o e))).trans (hc j hj)⟩
def MarkW (w : World) (bm n : Nat) (xs : List Int) : Prop := Box w bm ((markOf n xs).map Value.bool).toArray 4
theorem MarkW.cell {w : World} {bm n b : Nat} {xs : List Int} (h : MarkW w bm n xs) (hb : b < n) : w.cell? ⟨bm, b, none⟩ = some (.bool (decide ((b : Int) ∈ xs))) ∧ w.frozen? ⟨bm, b, none⟩ = false :=
  Box.cell h b (by simp [markOf_get xs hb])
theorem MarkW.add {w : World} {bm n : Nat} {xs : List Int} {y : Nat} (h : MarkW w bm n xs) (hy : y < n) : MarkW (w.setCell ⟨bm, y, none⟩ (.bool true)) bm n (xs ++ [(y : Int)]) := by
  have := Box.set h y (.bool true)
  unfold MarkW
  rw [markOf_add (by omega) (by omega)]
  simpa [List.map_set] using this
theorem pred_none {pn sl : List Int} {j : Nat} {y : Int} {z : Prop} (h : false = true ↔ (z ∨ ∃ a ∈ pn.take j, a ∈ sl)) (hy : pn[j]? = some y) (hn : y ∉ sl) : (false = true ↔ (z ∨ ∃ a ∈ pn.take (j + 1), a ∈ sl)) := by
  have hno : ¬ (z ∨ ∃ a ∈ pn.take j, a ∈ sl) := fun hx => by have := h.2 hx; cases this
  simp only [Bool.false_eq_true, false_iff]
  rintro (hz | ⟨a, ha, hs⟩)
  · exact hno (.inl hz)
  · rw [take_snocI hy, List.mem_append] at ha
    rcases ha with ha | ha
    · exact hno (.inr ⟨a, ha, hs⟩)
    · simp at ha; subst ha; exact hn hs
theorem pred_hit {pn sl : List Int} {j : Nat} {y : Int} {z : Prop} (hy : pn[j]? = some y) (hn : y ∈ sl) : (true = true ↔ (z ∨ ∃ a ∈ pn.take (j + 1), a ∈ sl)) := by
  simp only [true_iff]
  exact .inr ⟨y, by rw [take_snocI hy]; simp, hn⟩
theorem pred_yes {pn sl : List Int} {j : Nat} {z : Prop} (h : true = true ↔ (z ∨ ∃ a ∈ pn.take j, a ∈ sl)) : (true = true ↔ (z ∨ ∃ a ∈ pn.take (j + 1), a ∈ sl)) := by
  simp only [true_iff]
  rcases h.1 rfl with h | ⟨a, ha, hs⟩
  · exact .inl h
  · refine .inr ⟨a, ?_, hs⟩
    rw [List.take_add_one]
    exact List.mem_append_left _ ha
theorem prevN_nat {f : FunV} {z v : Int} (h : v ∈ prevN f z) : ∃ a : Nat, v = a ∧ a < f.blocks.length := by
  unfold prevN at h
  simp only [List.mem_map, List.mem_filter, beq_iff_eq] at h
  obtain ⟨⟨x, y⟩, ⟨h1, rfl⟩, rfl⟩ := h
  unfold edgesN edgesTo at h1
  simp only [List.mem_flatMap, List.mem_map, List.mem_range, Prod.mk.injEq] at h1
  obtain ⟨i, hi, u, hu, h1, rfl⟩ := h1
  exact ⟨i, h1.symm, hi⟩
theorem ReachOk.prev {f : FunV} {l : List Int} (h : ReachOk f l) {z : Int} (hz : z ∈ l) : z = 0 ∨ ∃ a ∈ prevN f z, a ∈ l := by
  rcases h.prd z hz with h0 | ⟨a, ha, hv⟩
  · exact .inl h0
  · obtain ⟨h1, h2⟩ := h.rng a ha
    obtain ⟨n, rfl⟩ : ∃ n : Nat, a = n := ⟨a.toNat, by omega⟩
    exact .inr ⟨n, (mem_prevN (by omega)).2 hv, ha⟩
theorem prevN_len80 {f : FunV} (hok : FlowOk f) (z : Int) : (prevN f z).length ≤ 80 := by
  have hel := edgesN_len hok
  have : (prevN f z).length ≤ (edgesN f).length := by unfold prevN; rw [List.length_map]; exact List.length_filter_le _ _
  omega
def InL (w7 : World) (bm n : Nat) (sl : List Int) (k : Nat) (wr : World) : Prop := MarkW wr bm n (sl.take k) ∧ But bm w7 wr
set_option maxHeartbeats 4000000 in
set_option maxRecDepth 100000 in
theorem reach_law (vp : Value) (p : List FunV) (w : World) (hp : FunsV w (· < w.heap.size) vp p) (hsz : progSize p) :
    Calls Try.prog 7 #[.agg #[vp]] w fun e w' => e = .returned (.bool true) ∧ Below w.heap.size w w' := by
  have HKP := hide (fun (W : World) (hW : Below w.heap.size w W) => hp.keep (up hW (Nat.le_refl _)) (fun _ h => h))
  have HOUT := hide (fun (W : World) (hW : Below w.heap.size w W) => out5_any vp p W w.heap.size hW.size (hp.keep (up hW (Nat.le_refl _)) (fun _ h => h)) hsz)
  have HALLOK := hide (fun h => @flowOk_of p h)
  obtain ⟨A, c, rfl, hpc, hpm⟩ := hp.open'
  obtain ⟨lp, hlp⟩ : ∃ lp, p.length = lp := ⟨_, rfl⟩
  have HLP := hide hlp
  rw [hlp] at HKP HOUT hpc ⊢
  clear hp hsz hlp
  go_enter Try.func7, Try.ntmps7
  go_upto_region 1 with (fail)
  obtain ⟨w0, hw0⟩ : ∃ w0, w0 = w.alloc (.cells #[.slice A lp c] 24) := ⟨_, rfl⟩
  have HX0 := hide (show Box w0 w.heap.size #[.slice A lp c] 24 by rw [hw0]; exact Box.new w _ _)
  have HB0 := hide (show Below w.heap.size w w0 by rw [hw0]; exact alloc1 w _)
  rw [← hw0]
  clear hw0
  go_upto_region 3 with (go_at_call 8; refine (alive5_any w0).mono ?_; rintro e w1 ⟨rfl, hb1⟩; have HX1 := hide (HX0.out.below hb1); have HC1 := hide (HB0.out.trans (hb1.mono HB0.out.size)); clear hb1)
  have x1 := (HX1.out.cell 0 (v := .slice A lp c) rfl).1
  have l1 := HX1.out.lt
  go_upto_region 5 with (go_at_call 9; refine (HOUT.out w1 HC1.out).mono ?_; rintro e w2 ⟨b1, rfl, hs2, hb2⟩; have HB2 := hide (HC1.out.trans (hb2.mono HC1.out.size)); have HX2 := hide (HX1.out.below hb2); have HS2 := hide hs2; clear x1 hb2 hs2)
  all_goals try (go_ret; exact ⟨rfl, HB2.out⟩)
  have hb1f : b1 = false := by assumption
  subst hb1f
  have HOKS := hide (HALLOK.out (HS2.out.out rfl))
  clear HOUT HALLOK HS2 HC1 HX1 l1
  go_wp2
  go_loopw [3] (fun i wr => ∃ k : Nat, k ≤ lp ∧ i = .int .i64 k ∧ Below w2.heap.size w2 wr) (fun i _ => lp - (intOf i).toNat)
  case atStart => exact ⟨0, Nat.zero_le _, rfl, Below.refl _ _⟩
  case round =>
    obtain ⟨k, hk, rfl, hb'⟩ := hrel
    obtain ⟨wo, rfl⟩ : ∃ wo, wo = wr := ⟨_, rfl⟩
    have hszo := hb'.size
    have HBEL := hide (HB2.out.trans (hb'.mono HB2.out.size))
    have HXO := hide (HX2.out.below hb')
    have HBW := hide hb'
    have xp := (HXO.out.cell 0 (v := .slice A lp c) rfl).1
    have lxp := HXO.out.lt
    clear hb'
    by_cases hlt : k < lp
    case neg =>
      go_wp2
      go_ret
      exact ⟨rfl, HBEL.out⟩
    obtain ⟨f, hf⟩ : ∃ f, p[k]? = some f := ⟨_, List.getElem?_eq_getElem (by have := HLP.out; omega)⟩
    obtain ⟨b, o, Ak, ck, Ab, cb, As, cs, hA, hbb, ⟨e0, e1, e2, e3, e4⟩, hi⟩ := (HKP.out wo HBEL.out).get hf
    subst hA
    have hbs : b < wo.heap.size := by have := HBEL.out.size; omega
    obtain ⟨hok, hls1⟩ := HOKS.out f (List.mem_of_getElem? hf)
    have kI := fun (W : World) (hW : Below wo.heap.size wo W) => hi.keep (w := wo) (S := (· < w.heap.size)) (up hW HBEL.out.size) (fun _ h => h)
    have HRX := hide (fun (W : World) (hW : Below wo.heap.size wo W) => freach_any _ _ _ f W w.heap.size (by have := hW.size; have := HBEL.out.size; omega) (kI W hW) hok hls1)
    have HNX := hide (fun (W : World) (hW : Below wo.heap.size wo W) (z : Nat) (hz : z < f.blocks.length) => (show Calls Try.prog 11 #[.agg #[.slice Ak f.kinds.length ck, .slice Ab f.base.length cb, .int .i64 f.params, .int .i64 f.result, .slice As f.blocks.length cs], .int .i64 (z : Int)] W fun e w' => ∃ A c', e = .returned (.slice A (nxt f z).length c') ∧ Sl w' w'.heap.size .i64 A (nxt f z) ∧ (nxt f z).length ≤ c' ∧ c' ≤ 2 ∧ (∀ b o, A = some ⟨b, o, none⟩ → W.heap.size ≤ b) ∧ Below W.heap.size W w' by
      have h := fnextN_any _ _ _ f (z : Int) W w.heap.size (by have := hW.size; have := HBEL.out.size; omega) (kI W hW) hok
      rw [nxtI_nat hz] at h
      exact h))
    have HPX := hide (fun (W : World) (hW : Below wo.heap.size wo W) (z : Nat) => fprev_any _ _ _ f (z : Int) W w.heap.size (by have := hW.size; have := HBEL.out.size; omega) (kI W hW) hok)
    have HRO := hide (fun l h => sort_reach (@order_reach f l hok hls1 h))
    have HOK := hide hok
    have hls40 := hok.1
    have HFR := hide (fun l h => @order_len f l hok hls1 h)
    have hmake : ∀ W : World, (Instr.makeSlice 41 (.int .i64 (f.blocks.length : Int)) (.int .i64 (f.blocks.length : Int))).run Try.prog W = .ok (.slice (some ⟨W.heap.size, 0, none⟩) f.blocks.length f.blocks.length) (W.alloc (.cells (madeCells (Value.bool false).cells (f.blocks.length * 1)) 4)) := fun W => mk_run 41 4 Try.underlying41 info_bool (by omega) f.blocks.length (by omega) W
    obtain ⟨mc, hmc⟩ : ∃ mc, madeCells (Value.bool false).cells (f.blocks.length * 1) = mc := ⟨_, rfl⟩
    rw [hmc] at hmake
    have HMC := hide (show mc = ((markOf f.blocks.length []).map Value.bool).toArray by rw [markOf_nil, ← hmc]; exact madeCells_bool _)
    obtain ⟨ls, hls⟩ : ∃ ls, f.blocks.length = ls := ⟨_, rfl⟩
    have HLS := hide hls
    rw [hls] at hls1 hls40 hmake HMC e4 HNX HRX HPX
    generalize f.kinds.length = lk, f.base.length = lb, f.params = fp, f.result = fr at *
    have hki : (0 : Int) ≤ (k : Int) := by omega
    have hkl : (k : Int) < (lp : Int) := by omega
    clear hi hf kI hok hls hmc
    go_upto_region 9 with (fail)
    obtain ⟨w5, hw5⟩ : ∃ w5, w5 = wo.alloc (.cells #[.slice Ak lk ck, .slice Ab lb cb, .int .i64 fp, .int .i64 fr, .slice As ls cs] 30) := ⟨_, rfl⟩
    obtain ⟨h5, hh5⟩ : ∃ h5, wo.heap.size = h5 := ⟨_, rfl⟩
    have HX5 := hide (show Box w5 h5 #[.slice Ak lk ck, .slice Ab lb cb, .int .i64 fp, .int .i64 fr, .slice As ls cs] 30 by rw [hw5, ← hh5]; exact Box.new wo _ _)
    have HB5 := hide (show Below wo.heap.size wo w5 by rw [hw5]; exact alloc1 wo _)
    rw [← hw5, hh5]
    clear hw5 hh5 e0 e1 e2 e3 e4 hbs xp lxp
    have l5 := HX5.out.lt
    have c4 := (HX5.out.cell 4 (v := .slice As ls cs) rfl).1
    go_upto_region 10 with (fail)
    obtain ⟨w6, hw6⟩ : ∃ w6, w6 = w5.alloc (.cells mc 4) := ⟨_, rfl⟩
    obtain ⟨bm, hbm⟩ : ∃ bm, w5.heap.size = bm := ⟨_, rfl⟩
    have HM6 := hide (show MarkW w6 bm ls [] by unfold MarkW; rw [hw6, ← hbm, ← HMC.out]; exact Box.new w5 _ _)
    have HX6 := hide (show Box w6 h5 #[.slice Ak lk ck, .slice Ab lb cb, .int .i64 fp, .int .i64 fr, .slice As ls cs] 30 by rw [hw6]; exact HX5.out.alloc _)
    have HB6 := hide (show Below wo.heap.size wo w6 by rw [hw6]; exact HB5.out.alloc HB5.out.size _)
    have hs6 : w6.heap.size = bm + 1 := by rw [hw6, World.size_alloc, hbm]
    have hwbm : wo.heap.size ≤ bm := by rw [← hbm]; exact HB5.out.size
    have h5bm : h5 < bm := by omega
    rw [← hw6, hbm]
    clear hw6 hbm c4 l5 hmake HMC
    have l6 : h5 < w6.heap.size := by omega
    have c0 := (HX6.out.cell 0 (v := .slice Ak lk ck) rfl).1
    have c1 := (HX6.out.cell 1 (v := .slice Ab lb cb) rfl).1
    have c2 := (HX6.out.cell 2 (v := .int .i64 fp) rfl).1
    have c3 := (HX6.out.cell 3 (v := .int .i64 fr) rfl).1
    have c4 := (HX6.out.cell 4 (v := .slice As ls cs) rfl).1
    go_wp2_with (go_at_call 20; refine (HRX.out w6 HB6.out).mono ?_; rintro e w7 ⟨v7, l, rfl, hO, ho7, hb7⟩; have hz7 := hb7.size; have HRD := hide (HRO.out l hO); have HLL := hide (HFR.out l hO); have HX7 := hide (HX6.out.below hb7); have HM7 := hide (show MarkW w7 bm ls [] from Box.below HM6.out hb7); have HB7 := hide (HB6.out.trans (hb7.mono HB6.out.size)); have HO7 := hide ho7; clear hO ho7 hb7)
    obtain ⟨A7, k7, hv7, hle7, hme7, hs7⟩ := HO7.out.sl
    have hA7 : ∀ b o, A7 = some ⟨b, o, none⟩ → b ≠ bm := fun b o e => by
      have := (World.ownsRow.lt HO7.out b (by rw [hv7, e]; rfl)).1
      omega
    have HA7 := hide hA7
    have HS7 := hide hs7
    have HSLL := hide (show (sortL l).length ≤ 40 by rw [sortL_len]; exact HLL.out)
    obtain ⟨sl, hsl⟩ : ∃ sl, sortL l = sl := ⟨_, rfl⟩
    rw [hsl] at HRD hv7 hle7 HS7 HSLL
    obtain ⟨nL, hnL⟩ : ∃ n, sl.length = n := ⟨_, rfl⟩
    have HNL := hide hnL
    rw [hnL] at hv7 hle7 HSLL
    have hnl40 := HSLL.out
    subst hv7
    clear hA7 hs7 hsl hnL c0 c1 c2 c3 c4 hme7
    go_loopw [7] (fun i wr => ∃ j : Nat, j ≤ nL ∧ i = .int .i64 j ∧ Hid (InL w7 bm ls sl j wr)) (fun i _ => nL - (intOf i).toNat)
    case atStart => exact ⟨0, Nat.zero_le _, rfl, hide ⟨by rw [List.take_zero]; exact HM7.out, But.refl _ _⟩⟩
    case round =>
      obtain ⟨j, hj, rfl, hin⟩ := hrel
      obtain ⟨hmk, hbut⟩ := hin.out
      by_cases hlj : j < nL
      · obtain ⟨y, hy⟩ : ∃ y, sl[j]? = some y := ⟨_, List.getElem?_eq_getElem (by have := HNL.out; omega)⟩
        obtain ⟨hy0, hyn⟩ := HRD.out.rng y (List.mem_of_getElem? hy)
        rw [HLS.out] at hyn
        obtain ⟨yn, hyn'⟩ : ∃ n : Nat, y = n := ⟨y.toNat, by omega⟩
        subst hyn'
        have hynl : yn < ls := by omega
        obtain ⟨b7, o7, rfl, hb7, hc7⟩ := (hbut.sl HS7.out (Nat.le_refl _) HA7.out) (by have := HNL.out; omega)
        have cj := hc7 j (by have := HNL.out; omega)
        rw [List.getD_eq_getElem?_getD, hy] at cj
        simp only [Option.getD_some] at cj
        have hb7s : b7 < wr.heap.size := by have := hbut.size; omega
        have hbms : bm < wr.heap.size := by have := hbut.size; omega
        obtain ⟨mc1, mf1⟩ := hmk.cell hynl
        rw [decide_eq_false (nodup_take HRD.out.nod hy)] at mc1
        have HST := hide (show InL w7 bm ls sl (j + 1) (wr.setCell ⟨bm, yn, none⟩ (.bool true)) from ⟨by rw [take_snocI hy]; exact hmk.add hynl, hbut.set⟩)
        have q1 : ¬ (yn : Int) < 0 := by omega
        have q2 : ¬ ls ≤ yn := by omega
        have q3 : (0 : Int) ≤ (yn : Int) := by omega
        have q4 : (yn : Int) < (ls : Int) := by omega
        clear hc7 hy hmk hbut hin hy0 hyn
        go_wp2
        go_roundw
        case rel => exact ⟨j + 1, by omega, by go_num, HST⟩
        case measure => simp [intOf]; omega
      obtain ⟨wA, rfl⟩ : ∃ wA, wA = wr := ⟨_, rfl⟩
      have HMA := hide (show MarkW wA bm ls sl by have h := hmk; rwa [List.take_of_length_le (by have := HNL.out; omega)] at h)
      have hsA := hbut.size
      have HXA := hide (hbut.box HX7.out (by omega))
      have HBA := hide (hbut.below HB7.out hwbm (by omega))
      clear hmk hbut hin
      go_wp2
      go_loopw [8] (fun i wr => ∃ z : Nat, z ≤ ls ∧ i = .int .i64 z ∧ Below wA.heap.size wA wr) (fun i _ => ls - (intOf i).toNat)
      case atStart => exact ⟨0, Nat.zero_le _, rfl, Below.refl _ _⟩
      case round =>
        obtain ⟨z, hz, rfl, hbz⟩ := hrel
        obtain ⟨wz, rfl⟩ : ∃ wz, wz = wr := ⟨_, rfl⟩
        have hszz := hbz.size
        have HBZ := hide (HBA.out.trans (hbz.mono HBA.out.size))
        have HXZ := hide (HXA.out.below hbz)
        have HMZ := hide (show MarkW wz bm ls sl from Box.below HMA.out hbz)
        have HBZA := hide hbz
        clear hbz
        by_cases hlz : z < ls
        case neg =>
          have m0 := (HMZ.out.cell (b := 0) (by omega)).1
          have hz0 : ((0 : Nat) : Int) ∈ sl := HRD.out.zer
          rw [decide_eq_true hz0] at m0
          have l0 : bm < wz.heap.size := by omega
          have HEND := hide (HBW.out.trans (HBZ.out.mono hszo))
          have q0 : 0 < ls := by omega
          clear hz0
          go_wp2
          go_roundw
          case rel => exact ⟨k + 1, by omega, by go_num, HEND.out⟩
          case measure => simp [intOf]; omega
        have lz5 := HXZ.out.lt
        have c0 := (HXZ.out.cell 0 (v := .slice Ak lk ck) rfl).1
        have c1 := (HXZ.out.cell 1 (v := .slice Ab lb cb) rfl).1
        have c2 := (HXZ.out.cell 2 (v := .int .i64 fp) rfl).1
        have c3 := (HXZ.out.cell 3 (v := .int .i64 fr) rfl).1
        have c4 := (HXZ.out.cell 4 (v := .slice As ls cs) rfl).1
        have HK5 := hide (fun (W : World) (hW : Below wz.heap.size wz W) => And.intro ((HXZ.out.below hW).cell 0 (v := .slice Ak lk ck) rfl).1 (And.intro ((HXZ.out.below hW).cell 1 (v := .slice Ab lb cb) rfl).1 (And.intro ((HXZ.out.below hW).cell 2 (v := .int .i64 fp) rfl).1 (And.intro ((HXZ.out.below hW).cell 3 (v := .int .i64 fr) rfl).1 ((HXZ.out.below hW).cell 4 (v := .slice As ls cs) rfl).1))))
        have HUP := hide (fun (W : World) (hW : Below wz.heap.size wz W) => HBZ.out.trans (hW.mono HBZ.out.size))
        go_wp2_with fail
        go_region_held3 (fun w' => w'.cell? ⟨h5, 0, none⟩ = some (.slice Ak lk ck) ∧ w'.cell? ⟨h5, 1, none⟩ = some (.slice Ab lb cb) ∧ w'.cell? ⟨h5, 2, none⟩ = some (.int .i64 fp) ∧ w'.cell? ⟨h5, 3, none⟩ = some (.int .i64 fr) ∧ w'.cell? ⟨h5, 4, none⟩ = some (.slice As ls cs)) (first | go_keep | (exact q9) | (exact q8))
          (first
            | (go_at_call 13; refine (HPX.out w8 (HUP.out w8 HC8.out) z).mono ?_; rintro e w9 ⟨v9, rfl, ho9, hb9⟩; obtain ⟨A9, k9, hv9, hle9, hme9, hs9⟩ := ho9.sl; have hc9 := HC8.out.trans (hb9.mono HC8.out.size); have q9 := HK5.out w9 hc9; have HS9 := hide hs9; have HS8' := hide ((HS8.out.below hb9).more hb9.size); have HC9 := hide hc9; subst hv9; clear hb9 hc9 ho9 hs9)
            | (go_at_call 11; refine (HNX.out _ (HUP.out _ (below_drewN (Below.refl _ _) 1)) z hlz).mono ?_; rintro e w8 ⟨A8, k8, rfl, hs8, hl8, hm8, -, hb8⟩; have hc8 : Below wz.heap.size wz w8 := ⟨hb8.os, hb8.tape, hb8.output, hb8.size, hb8.block⟩; have q8 := HK5.out w8 hc8; have HS8 := hide hs8; have HC8 := hide hc8; clear hb8 hc8 hs8))
        all_goals
          have HM9 := hide (show MarkW w9 bm ls sl from Box.below HMZ.out HC9.out)
          have HEND := hide (HBZA.out.trans (HC9.out.mono hszz))
          have hl6 := nxt_len f z
          have hl7 := prevN_len80 HOK.out (z : Int)
          have HPV := hide (fun v (hv : v ∈ prevN f (z : Int)) => prevN_nat hv)
          obtain ⟨nx, hnx⟩ : ∃ nx, nxt f z = nx := ⟨_, rfl⟩
          have HNX6 := hide hnx
          obtain ⟨pn, hpn⟩ : ∃ pn, prevN f (z : Int) = pn := ⟨_, rfl⟩
          have HPN := hide hpn
          rw [hnx] at HS8' hl8 hl6 ⊢
          rw [hpn] at HS9 hle9 hl7 HPV ⊢
          obtain ⟨n6, hn6⟩ : ∃ n, nx.length = n := ⟨_, rfl⟩
          have HN6 := hide hn6
          obtain ⟨n7, hn7⟩ : ∃ n, pn.length = n := ⟨_, rfl⟩
          have HN7 := hide hn7
          rw [hn6] at hl8 hl6 ⊢
          rw [hn7] at hle9 hl7 ⊢
          have lbm9 : bm < w9.heap.size := by have := HC9.out.size; omega
          clear hnx hpn hn6 hn7 q8 q9 c0 c1 c2 c3 c4
          by_cases hzin : (z : Int) ∈ sl
          · have HFIN := hide (HRD.out.prev hzin)
            rw [HPN.out] at HFIN
            have HFW := hide (HRD.out.fwd _ hzin)
            have m0 := (HM9.out.cell hlz).1
            rw [decide_eq_true hzin] at m0
            clear hzin
            go_wp2
            go_loop [11] (fun i => ∃ j : Nat, j ≤ n6 ∧ i = .int .i64 j) (fun i => n6 - (intOf i).toNat)
            case atStart => exact ⟨0, Nat.zero_le _, rfl⟩
            case round =>
              obtain ⟨j, hj, rfl⟩ := hrel
              by_cases hlj : j < n6
              · obtain ⟨y, hy⟩ : ∃ y, nx[j]? = some y := ⟨_, List.getElem?_eq_getElem (by have := HN6.out; omega)⟩
                obtain ⟨b8, o8, rfl, hb8, hc8⟩ := HS8'.out (by have := HN6.out; omega)
                have cj := hc8 j (by have := HN6.out; omega)
                rw [List.getD_eq_getElem?_getD, hy] at cj
                simp only [Option.getD_some] at cj
                have HY := hide hy
                have hys : y ∈ sl := HFW.out y (by rw [Int.toNat_natCast, HNX6.out]; exact List.mem_of_getElem? hy)
                obtain ⟨h0, h1⟩ := HRD.out.rng y hys
                rw [HLS.out] at h1
                obtain ⟨yn, rfl⟩ : ∃ n : Nat, y = n := ⟨y.toNat, by omega⟩
                have hynl : yn < ls := by omega
                have mc := (HM9.out.cell hynl).1
                have q3 : (0 : Int) ≤ (yn : Int) := by omega
                have q4 : (yn : Int) < (ls : Int) := by omega
                rw [decide_eq_true hys] at mc
                clear hc8 hy hys h0 h1
                go_wp2
                go_round
                case rel => exact ⟨j + 1, by omega, by go_num⟩
                case measure => simp [intOf]; omega
              go_wp2
              go_loop [12, 13] (fun x i => ∃ (xb : Bool) (j : Nat), x = .bool xb ∧ j ≤ n7 ∧ i = .int .i64 j ∧ Hid (xb = true ↔ ((z : Int) = 0 ∨ ∃ a ∈ pn.take j, a ∈ sl))) (fun _ i => n7 - (intOf i).toNat)
              case atStart => exact ⟨_, 0, rfl, Nat.zero_le _, rfl, hide (by simp)⟩
              case round =>
                obtain ⟨xb, j, rfl, hj, rfl, hx⟩ := hrel
                by_cases hlj : j < n7
                · cases xb with
                  | true =>
                    have HT := hide (pred_yes hx.out)
                    clear hx
                    go_wp2
                    go_round
                    case rel => exact ⟨true, j + 1, rfl, by omega, by go_num, HT⟩
                    case measure => simp [intOf]; omega
                  | false =>
                    obtain ⟨y, hy⟩ : ∃ y, pn[j]? = some y := ⟨_, List.getElem?_eq_getElem (by have := HN7.out; omega)⟩
                    obtain ⟨b9, o9, rfl, hb9, hc9⟩ := HS9.out (by have := HN7.out; omega)
                    have cj := hc9 j (by have := HN7.out; omega)
                    rw [List.getD_eq_getElem?_getD, hy] at cj
                    simp only [Option.getD_some] at cj
                    have HY := hide hy
                    obtain ⟨yn, rfl, hyb⟩ := HPV.out y (List.mem_of_getElem? hy)
                    have hynl : yn < ls := by have := HLS.out; omega
                    have mc := (HM9.out.cell hynl).1
                    have q3 : (0 : Int) ≤ (yn : Int) := by omega
                    have q4 : (yn : Int) < (ls : Int) := by omega
                    by_cases hys : (yn : Int) ∈ sl
                    · rw [decide_eq_true hys] at mc
                      have HT := hide (pred_hit (z := (z : Int) = 0) HY.out hys)
                      clear hc9 hy hx hys hyb
                      go_wp2
                      go_round
                      case rel => exact ⟨true, j + 1, rfl, by omega, by go_num, HT⟩
                      case measure => simp [intOf]; omega
                    · rw [decide_eq_false hys] at mc
                      have HT := hide (pred_none hx.out HY.out hys)
                      clear hc9 hy hx hys hyb
                      go_wp2
                      go_round
                      case rel => exact ⟨false, j + 1, rfl, by omega, by go_num, HT⟩
                      case measure => simp [intOf]; omega
                have hxt : xb = true := by
                  have h := hx.out
                  rw [List.take_of_length_le (by have := HN7.out; omega)] at h
                  exact h.2 HFIN.out
                subst hxt
                clear hx
                go_wp2
                go_roundw
                case rel => exact ⟨z + 1, by omega, by go_num, HEND.out⟩
                case measure => simp [intOf]; omega

          · have m0 := (HM9.out.cell hlz).1
            rw [decide_eq_false hzin] at m0
            clear hzin
            go_wp2
            go_loop [11] (fun i => i = .int .i64 0) (fun i => n6 - (intOf i).toNat)
            case atStart => rfl
            case round =>
              subst hrel
              by_cases hlj : 0 < n6
              all_goals
                go_wp2
                go_loop [12, 13] (fun x i => ∃ (xb : Bool) (j : Nat), x = .bool xb ∧ j ≤ n7 ∧ i = .int .i64 j ∧ Hid (xb = true ↔ ((z : Int) = 0 ∨ ∃ a ∈ pn.take j, a ∈ sl))) (fun _ i => n7 - (intOf i).toNat)
                case atStart => exact ⟨_, 0, rfl, Nat.zero_le _, rfl, hide (by simp)⟩
                case round =>
                  obtain ⟨xb, j, rfl, hj, rfl, hx⟩ := hrel
                  by_cases hlj : j < n7
                  · cases xb with
                    | true =>
                      have HT := hide (pred_yes hx.out)
                      clear hx
                      go_wp2
                      go_round
                      case rel => exact ⟨true, j + 1, rfl, by omega, by go_num, HT⟩
                      case measure => simp [intOf]; omega
                    | false =>
                      obtain ⟨y, hy⟩ : ∃ y, pn[j]? = some y := ⟨_, List.getElem?_eq_getElem (by have := HN7.out; omega)⟩
                      obtain ⟨b9, o9, rfl, hb9, hc9⟩ := HS9.out (by have := HN7.out; omega)
                      have cj := hc9 j (by have := HN7.out; omega)
                      rw [List.getD_eq_getElem?_getD, hy] at cj
                      simp only [Option.getD_some] at cj
                      have HY := hide hy
                      obtain ⟨yn, rfl, hyb⟩ := HPV.out y (List.mem_of_getElem? hy)
                      have hynl : yn < ls := by have := HLS.out; omega
                      have mc := (HM9.out.cell hynl).1
                      have q3 : (0 : Int) ≤ (yn : Int) := by omega
                      have q4 : (yn : Int) < (ls : Int) := by omega
                      by_cases hys : (yn : Int) ∈ sl
                      · rw [decide_eq_true hys] at mc
                        have HT := hide (pred_hit (z := (z : Int) = 0) HY.out hys)
                        clear hc9 hy hx hys hyb
                        go_wp2
                        go_round
                        case rel => exact ⟨true, j + 1, rfl, by omega, by go_num, HT⟩
                        case measure => simp [intOf]; omega
                      · rw [decide_eq_false hys] at mc
                        have HT := hide (pred_none hx.out HY.out hys)
                        clear hc9 hy hx hys hyb
                        go_wp2
                        go_round
                        case rel => exact ⟨false, j + 1, rfl, by omega, by go_num, HT⟩
                        case measure => simp [intOf]; omega
                  clear hx
                  go_wp2
                  go_roundw
                  case rel => exact ⟨z + 1, by omega, by go_num, HEND.out⟩
                  case measure => simp [intOf]; omega


end Go.Proofs.Ytpggjolbohffjaa
