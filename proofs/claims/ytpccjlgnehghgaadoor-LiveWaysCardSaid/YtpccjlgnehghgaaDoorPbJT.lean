/- The statement LiveSteps, walked: it answers true. Condition: the table of parts reads as listed; no slice of the program is longer than any machine's memory. -/
import Derived.Test.YtpccjlgnehghgaaDoorPbJS
set_option linter.unusedSimpArgs false
set_option linter.unusedVariables false
namespace Go.Proofs.YtpccjlgnehghgaaDoor
open Go.RowKit

theorem LvQ.step {f : FunV} (hok : FlowOk f) {n i : Nat} {l : List InsV} {x : InsV} (hl : f.blocks[n]? = some l) (hx : l[i]? = some x) {s0 s1 : List Nat} (h0 : LvQ f 0 (n : Int) (i : Int) s0) (h1 : LvQ f 1 (n : Int) (i : Int) s1) : s0 = insS x s1 := by
  have hi := (List.getElem?_eq_some_iff.1 hx).1
  have hc : codeOf f n = l := by unfold codeOf; rw [hl]; rfl
  have hh : hereB f (n : Int) (i : Int) = true := by unfold hereB; rw [sizeN_nat hl]; simp; omega
  unfold LvQ at h0 h1
  rw [if_pos hh] at h0 h1
  obtain ⟨t, ht, rfl⟩ := h0
  obtain ⟨u, hu, rfl⟩ := h1
  rw [ht.one hok hu]
  simp only [Int.toNat_natCast, hc, Nat.add_zero]
  have e : l.drop i = x :: l.drop (i + 1) := by
    rw [List.drop_eq_getElem_cons hi]
    rw [(List.getElem?_eq_some_iff.1 hx).2]
  rw [e]
  rfl
theorem insS_eq (x : InsV) (s : List Nat) : insS x s = joinL [if hasB4 x.op 68 = true then withoutL s [x.d] else s, ofL (usesL x)] := rfl
theorem one_lit11 (W : World) (z : Int) : Sl (W.alloc (.cells #[.int .i64 z] 3)) (W.alloc (.cells #[.int .i64 z] 3)).heap.size .i64 (some ⟨W.heap.size, 0, none⟩) [z] := Sl.lit' W 3 .i64 #[.int .i64 z] [z] rfl
set_option maxHeartbeats 4000000 in
set_option maxRecDepth 100000 in
theorem steps_law (vp : Value) (p : List FunV) (bz iz : Nat) (hbz : bz < 256) (hiz : iz < 256) (w : World) (hT : TabP w) (hp : FunsV w (· < w.heap.size) vp p) (hsz : progSize p) :
    Calls Tryd.prog 5 #[.agg #[vp], .int .u8 bz, .int .u8 iz] w fun e w' => e = .returned (.bool true) ∧ Below w.heap.size w w' := by
  have HKP := hide (fun (W : World) (hW : Below w.heap.size w W) => hp.keep (up hW (Nat.le_refl _)) (fun _ h => h))
  have HTT := hide (fun (W : World) (hW : Below w.heap.size w W) => hT.below hW hT.1)
  have HOUT := hide (fun (W : World) (hW : Below w.heap.size w W) => out11_any vp p W w.heap.size hW.size (hp.keep (up hW (Nat.le_refl _)) (fun _ h => h)) hsz)
  have HALLOK := hide (fun (h : progB4 p = true ∧ progFew p) => @lOk_of p h.1 h.2)
  obtain ⟨A, c, rfl, hpc, hpm⟩ := hp.open'
  obtain ⟨lp, hlp⟩ : ∃ lp, p.length = lp := ⟨_, rfl⟩
  have HLP := hide hlp
  rw [hlp] at HKP HOUT hpc ⊢
  clear hp hsz hlp hT
  go_enter Tryd.func5, Tryd.ntmps5
  go_upto_region 1 with (fail)
  obtain ⟨w0, hw0⟩ : ∃ w0, w0 = w.alloc (.cells #[.slice A lp c] 24) := ⟨_, rfl⟩
  have HX0 := hide (show Box w0 w.heap.size #[.slice A lp c] 24 by rw [hw0]; exact Box.new w _ _)
  have HB0 := hide (show Below w.heap.size w w0 by rw [hw0]; exact alloc1 w _)
  rw [← hw0]
  clear hw0
  go_upto_region 3 with (go_at_call 10; refine (alive11_any w0 (HTT.out w0 HB0.out)).mono ?_; rintro e w1 ⟨rfl, hb1⟩; have HX1 := hide (HX0.out.below hb1); have HC1 := hide (HB0.out.trans (hb1.mono HB0.out.size)); clear hb1)
  have x1 := (HX1.out.cell 0 (v := .slice A lp c) rfl).1
  have l1 := HX1.out.lt
  go_upto_region 5 with (go_at_call 11; refine (HOUT.out w1 HC1.out).mono ?_; rintro e w2 ⟨b1, rfl, hs2, hb2⟩; have HB2 := hide (HC1.out.trans (hb2.mono HC1.out.size)); have HX2 := hide (HX1.out.below hb2); have HS2 := hide hs2; clear x1 hb2 hs2)
  all_goals try (go_ret; exact ⟨rfl, HB2.out⟩)
  have hb1f : b1 = false := by assumption
  subst hb1f
  have HOKS := hide (HALLOK.out (HS2.out.out rfl))
  clear HOUT HALLOK HS2 HC1 HX1 l1
  go_wp2
  go_loopw [7] (fun i wr => ∃ k : Nat, k ≤ lp ∧ i = .int .i64 k ∧ Below w2.heap.size w2 wr) (fun i _ => lp - (intOf i).toNat)
  case atStart => exact ⟨0, Nat.zero_le _, rfl, Below.refl _ _⟩
  case round =>
    obtain ⟨k, hk, rfl, hb'⟩ := hrel
    obtain ⟨wo, rfl⟩ : ∃ wo, wo = wr := ⟨_, rfl⟩
    have hszo := hb'.size
    have HBEL := hide (HB2.out.trans (hb'.mono HB2.out.size))
    have HXO := hide (HX2.out.below hb')
    have HBW := hide hb'
    have xp := (HXO.out.cell 0 (v := .slice A lp c) rfl).1
    have lxp := HXO.out.lt
    clear hb'
    by_cases hlt : k < lp
    case neg =>
      go_wp2
      go_ret
      exact ⟨rfl, HBEL.out⟩
    have HKLT := hide hlt
    obtain ⟨f, hf⟩ : ∃ f, p[k]? = some f := ⟨_, List.getElem?_eq_getElem (by have := HLP.out; omega)⟩
    obtain ⟨b, o, Ak, ck, Ab, cb, As, cs, hA, hbb, ⟨e0, e1, e2, e3, e4⟩, hi⟩ := (HKP.out wo HBEL.out).get hf
    subst hA
    have hbs : b < wo.heap.size := by have := HBEL.out.size; omega
    have HLF := hide (HOKS.out f (List.mem_of_getElem? hf))
    have kI := fun (W : World) (hW : Below wo.heap.size wo W) => hi.keep (w := wo) (S := (· < w.heap.size)) (up hW HBEL.out.size) (fun _ h => h)
    have hsW : ∀ W : World, Below wo.heap.size wo W → w.heap.size ≤ W.heap.size := fun W hW => by have := hW.size; have := HBEL.out.size; omega
    have HTO := hide (fun (W : World) (hW : Below wo.heap.size wo W) => HTT.out W (HBEL.out.trans (hW.mono HBEL.out.size)))
    have hls40 := HLF.out.flow.1
    have hls1 := HLF.out.one
    obtain ⟨at9, hat⟩ : ∃ r, bz % f.blocks.length = r := ⟨_, rfl⟩
    have hatl : at9 < f.blocks.length := by rw [← hat]; exact Nat.mod_lt _ (by omega)
    obtain ⟨l, hl⟩ : ∃ l, f.blocks[at9]? = some l := ⟨_, List.getElem?_eq_getElem hatl⟩
    have hlm := List.mem_of_getElem? hl
    have hll1 : 1 ≤ l.length := by
      have := HLF.out.ne at9 hatl
      unfold codeOf at this
      rw [hl] at this
      exact List.length_pos_iff.2 this
    have hll40 : l.length ≤ 40 := HLF.out.flow.2.1 l hlm
    obtain ⟨i9, hi9⟩ : ∃ r, iz % l.length = r := ⟨_, rfl⟩
    have hi9l : i9 < l.length := by rw [← hi9]; exact Nat.mod_lt _ (by omega)
    obtain ⟨x, hx⟩ : ∃ x, l[i9]? = some x := ⟨_, List.getElem?_eq_getElem hi9l⟩
    have hxm := List.mem_of_getElem? hx
    have t1 : (bz : Int).tmod (f.blocks.length : Int) = (at9 : Int) := by rw [← hat]; exact (Int.ofNat_tmod bz f.blocks.length).symm
    have t3 : (bz : Int) % (f.blocks.length : Int) = (at9 : Int) := by rw [← hat]; exact (Int.natCast_emod bz f.blocks.length).symm
    have t5 : (iz : Int).tmod (l.length : Int) = (i9 : Int) := by rw [← hi9]; exact (Int.ofNat_tmod iz l.length).symm
    have t7 : (iz : Int) % (l.length : Int) = (i9 : Int) := by rw [← hi9]; exact (Int.natCast_emod iz l.length).symm
    have HSTEP := hide (fun (s0 s1 : List Nat) (h0 : LvQ f 0 (at9 : Int) (i9 : Int) s0) (h1 : LvQ f 1 (at9 : Int) (i9 : Int) s1) => h0.step HLF.out.flow hl hx h1)
    have HSOK := hide (fun (s1 : List Nat) (h1 : LvQ f 1 (at9 : Int) (i9 : Int) s1) => LvQ.ok HLF.out.flow h1)
    have HFEWX := hide (HLF.out.few l hlm x hxm)
    have HBL := hide (fun (W : World) (hW : Below wo.heap.size wo W) => (kI W hW).2.2.1)
    have HBH := hide (fun (W : World) (hW : Below wo.heap.size wo W) => behind_any _ _ _ f (at9 : Int) (i9 : Int) W w.heap.size (hsW W hW) (kI W hW) (HTO.out W hW) HLF.out.flow HLF.out.ne HLF.out.few)
    have HAH := hide (fun (W : World) (hW : Below wo.heap.size wo W) => ahead_any _ _ _ f (at9 : Int) (i9 : Int) W w.heap.size (hsW W hW) (kI W hW) (HTO.out W hW) HLF.out.flow HLF.out.ne HLF.out.few)
    obtain ⟨ls, hls2⟩ : ∃ ls, f.blocks.length = ls := ⟨_, rfl⟩
    have HLS := hide hls2
    rw [hls2] at HBH HAH HBL e4 hls40 hls1 hatl t1 t3
    obtain ⟨bb, ob, Al, cl, hAs, hbb, d0, hli⟩ := (HBL.out wo (Below.refl _ _)).get hl
    subst hAs
    obtain ⟨bq, oq, Ax, cx, hAl, hbq, g6, hxi⟩ := hli.get hx
    subst hAl
    have hbbo : bb < wo.heap.size := by have := HBEL.out.size; omega
    have hbqo : bq < wo.heap.size := by have := HBEL.out.size; omega
    obtain ⟨ll, hll⟩ : ∃ ll, l.length = ll := ⟨_, rfl⟩
    obtain ⟨lx, hlx⟩ : ∃ lx, x.args.length = lx := ⟨_, rfl⟩
    have HXI := hide (fun (W : World) (hW : Below wo.heap.size wo W) => hxi.keep (w := wo) (S := (· < w.heap.size)) (S' := (· < w.heap.size)) (up hW HBEL.out.size) (fun _ h => h))
    have HXI2 := hide hxi
    rw [hll] at d0 hll1 hll40 hi9l t5 t7
    rw [hlx] at g6 HXI HXI2
    have huR := hide (uses_R HXI2.out)
    have hul : (usesL x).length ≤ 1099511627776 := by have := usesL_len x; have := HFEWX.out; omega
    have HDC := hide (fun (W : World) (hW : Below wo.heap.size wo W) => (World.cell?_of_block (a := ⟨bb, ob + at9, none⟩) (hW.block bb hbbo)).trans d0)
    have HGC := hide (fun (W : World) (hW : Below wo.heap.size wo W) => (show (W.cell? ⟨bq, oq + i9 * 7, none⟩ = some (.int .i64 x.op) ∧ W.cell? ⟨bq, oq + i9 * 7 + 1, none⟩ = some (.int .i64 x.d) ∧ W.cell? ⟨bq, oq + i9 * 7 + 2, none⟩ = some (.int .i64 x.a) ∧ W.cell? ⟨bq, oq + i9 * 7 + 3, none⟩ = some (.int .i64 x.b) ∧ W.cell? ⟨bq, oq + i9 * 7 + 4, none⟩ = some (.int .i64 x.n) ∧ W.cell? ⟨bq, oq + i9 * 7 + 5, none⟩ = some (.int .i64 x.m) ∧ W.cell? ⟨bq, oq + i9 * 7 + 6, none⟩ = some (.slice Ax lx cx)) from
      ⟨(World.cell?_of_block (hW.block bq hbqo)).trans g6.1, (World.cell?_of_block (hW.block bq hbqo)).trans g6.2.1, (World.cell?_of_block (hW.block bq hbqo)).trans g6.2.2.1, (World.cell?_of_block (hW.block bq hbqo)).trans g6.2.2.2.1, (World.cell?_of_block (hW.block bq hbqo)).trans g6.2.2.2.2.1, (World.cell?_of_block (hW.block bq hbqo)).trans g6.2.2.2.2.2.1, (World.cell?_of_block (hW.block bq hbqo)).trans g6.2.2.2.2.2.2⟩))
    have HUS := hide (fun (W : World) (hW : Below wo.heap.size wo W) => uses4_any x (.slice Ax lx cx) W w.heap.size (hsW W hW) (HXI.out W hW) (by have := HFEWX.out; omega))
    have HSE4 := hide (fun (W : World) => sets4_any x Ax lx cx W)
    have HWT := hide (fun (s : List Nat) (hs : SetOk s) (V : World) (v : Value) (hv : SetV V v s) (A4 : Option Addr) (c4 n4 : Nat) (hn4 : (usesL x).length = n4) (h4 : Sl V V.heap.size .i64 A4 (usesL x)) => withV hv (by have := hs.1; omega) hs.2 A4 n4 c4 (usesL x) h4 hn4 (by omega) huR.out)
    have hxR := hide HXI2.out.2
    clear hi hf kI hsW hls2 hl hx hxm hlm hat hi9 d0 hli hll hlx hxi g6
    generalize f.kinds.length = lk, f.base.length = lb, f.params = fp, f.result = fr at *
    have hki : (0 : Int) ≤ (k : Int) := by omega
    have hkl : (k : Int) < (lp : Int) := by omega
    go_upto_region 9 with (fail)
    obtain ⟨w5, hw5⟩ : ∃ w5, w5 = wo.alloc (.cells #[.slice Ak lk ck, .slice Ab lb cb, .int .i64 fp, .int .i64 fr, .slice (some ⟨bb, ob, none⟩) ls cs] 30) := ⟨_, rfl⟩
    obtain ⟨h5, hh5⟩ : ∃ h5, wo.heap.size = h5 := ⟨_, rfl⟩
    have HX5 := hide (show Box w5 h5 #[.slice Ak lk ck, .slice Ab lb cb, .int .i64 fp, .int .i64 fr, .slice (some ⟨bb, ob, none⟩) ls cs] 30 by rw [hw5, ← hh5]; exact Box.new wo _ _)
    have HB5 := hide (show Below wo.heap.size wo w5 by rw [hw5]; exact alloc1 wo _)
    rw [← hw5, hh5]
    clear hw5 hh5 e0 e1 e2 e3 e4 hbs xp lxp
    have l5 := HX5.out.lt
    have hz5 := HB5.out.size
    have HK5 := hide (fun (W : World) (hW : Below w5.heap.size w5 W) => And.intro ((HX5.out.below hW).cell 0 (v := .slice Ak lk ck) rfl).1 (And.intro ((HX5.out.below hW).cell 1 (v := .slice Ab lb cb) rfl).1 (And.intro ((HX5.out.below hW).cell 2 (v := .int .i64 fp) rfl).1 (And.intro ((HX5.out.below hW).cell 3 (v := .int .i64 fr) rfl).1 ((HX5.out.below hW).cell 4 (v := .slice (some ⟨bb, ob, none⟩) ls cs) rfl).1))))
    have HUP := hide (fun (W : World) (hW : Below w5.heap.size w5 W) => HB5.out.trans (hW.mono HB5.out.size))
    obtain ⟨c0, c1, c2, c3, c4⟩ := HK5.out w5 (Below.refl _ _)
    have d5 := HDC.out w5 HB5.out
    obtain ⟨g0, g1, g2, g3, g4, g5, g6⟩ := HGC.out w5 HB5.out
    have hb0 : (0 : Int) ≤ (bz : Int) := by omega
    have hb1 : (bz : Int) ≤ 255 := by omega
    have hz0 : (0 : Int) ≤ (iz : Int) := by omega
    have hz1 : (iz : Int) ≤ 255 := by omega
    have hlsz : ((ls : Int) == 0) = false := by simp; omega
    have hl0 : (0 : Int) < (ls : Int) := by omega
    have hllz : ((ll : Int) == 0) = false := by simp; omega
    have hll0 : (0 : Int) < (ll : Int) := by omega
    have ha0 : (0 : Int) ≤ (at9 : Int) := by omega
    have ha1 : (at9 : Int) < (ls : Int) := by omega
    have hj0 : (0 : Int) ≤ (i9 : Int) := by omega
    have hj1 : (i9 : Int) < (ll : Int) := by omega
    go_upto_region 12 with (fail)
    obtain ⟨w6, hw6⟩ : ∃ w6, w6 = w5.alloc (.cells #[.int .i64 x.op, .int .i64 x.d, .int .i64 x.a, .int .i64 x.b, .int .i64 x.n, .int .i64 x.m, .slice Ax lx cx] 47) := ⟨_, rfl⟩
    obtain ⟨h6, hh6⟩ : ∃ h6, w5.heap.size = h6 := ⟨_, rfl⟩
    have HX6 := hide (show Box w6 h6 #[.int .i64 x.op, .int .i64 x.d, .int .i64 x.a, .int .i64 x.b, .int .i64 x.n, .int .i64 x.m, .slice Ax lx cx] 47 by rw [hw6, ← hh6]; exact Box.new w5 _ _)
    have HB6 := hide (show Below w5.heap.size w5 w6 by rw [hw6]; exact alloc1 w5 _)
    rw [← hw6, hh6]
    clear hw6 hh6 c0 c1 c2 c3 c4 d5 g0 g1 g2 g3 g4 g5 g6
    have l6 := HX6.out.lt
    have hz6 := HB6.out.size
    have HK6 := hide (fun (W : World) (hW : Below w6.heap.size w6 W) => And.intro (HK5.out W (HB6.out.trans (hW.mono HB6.out.size))) (show W.cell? ⟨h6, 0, none⟩ = some (.int .i64 x.op) ∧ W.cell? ⟨h6, 1, none⟩ = some (.int .i64 x.d) ∧ W.cell? ⟨h6, 2, none⟩ = some (.int .i64 x.a) ∧ W.cell? ⟨h6, 3, none⟩ = some (.int .i64 x.b) ∧ W.cell? ⟨h6, 4, none⟩ = some (.int .i64 x.n) ∧ W.cell? ⟨h6, 5, none⟩ = some (.int .i64 x.m) ∧ W.cell? ⟨h6, 6, none⟩ = some (.slice Ax lx cx) from ⟨((HX6.out.below hW).cell 0 (v := .int .i64 x.op) rfl).1, ((HX6.out.below hW).cell 1 (v := .int .i64 x.d) rfl).1, ((HX6.out.below hW).cell 2 (v := .int .i64 x.a) rfl).1, ((HX6.out.below hW).cell 3 (v := .int .i64 x.b) rfl).1, ((HX6.out.below hW).cell 4 (v := .int .i64 x.n) rfl).1, ((HX6.out.below hW).cell 5 (v := .int .i64 x.m) rfl).1, ((HX6.out.below hW).cell 6 (v := .slice Ax lx cx) rfl).1⟩))
    have HUP6 := hide (fun (W : World) (hW : Below w6.heap.size w6 W) => HUP.out W (HB6.out.trans (hW.mono HB6.out.size)))
    obtain ⟨⟨c0, c1, c2, c3, c4⟩, g0, g1, g2, g3, g4, g5, g6⟩ := HK6.out w6 (Below.refl _ _)
    go_upto_region 13 with (go_at_call 15; (with_reducible refine (HBH.out w6 (HUP6.out w6 (Below.refl _ _))).mono ?_); rintro e w7 ⟨r7, s7, rfl, hq7, hv7, hb7⟩; have HQ7 := hide hq7; have HV7 := hide hv7; have HC7 := hide hb7; have q7 := HK6.out w7 hb7; clear hq7 hv7 hb7 c0 c1 c2 c3 c4 g0 g1 g2 g3 g4 g5 g6)
    obtain ⟨⟨c0, c1, c2, c3, c4⟩, g0, g1, g2, g3, g4, g5, g6⟩ := q7
    have HOK7 := hide (HSOK.out s7 HQ7.out)
    have HST7 := hide (fun s0 h0 => HSTEP.out s0 s7 h0 HQ7.out)
    obtain ⟨A7, c7, hr7, -⟩ := HV7.out
    obtain ⟨n7, hn7⟩ : ∃ n7, s7.length = n7 := ⟨_, rfl⟩
    rw [hn7] at hr7
    subst hr7
    clear hn7
    by_cases hD : hasB4 x.op 68 = true
    case pos =>
      have HSQ := hide (fun (W : World) => (show Calls Tryd.prog 25 #[.agg #[.int .i64 x.op, .int .i64 x.d, .int .i64 x.a, .int .i64 x.b, .int .i64 x.n, .int .i64 x.m, .slice Ax lx cx]] W fun e w' => e = .returned (.tuple #[.int .i64 x.d, .bool true]) ∧ Below W.heap.size W w' by have t := HSE4.out W; simp only [hD] at t; exact t))
      have HEQ0 := hide (show insS x s7 = joinL [withoutL s7 [x.d], ofL (usesL x)] by rw [insS_eq, if_pos hD])
      have HWO := hide (fun (W : World) (hv : SetV W (.slice A7 n7 c7) s7) => withoutV (hv.below (alloc1 W (.cells #[.int .i64 x.d] 3))) (by have := HOK7.out.1; omega) HOK7.out.2 _ 1 1 [x.d] (one_lit11 W x.d) rfl (by omega) (by intro z hz; simp at hz; subst hz; exact hxR.out.2.1))
      clear hD
      go_upto_region 16 with (first
        | (go_at_call 29; refine (HWO.out w8 (HV7.out.below HW8.out)).mono ?_; rintro e w12 ⟨v12, rfl, hn12, hb12⟩; have HV12 := hide hn12.ws; have hw12 := (alloc1 w8 (.cells #[.int .i64 x.d] 3)).trans (hb12.mono (by rw [World.size_alloc]; omega)); have HC12 := hide (HC8.out.trans (hw12.mono HC8.out.size)); clear hn12 hb12 hw12)
        | (go_at_call 25; refine (HSQ.out w7).mono ?_; rintro e w8 ⟨rfl, hb8⟩; have hc8 := HC7.out.trans (hb8.mono HC7.out.size); obtain ⟨⟨y0, y1, y2, y3, y4⟩, z0, z1, z2, z3, z4, z5, z6⟩ := HK6.out w8 hc8; have HC8 := hide hc8; have HW8 := hide hb8; clear hb8 hc8))
      obtain ⟨s12, hs12⟩ : ∃ s, withoutL s7 [x.d] = s := ⟨_, rfl⟩
      have HOK12 := hide (show SetOk s12 by rw [← hs12]; exact ⟨Nat.le_trans (withoutL_len _ _) HOK7.out.1, withoutL_w64 HOK7.out.2 _⟩)
      rw [hs12] at HV12 HEQ0
      clear hs12 c0 c1 c2 c3 c4 g0 g1 g2 g3 g4 g5 g6 y0 y1 y2 y3 y4 z0 z1 z2 z3 z4 z5 z6
      have HEQ := hide (show insS x s7 = joinL [s12, ofL (usesL x)] from HEQ0.out)
      have HSM := hide (fun (W : World) (v u : Value) (h1 : SetV W v (joinL [s12, ofL (usesL x)])) (h2 : SetV W u (joinL [s12, ofL (usesL x)])) => (show Calls Tryd.prog 30 #[v, u] W fun e w' => e = .returned (.bool true) ∧ ∃ q, w' = W.drewN q by
        have hk : SetOk (joinL [s12, ofL (usesL x)]) := join_ok HOK12.out (ofL_ok _)
        have t := sameV h1 h2 (by have := hk.1; omega) (by have := hk.1; omega) (joinL_tidy' _) (joinL_tidy' _)
        rw [decide_eq_true rfl] at t
        exact t))
      obtain ⟨⟨c0, c1, c2, c3, c4⟩, g0, g1, g2, g3, g4, g5, g6⟩ := HK6.out w12 HC12.out
      go_region_held3 (fun w' => (w'.cell? ⟨h5, 0, none⟩ = some (.slice Ak lk ck) ∧ w'.cell? ⟨h5, 1, none⟩ = some (.slice Ab lb cb) ∧ w'.cell? ⟨h5, 2, none⟩ = some (.int .i64 fp) ∧ w'.cell? ⟨h5, 3, none⟩ = some (.int .i64 fr) ∧ w'.cell? ⟨h5, 4, none⟩ = some (.slice (some ⟨bb, ob, none⟩) ls cs)) ∧ w'.cell? ⟨h6, 0, none⟩ = some (.int .i64 x.op) ∧ w'.cell? ⟨h6, 1, none⟩ = some (.int .i64 x.d) ∧ w'.cell? ⟨h6, 2, none⟩ = some (.int .i64 x.a) ∧ w'.cell? ⟨h6, 3, none⟩ = some (.int .i64 x.b) ∧ w'.cell? ⟨h6, 4, none⟩ = some (.int .i64 x.n) ∧ w'.cell? ⟨h6, 5, none⟩ = some (.int .i64 x.m) ∧ w'.cell? ⟨h6, 6, none⟩ = some (.slice Ax lx cx)) (first | go_keep | (exact qf) | (exact qe) | (exact qd) | (exact qc))
        (first
          | (go_at_call 30; refine (HSM.out we ra re (HVa.out.below HWe.out) HVe.out).mono ?_; rintro e wf ⟨rfl, qq, hqq⟩; have hcf : Below w6.heap.size w6 wf := (by rw [hqq]; exact below_drewN HCe.out qq); have qf := HK6.out wf hcf; have HCf := hide hcf; clear hqq hcf)
          | (go_at_call 31; refine (HWT.out s12 HOK12.out wd _ (HV12.out.below HWd.out) Ad cd nd hnd.out HSd.out).mono ?_; rintro e we ⟨re, rfl, hne, hbe⟩; have HVe := hide hne.ws; have hce := HCd.out.trans (hbe.mono HCd.out.size); have qe := HK6.out we hce; have HWe := hide (HWad.out.trans (hbe.mono HWad.out.size)); have HCe := hide hce; clear hne hbe hce)
          | (go_at_call 28; refine (HUS.out wa (HUP6.out wa HCa.out)).mono ?_; rintro e wd ⟨vd, rfl, ho, hbd⟩; obtain ⟨Ad, cd, hvd, -, -, hsd⟩ := ho.sl; obtain ⟨nd, hnd⟩ : ∃ n, (usesL x).length = n := ⟨_, rfl⟩; rw [hnd] at hvd; subst hvd; have hnd := hide hnd; have HSd := hide hsd; have hcd := HCa.out.trans (hbd.mono HCa.out.size); have qd := HK6.out wd hcd; have HCd := hide hcd; have HWd := hide (HWa.out.trans (hbd.mono HWa.out.size)); have HWad := hide hbd; clear hbd hcd hsd ho)
          | (go_at_call 14; refine (HAH.out (w12.drewN 1) (below_drewN (HUP6.out w12 HC12.out) 1)).mono ?_; rintro e wa ⟨ra, sa, rfl, hqa, hva, hba⟩; have hea : sa = joinL [s12, ofL (usesL x)] := (HST7.out sa hqa).trans HEQ.out; rw [hea] at hva; have hwa : Below w12.heap.size w12 wa := ⟨hba.os, hba.tape, hba.output, hba.size, hba.block⟩; have hca := HC12.out.trans (hwa.mono HC12.out.size); have qc := HK6.out wa hca; have HCa := hide hca; have HWa := hide hwa; have HVa := hide hva; clear hqa hva hba hea hwa hca))
      go_wp2
      go_roundw
      case rel => exact ⟨k + 1, by have := HKLT.out; omega, by go_num, HBW.out.trans ((HUP6.out wf HCf.out).mono hszo)⟩
      case measure => have := HKLT.out; simp [intOf]; omega

    have hDf : hasB4 x.op 68 = false := by simpa using hD
    have HSQ := hide (fun (W : World) => (show Calls Tryd.prog 25 #[.agg #[.int .i64 x.op, .int .i64 x.d, .int .i64 x.a, .int .i64 x.b, .int .i64 x.n, .int .i64 x.m, .slice Ax lx cx]] W fun e w' => e = .returned (.tuple #[.int .i64 0, .bool false]) ∧ Below W.heap.size W w' by have t := HSE4.out W; simp only [hDf] at t; exact t))
    have HEQ0 := hide (show insS x s7 = joinL [s7, ofL (usesL x)] by rw [insS_eq, if_neg hD])
    clear hD hDf
    go_upto_region 16 with (go_at_call 25; refine (HSQ.out w7).mono ?_; rintro e w8 ⟨rfl, hb8⟩; have hc8 := HC7.out.trans (hb8.mono HC7.out.size); obtain ⟨⟨y0, y1, y2, y3, y4⟩, z0, z1, z2, z3, z4, z5, z6⟩ := HK6.out w8 hc8; have HC8 := hide hc8; have HW8 := hide hb8; clear hb8 hc8)
    obtain ⟨w12, rfl⟩ : ∃ w12, w12 = w8 := ⟨_, rfl⟩
    obtain ⟨s12, rfl⟩ : ∃ s12, s12 = s7 := ⟨_, rfl⟩
    have HV12 := hide (HV7.out.below HW8.out)
    have HC12 := hide HC8.out
    have HOK12 := hide HOK7.out
    clear c0 c1 c2 c3 c4 g0 g1 g2 g3 g4 g5 g6 y0 y1 y2 y3 y4 z0 z1 z2 z3 z4 z5 z6
    have HEQ := hide (show insS x s12 = joinL [s12, ofL (usesL x)] from HEQ0.out)
    have HSM := hide (fun (W : World) (v u : Value) (h1 : SetV W v (joinL [s12, ofL (usesL x)])) (h2 : SetV W u (joinL [s12, ofL (usesL x)])) => (show Calls Tryd.prog 30 #[v, u] W fun e w' => e = .returned (.bool true) ∧ ∃ q, w' = W.drewN q by
      have hk : SetOk (joinL [s12, ofL (usesL x)]) := join_ok HOK12.out (ofL_ok _)
      have t := sameV h1 h2 (by have := hk.1; omega) (by have := hk.1; omega) (joinL_tidy' _) (joinL_tidy' _)
      rw [decide_eq_true rfl] at t
      exact t))
    obtain ⟨⟨c0, c1, c2, c3, c4⟩, g0, g1, g2, g3, g4, g5, g6⟩ := HK6.out w12 HC12.out
    go_region_held3 (fun w' => (w'.cell? ⟨h5, 0, none⟩ = some (.slice Ak lk ck) ∧ w'.cell? ⟨h5, 1, none⟩ = some (.slice Ab lb cb) ∧ w'.cell? ⟨h5, 2, none⟩ = some (.int .i64 fp) ∧ w'.cell? ⟨h5, 3, none⟩ = some (.int .i64 fr) ∧ w'.cell? ⟨h5, 4, none⟩ = some (.slice (some ⟨bb, ob, none⟩) ls cs)) ∧ w'.cell? ⟨h6, 0, none⟩ = some (.int .i64 x.op) ∧ w'.cell? ⟨h6, 1, none⟩ = some (.int .i64 x.d) ∧ w'.cell? ⟨h6, 2, none⟩ = some (.int .i64 x.a) ∧ w'.cell? ⟨h6, 3, none⟩ = some (.int .i64 x.b) ∧ w'.cell? ⟨h6, 4, none⟩ = some (.int .i64 x.n) ∧ w'.cell? ⟨h6, 5, none⟩ = some (.int .i64 x.m) ∧ w'.cell? ⟨h6, 6, none⟩ = some (.slice Ax lx cx)) (first | go_keep | (exact qf) | (exact qe) | (exact qd) | (exact qc))
      (first
        | (go_at_call 30; refine (HSM.out we ra re (HVa.out.below HWe.out) HVe.out).mono ?_; rintro e wf ⟨rfl, qq, hqq⟩; have hcf : Below w6.heap.size w6 wf := (by rw [hqq]; exact below_drewN HCe.out qq); have qf := HK6.out wf hcf; have HCf := hide hcf; clear hqq hcf)
        | (go_at_call 31; refine (HWT.out s12 HOK12.out wd _ (HV12.out.below HWd.out) Ad cd nd hnd.out HSd.out).mono ?_; rintro e we ⟨re, rfl, hne, hbe⟩; have HVe := hide hne.ws; have hce := HCd.out.trans (hbe.mono HCd.out.size); have qe := HK6.out we hce; have HWe := hide (HWad.out.trans (hbe.mono HWad.out.size)); have HCe := hide hce; clear hne hbe hce)
        | (go_at_call 28; refine (HUS.out wa (HUP6.out wa HCa.out)).mono ?_; rintro e wd ⟨vd, rfl, ho, hbd⟩; obtain ⟨Ad, cd, hvd, -, -, hsd⟩ := ho.sl; obtain ⟨nd, hnd⟩ : ∃ n, (usesL x).length = n := ⟨_, rfl⟩; rw [hnd] at hvd; subst hvd; have hnd := hide hnd; have HSd := hide hsd; have hcd := HCa.out.trans (hbd.mono HCa.out.size); have qd := HK6.out wd hcd; have HCd := hide hcd; have HWd := hide (HWa.out.trans (hbd.mono HWa.out.size)); have HWad := hide hbd; clear hbd hcd hsd ho)
        | (go_at_call 14; refine (HAH.out (w12.drewN 1) (below_drewN (HUP6.out w12 HC12.out) 1)).mono ?_; rintro e wa ⟨ra, sa, rfl, hqa, hva, hba⟩; have hea : sa = joinL [s12, ofL (usesL x)] := (HST7.out sa hqa).trans HEQ.out; rw [hea] at hva; have hwa : Below w12.heap.size w12 wa := ⟨hba.os, hba.tape, hba.output, hba.size, hba.block⟩; have hca := HC12.out.trans (hwa.mono HC12.out.size); have qc := HK6.out wa hca; have HCa := hide hca; have HWa := hide hwa; have HVa := hide hva; clear hqa hva hba hea hwa hca))
    go_wp2
    go_roundw
    case rel => exact ⟨k + 1, by have := HKLT.out; omega, by go_num, HBW.out.trans ((HUP6.out wf HCf.out).mono hszo)⟩
    case measure => have := HKLT.out; simp [intOf]; omega
end Go.Proofs.YtpccjlgnehghgaaDoor
