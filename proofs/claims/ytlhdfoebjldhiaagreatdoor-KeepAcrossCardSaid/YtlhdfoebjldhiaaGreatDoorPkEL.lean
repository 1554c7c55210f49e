/- The statement KeepAcross, walked: it answers true. Conditions: the tables of parts and of rows read as listed; no slice of the program is longer than any machine's memory. -/
import Derived.Test.YtlhdfoebjldhiaaGreatDoorPkEK
import Derived.Test.YtlhdfoebjldhiaaGreatDoorPkKW
import Derived.BigQuiet
set_option linter.unusedSimpArgs false
set_option linter.unusedVariables false
namespace Go.Proofs.YtlhdfoebjldhiaaGreatDoor
open Go.RowKit

/-- A function of a program that may be run: as one of a program that may be, each instruction fits, each function answers a number or a reference. -/
structure AOk (p : List FunV) (f : FunV) : Prop where
  ok : LOk p f
  fit : ∀ l ∈ f.blocks, ∀ x ∈ l, fitB p f x = true
  res : ∀ g ∈ p, g.result = 0 ∨ g.result = 1
theorem aOk_of {p : List FunV} (h : progB4 p = true) (hf : progFew p) (hc : ChkR p 0) : ∀ f ∈ p, AOk p f := fun f hm => by
  have hmis : misB p = false := by
    unfold ChkR at hc
    rcases hc with ⟨-, h0⟩ | ⟨-, -, h0⟩ | ⟨-, -, -, h0⟩ | ⟨-, -, -, -, h0⟩ | ⟨-, h1, -⟩
    · omega
    · omega
    · omega
    · omega
    · exact h1
  refine ⟨lOk_of h hf f hm, fun l hl x hx => ?_, fun g hg => ?_⟩
  · unfold misB at hmis
    have h1 : p.all (allFit p) = true := by simpa using hmis
    have h2 := List.all_eq_true.1 h1 f hm
    unfold allFit at h2
    exact List.all_eq_true.1 (List.all_eq_true.1 h2 l hl) x hx
  · obtain ⟨-, -, -, hall⟩ := prog_parts h
    obtain ⟨-, -, hv, -⟩ := fun_parts (hall g hg)
    unfold valB at hv
    simpa using hv
/-- All that the statement asks of one instruction. -/
theorem acr_all {p : List FunV} {f : FunV} (h : AOk p f) {n i : Nat} {l : List InsV} {x : InsV} (hl : f.blocks[n]? = some l) (hx : l[i]? = some x) {t : List Nat} (ht : AcrQ f (n : Int) (i : Int) t) :
    SetOk t ∧ (hasB4 x.op 68 = true → hasB t x.d = false) ∧ (∀ s, LvQ f 1 (n : Int) (i : Int) s → ∀ v : Nat, hasB t (v : Int) = true → hasB (closeL f s) (v : Int) = true) ∧ (∀ s, LvQ f 0 (n : Int) (i : Int) s → ∀ v : Nat, hasB t (v : Int) = true → hasB (closeL f s) (v : Int) = true) := by
  have hi := (List.getElem?_eq_some_iff.1 hx).1
  have hlm := List.mem_of_getElem? hl
  have hxm := List.mem_of_getElem? hx
  have hc : codeOf f n = l := by unfold codeOf; rw [hl]; rfl
  have hh : hereB f (n : Int) (i : Int) = true := by unfold hereB; rw [sizeN_nat hl]; simp; omega
  unfold AcrQ at ht
  rw [if_pos hh] at ht
  obtain ⟨s1, y, h1, hy, ht⟩ := ht
  simp only [Int.toNat_natCast, hc] at hy
  rw [hx] at hy
  obtain rfl : x = y := Option.some.inj hy
  have hs1 := LvQ.ok h.ok.flow h1
  have hW : SetOk (closeL f s1) := closeL_ok f s1
  refine ⟨?_, ?_, fun s hs => ?_, fun s hs => ?_⟩
  · rw [ht]
    split
    · exact ⟨by have := withoutL_len (closeL f s1) [x.d]; have := hW.1; omega, withoutL_w64 hW.2 _⟩
    · exact hW
  · intro hd
    have hin := inVar_nn ((may_parts (h.ok.may l hlm x hxm)).2.2.1 hd)
    obtain ⟨d, hd2⟩ : ∃ d : Nat, x.d = (d : Int) := ⟨x.d.toNat, by omega⟩
    rw [ht, if_pos hd, hd2, hasB_without hW.2]
    simp
  · rw [LvQ.one h.ok.flow hs h1, ht]
    intro v hv
    split at hv
    · rw [hasB_without hW.2, Bool.and_eq_true] at hv
      exact hv.1
    · exact hv
  · exact (acr_math h.ok h.res (h.ok.may l hlm x hxm) (h.fit l hlm x hxm) hs1 (LvQ.step h.ok.flow hl hx hs h1) ht).2.1
theorem rholdsV {w : World} {v u : Value} {s t : List Nat} (hv : SetV w v s) (hu : SetV w u t) (hs : SetOk s) (ht : SetOk t) (h : ∀ x : Nat, hasB t (x : Int) = true → hasB s (x : Int) = true) :
    Calls Tryz.prog 10 #[v, u] w fun e w' => e = .returned (.bool true) ∧ Below w.heap.size w w' := by
  obtain ⟨A, c, rfl, h2, h3, h4⟩ := hv
  obtain ⟨T, d, rfl, k2, k3, k4⟩ := hu
  exact (rholds_any A T s.length c t.length d s t w h4 k4 rfl rfl (by have := hs.1; omega) (by have := ht.1; omega) hs.2 ht.2).mono fun e w' ⟨q1, q2⟩ => ⟨by rw [q1, decide_eq_true ((less_none hs ht).2 h)], q2⟩
set_option maxHeartbeats 4000000 in
set_option maxRecDepth 100000 in
theorem across12_law (vp : Value) (p : List FunV) (bz iz : Nat) (hbz : bz < 256) (hiz : iz < 256) (w : World) (hT : TabP w) (hR : RowP w) (hp : FunsV w (· < w.heap.size) vp p) (hsz : progSize p) :
    Calls Tryz.prog 3 #[.agg #[vp], .agg #[.int .u8 (bz : Int), .int .u8 (iz : Int)]] w fun e w' => e = .returned (.bool true) ∧ Below w.heap.size w w' := by
  have HKP := hide (fun (W : World) (hW : Below w.heap.size w W) => hp.keep (up hW (Nat.le_refl _)) (fun _ h => h))
  have HTT := hide (fun (W : World) (hW : Below w.heap.size w W) => hT.below hW hT.1)
  have HOUT := hide (fun (W : World) (hW : Below w.heap.size w W) => out12_any vp p W w.heap.size hW.size (hp.keep (up hW (Nat.le_refl _)) (fun _ h => h)) hsz)
  have HKC := hide (fun (W : World) (hW : Below w.heap.size w W) (hf : progFew p) => (kcheck_any p vp W w.heap.size hW.size (hp.keep (up hW (Nat.le_refl _)) (fun _ h => h)) (hT.below hW hT.1) (hR.below hW hR.1) hf).mono (R' := fun e w' => ∃ z : Int, e = .returned (.int .i64 z) ∧ Hid (z = 0 → ChkR p 0) ∧ Below W.heap.size W w') (fun e w' ⟨n, h1, h2, h3⟩ => ⟨(n : Int), h1, hide (fun hz => by
      have h0 : n = 0 := by omega
      rw [h0] at h2
      exact h2), h3⟩))
  have HALLOK := hide (fun (h : progB4 p = true ∧ progFew p) (hc : ChkR p 0) => @aOk_of p h.1 h.2 hc)
  obtain ⟨A, c, rfl, hpc, hpm⟩ := hp.open'
  obtain ⟨lp, hlp⟩ : ∃ lp, p.length = lp := ⟨_, rfl⟩
  have HLP := hide hlp
  rw [hlp] at HKP HOUT HKC hpc ⊢
  clear hp hsz hlp hT hR
  go_enter Tryz.func3, Tryz.ntmps3
  go_upto_region 1 with (fail)
  obtain ⟨w0, hw0⟩ : ∃ w0, w0 = (w.alloc (.cells #[.slice A lp c] 24)).alloc (.cells #[.int .u8 (bz : Int), .int .u8 (iz : Int)] 25) := ⟨_, rfl⟩
  obtain ⟨h2, hh2⟩ : ∃ h2, w.heap.size + 1 = h2 := ⟨_, rfl⟩
  have HX0 := hide (show Box w0 w.heap.size #[.slice A lp c] 24 by rw [hw0]; exact (Box.new w _ _).alloc _)
  have HY0 := hide (show Box w0 h2 #[.int .u8 (bz : Int), .int .u8 (iz : Int)] 25 by
    have h := Box.new (w.alloc (.cells #[.slice A lp c] 24)) #[.int .u8 (bz : Int), .int .u8 (iz : Int)] 25
    rw [World.size_alloc, hh2] at h
    rw [hw0]; exact h)
  have HB0 := hide (show Below w.heap.size w w0 by rw [hw0]; exact alloc2 w _ _)
  rw [← hw0, hh2]
  clear hw0 hh2
  go_upto_region 3 with (go_at_call 4; refine (alive12_any w0 (HTT.out w0 HB0.out)).mono ?_; rintro e w1 ⟨rfl, hb1⟩; have HX1 := hide (HX0.out.below hb1); have HY1 := hide (HY0.out.below hb1); have HC1 := hide (HB0.out.trans (hb1.mono HB0.out.size)); clear hb1)
  have x1 := (HX1.out.cell 0 (v := .slice A lp c) rfl).1
  have l1 := HX1.out.lt
  go_upto_region 5 with (first
    | (go_at_call 6; refine (HKC.out w2 HB2.out (HS2.out.out (by simp)).2).mono ?_; rintro e w3 ⟨z3, rfl, hz3, hb3⟩; have HB3 := hide (HB2.out.trans (hb3.mono HB2.out.size)); have HX3 := hide (HX2.out.below hb3); have HY3 := hide (HY2.out.below hb3); have HZ3 := hide hz3; clear hz3 hb3; rcases Classical.em (z3 = 0) with hz0 | hz0; all_goals (first | (subst hz0) | (have hz1 : (z3 == 0) = false := beq_eq_false_iff_ne.2 hz0)))
    | (go_at_call 5; refine (HOUT.out w1 HC1.out).mono ?_; rintro e w2 ⟨b1, rfl, hs2, hb2⟩; have HB2 := hide (HC1.out.trans (hb2.mono HC1.out.size)); have HX2 := hide (HX1.out.below hb2); have HY2 := hide (HY1.out.below hb2); have HS2 := hide hs2; have x2 := (HX2.out.cell 0 (v := .slice A lp c) rfl).1; have l2 := HX2.out.lt; clear hb2 hs2; cases b1))
  all_goals try (go_ret; first | exact ⟨rfl, HB3.out⟩ | exact ⟨rfl, HB2.out⟩)
  have HOKS := hide (HALLOK.out (HS2.out.out (by simp)) (HZ3.out.out (by simp)))
  clear HOUT HKC HALLOK HS2 HZ3 HC1 HX1 HY1 HX2 HY2 l1 l2 x1 x2
  go_wp2
  go_loopw [5] (fun i wr => ∃ k : Nat, k ≤ lp ∧ i = .int .i64 k ∧ Below w3.heap.size w3 wr) (fun i _ => lp - (intOf i).toNat)
  case atStart => exact ⟨0, Nat.zero_le _, rfl, Below.refl _ _⟩
  case round =>
    obtain ⟨k, hk, rfl, hb'⟩ := hrel
    obtain ⟨wo, rfl⟩ : ∃ wo, wo = wr := ⟨_, rfl⟩
    have hszo := hb'.size
    have HBEL := hide (HB3.out.trans (hb'.mono HB3.out.size))
    have HXO := hide (HX3.out.below hb')
    have HYO := hide (HY3.out.below hb')
    have HBW := hide hb'
    have xp := (HXO.out.cell 0 (v := .slice A lp c) rfl).1
    have lxp := HXO.out.lt
    clear hb'
    by_cases hlt : k < lp
    case neg =>
      go_wp2
      go_ret
      exact ⟨rfl, HBEL.out⟩
    have HKLT := hide hlt
    obtain ⟨f, hf⟩ : ∃ f, p[k]? = some f := ⟨_, List.getElem?_eq_getElem (by have := HLP.out; omega)⟩
    obtain ⟨b, o, Ak, ck, Ab, cb, As, cs, hA, hbb, ⟨e0, e1, e2, e3, e4⟩, hi⟩ := (HKP.out wo HBEL.out).get hf
    subst hA
    have hbs : b < wo.heap.size := by have := HBEL.out.size; omega
    have HLA := hide (HOKS.out f (List.mem_of_getElem? hf))
    have HLF := hide HLA.out.ok
    have kI := fun (W : World) (hW : Below wo.heap.size wo W) => hi.keep (w := wo) (S := (· < w.heap.size)) (up hW HBEL.out.size) (fun _ h => h)
    have hsW : ∀ W : World, Below wo.heap.size wo W → w.heap.size ≤ W.heap.size := fun W hW => by have := hW.size; have := HBEL.out.size; omega
    have HTO := hide (fun (W : World) (hW : Below wo.heap.size wo W) => HTT.out W (HBEL.out.trans (hW.mono HBEL.out.size)))
    have hls40 := HLF.out.flow.1
    have hls1 := HLF.out.one
    obtain ⟨at9, hat⟩ : ∃ r, bz % f.blocks.length = r := ⟨_, rfl⟩
    have hatl : at9 < f.blocks.length := by rw [← hat]; exact Nat.mod_lt _ (by omega)
    obtain ⟨l, hl⟩ : ∃ l, f.blocks[at9]? = some l := ⟨_, List.getElem?_eq_getElem hatl⟩
    have hlm := List.mem_of_getElem? hl
    have hll1 : 1 ≤ l.length := by
      have := HLF.out.ne at9 hatl
      unfold codeOf at this
      rw [hl] at this
      exact List.length_pos_iff.2 this
    have hll40 : l.length ≤ 40 := HLF.out.flow.2.1 l hlm
    obtain ⟨i9, hi9⟩ : ∃ r, iz % l.length = r := ⟨_, rfl⟩
    have hi9l : i9 < l.length := by rw [← hi9]; exact Nat.mod_lt _ (by omega)
    obtain ⟨x, hx⟩ : ∃ x, l[i9]? = some x := ⟨_, List.getElem?_eq_getElem hi9l⟩
    have t1 : (bz : Int).tmod (f.blocks.length : Int) = (at9 : Int) := by rw [← hat]; exact (Int.ofNat_tmod bz f.blocks.length).symm
    have t3 : (bz : Int) % (f.blocks.length : Int) = (at9 : Int) := by rw [← hat]; exact (Int.natCast_emod bz f.blocks.length).symm
    have t5 : (iz : Int).tmod (l.length : Int) = (i9 : Int) := by rw [← hi9]; exact (Int.ofNat_tmod iz l.length).symm
    have t7 : (iz : Int) % (l.length : Int) = (i9 : Int) := by rw [← hi9]; exact (Int.natCast_emod iz l.length).symm
    have HACR := hide (fun (t : List Nat) (ht : AcrQ f (at9 : Int) (i9 : Int) t) => acr_all HLA.out hl hx ht)
    have HCLO := hide (fun s : List Nat => closeL_ok f s)
    have HBL := hide (fun (W : World) (hW : Below wo.heap.size wo W) => (kI W hW).2.2.1)
    have HAC := hide (fun (W : World) (hW : Below wo.heap.size wo W) => across_any _ _ _ f (at9 : Int) (i9 : Int) W w.heap.size (hsW W hW) (kI W hW) (HTO.out W hW) HLF.out.flow HLF.out.ne HLF.out.few (by have := HLF.out.kinds; omega))
    have HBH := hide (fun (W : World) (hW : Below wo.heap.size wo W) => kp_behind_any _ _ _ f (at9 : Int) (i9 : Int) W w.heap.size (hsW W hW) (kI W hW) (HTO.out W hW) HLF.out.flow HLF.out.ne HLF.out.few (by have := HLF.out.kinds; omega))
    have HAH := hide (fun (W : World) (hW : Below wo.heap.size wo W) => kp_ahead_any _ _ _ f (at9 : Int) (i9 : Int) W w.heap.size (hsW W hW) (kI W hW) (HTO.out W hW) HLF.out.flow HLF.out.ne HLF.out.few (by have := HLF.out.kinds; omega))
    have HWI := hide (fun (W : World) (hW : Below wo.heap.size wo W) => (rwithinZ_any _ _ _ f (-1) 0 (by omega) W w.heap.size (hsW W hW) (kI W hW) HLF.out.flow hls1).mono (R' := fun e w' => ∃ bm m, e = .returned (.slice (some ⟨bm, 0, none⟩) f.blocks.length f.blocks.length) ∧ MB w' bm m ∧ m.length = f.blocks.length ∧ Below W.heap.size W w') (fun e w' ⟨bm, m, h1', h2, h3, ⟨h4, h5⟩, h6⟩ => ⟨bm, m, h1', h3, h4.len, h6⟩))
    obtain ⟨ls, hls2⟩ : ∃ ls, f.blocks.length = ls := ⟨_, rfl⟩
    have HLS := hide hls2
    rw [hls2] at HAC HBH HAH HWI HBL e4 hls40 hls1 hatl t1 t3
    obtain ⟨bb, ob, Al, cl, hAs, hbb, d0, hli⟩ := (HBL.out wo (Below.refl _ _)).get hl
    subst hAs
    obtain ⟨bq, oq, Ax, cx, hAl, hbq, g6, hxi⟩ := hli.get hx
    subst hAl
    have hbbo : bb < wo.heap.size := by have := HBEL.out.size; omega
    have hbqo : bq < wo.heap.size := by have := HBEL.out.size; omega
    obtain ⟨ll, hll⟩ : ∃ ll, l.length = ll := ⟨_, rfl⟩
    obtain ⟨lx, hlx⟩ : ∃ lx, x.args.length = lx := ⟨_, rfl⟩
    have hxR := hide hxi.2.2.1
    rw [hll] at d0 hll1 hll40 hi9l t5 t7
    rw [hlx] at g6
    have HDC := hide (fun (W : World) (hW : Below wo.heap.size wo W) => (World.cell?_of_block (a := ⟨bb, ob + at9, none⟩) (hW.block bb hbbo)).trans d0)
    have HGC := hide (fun (W : World) (hW : Below wo.heap.size wo W) => (show (W.cell? ⟨bq, oq + i9 * 7, none⟩ = some (.int .i64 x.op) ∧ W.cell? ⟨bq, oq + i9 * 7 + 1, none⟩ = some (.int .i64 x.d) ∧ W.cell? ⟨bq, oq + i9 * 7 + 2, none⟩ = some (.int .i64 x.a) ∧ W.cell? ⟨bq, oq + i9 * 7 + 3, none⟩ = some (.int .i64 x.b) ∧ W.cell? ⟨bq, oq + i9 * 7 + 4, none⟩ = some (.int .i64 x.n) ∧ W.cell? ⟨bq, oq + i9 * 7 + 5, none⟩ = some (.int .i64 x.m) ∧ W.cell? ⟨bq, oq + i9 * 7 + 6, none⟩ = some (.slice Ax lx cx)) from
      ⟨(World.cell?_of_block (hW.block bq hbqo)).trans g6.1, (World.cell?_of_block (hW.block bq hbqo)).trans g6.2.1, (World.cell?_of_block (hW.block bq hbqo)).trans g6.2.2.1, (World.cell?_of_block (hW.block bq hbqo)).trans g6.2.2.2.1, (World.cell?_of_block (hW.block bq hbqo)).trans g6.2.2.2.2.1, (World.cell?_of_block (hW.block bq hbqo)).trans g6.2.2.2.2.2.1, (World.cell?_of_block (hW.block bq hbqo)).trans g6.2.2.2.2.2.2⟩))
    have HSE4 := hide (fun (W : World) => sets4_any x Ax lx cx W)
    clear hls2 hl hx hlm hat hi9 d0 hli hll hlx hxi g6 hi hf kI hsW
    generalize f.kinds.length = lk, f.base.length = lb, f.params = fp, f.result = fr at *
    have hki : (0 : Int) ≤ (k : Int) := by omega
    have hkl : (k : Int) < (lp : Int) := by omega
    go_upto_region 9 with (fail)
    obtain ⟨w5, hw5⟩ : ∃ w5, w5 = wo.alloc (.cells #[.slice Ak lk ck, .slice Ab lb cb, .int .i64 fp, .int .i64 fr, .slice (some ⟨bb, ob, none⟩) ls cs] 33) := ⟨_, rfl⟩
    obtain ⟨h5, hh5⟩ : ∃ h5, wo.heap.size = h5 := ⟨_, rfl⟩
    have HX5 := hide (show Box w5 h5 #[.slice Ak lk ck, .slice Ab lb cb, .int .i64 fp, .int .i64 fr, .slice (some ⟨bb, ob, none⟩) ls cs] 33 by rw [hw5, ← hh5]; exact Box.new wo _ _)
    have HY5 := hide (show Box w5 h2 #[.int .u8 (bz : Int), .int .u8 (iz : Int)] 25 by rw [hw5]; exact HYO.out.alloc _)
    have HB5 := hide (show Below wo.heap.size wo w5 by rw [hw5]; exact alloc1 wo _)
    rw [← hw5, hh5]
    clear hw5 hh5 e0 e1 e2 e3 e4 hbs xp lxp
    have l5 := HX5.out.lt
    have hz5 := HB5.out.size
    have ly5 := HY5.out.lt
    have y0 := (HY5.out.cell 0 (v := .int .u8 (bz : Int)) rfl).1
    have y1 := (HY5.out.cell 1 (v := .int .u8 (iz : Int)) rfl).1
    have c4 := (HX5.out.cell 4 (v := .slice (some ⟨bb, ob, none⟩) ls cs) rfl).1
    have d5 := HDC.out w5 HB5.out
    have hb0 : (0 : Int) ≤ (bz : Int) := by omega
    have hb1 : (bz : Int) ≤ 255 := by omega
    have hz0 : (0 : Int) ≤ (iz : Int) := by omega
    have hz1 : (iz : Int) ≤ 255 := by omega
    have hlsz : ((ls : Int) == 0) = false := by simp; omega
    have hl0 : (0 : Int) < (ls : Int) := by omega
    have hllz : ((ll : Int) == 0) = false := by simp; omega
    have hll0 : (0 : Int) < (ll : Int) := by omega
    have ha0 : (0 : Int) ≤ (at9 : Int) := by omega
    have ha1 : (at9 : Int) < (ls : Int) := by omega
    have hj0 : (0 : Int) ≤ (i9 : Int) := by omega
    have hj1 : (i9 : Int) < (ll : Int) := by omega
    go_upto_region 10 with (fail)
    have ei : IntKind.i64.wrap (iz : Int) = (iz : Int) := IntWalk.i64_in _ ⟨by omega, by omega⟩
    go_quiet (fail)
    obtain ⟨w6, hw6⟩ : ∃ w6, w6 = w5.drewN nq := ⟨_, rfl⟩
    have HX6 := hide (show Box w6 h5 #[.slice Ak lk ck, .slice Ab lb cb, .int .i64 fp, .int .i64 fr, .slice (some ⟨bb, ob, none⟩) ls cs] 33 by rw [hw6]; exact HX5.out)
    have HB6 := hide (show Below wo.heap.size wo w6 by rw [hw6]; exact below_drewN HB5.out nq)
    have hs6 : w6.heap.size = w5.heap.size := by rw [hw6]; rfl
    rw [← hw6]
    clear hw6 c4 d5 y0 y1 ei t1 t3 t5 t7 hb0 hb1 hz0 hz1 hlsz hllz HY5 ly5
    have l6 : h5 < w6.heap.size := by omega
    have HK5 := hide (fun (W : World) (hW : Below w6.heap.size w6 W) => (show W.cell? ⟨h5, 0, none⟩ = some (.slice Ak lk ck) ∧ W.cell? ⟨h5, 1, none⟩ = some (.slice Ab lb cb) ∧ W.cell? ⟨h5, 2, none⟩ = some (.int .i64 fp) ∧ W.cell? ⟨h5, 3, none⟩ = some (.int .i64 fr) ∧ W.cell? ⟨h5, 4, none⟩ = some (.slice (some ⟨bb, ob, none⟩) ls cs) from ⟨((HX6.out.below hW).cell 0 (v := .slice Ak lk ck) rfl).1, ((HX6.out.below hW).cell 1 (v := .slice Ab lb cb) rfl).1, ((HX6.out.below hW).cell 2 (v := .int .i64 fp) rfl).1, ((HX6.out.below hW).cell 3 (v := .int .i64 fr) rfl).1, ((HX6.out.below hW).cell 4 (v := .slice (some ⟨bb, ob, none⟩) ls cs) rfl).1⟩))
    have HUP := hide (fun (W : World) (hW : Below w6.heap.size w6 W) => HB6.out.trans (hW.mono HB6.out.size))
    obtain ⟨c0, c1, c2, c3, c4⟩ := HK5.out w6 (Below.refl _ _)
    go_upto_region 12 with (go_at_call 7; (with_reducible refine (HAC.out w6 HB6.out).mono ?_); rintro e w7 ⟨r7, t7, rfl, hq7, hv7, hb7⟩; have HQ7 := hide (HACR.out t7 hq7); have HV7 := hide hv7; have HC7 := hide hb7; have q7 := HK5.out w7 hb7; clear hq7 hv7 hb7 c0 c1 c2 c3 c4)
    obtain ⟨c0, c1, c2, c3, c4⟩ := q7
    have d7 := HDC.out w7 (HUP.out w7 HC7.out)
    obtain ⟨g0, g1, g2, g3, g4, g5, g6⟩ := HGC.out w7 (HUP.out w7 HC7.out)
    have HOK7 := hide HQ7.out.1
    have HHB := hide (fun (W : World) (hv : SetV W r7 t7) => rhasV hv (by have := HOK7.out.1; omega) HOK7.out.2 x.d hxR.out)
    have HH1 := hide (fun (W : World) (v : Value) (s : List Nat) (hs : LvQ f 1 (at9 : Int) (i9 : Int) s) (hv : SetV W v (closeL f s)) (ht : SetV W r7 t7) => rholdsV hv ht (HCLO.out s) HOK7.out (HQ7.out.2.2.1 s hs))
    have HH0 := hide (fun (W : World) (v : Value) (s : List Nat) (hs : LvQ f 0 (at9 : Int) (i9 : Int) s) (hv : SetV W v (closeL f s)) (ht : SetV W r7 t7) => rholdsV hv ht (HCLO.out s) HOK7.out (HQ7.out.2.2.2 s hs))
    by_cases hD : hasB4 x.op 68 = true
    case pos =>
      have HSQ := hide (fun (W : World) => (show Calls Tryz.prog 8 #[.agg #[.int .i64 x.op, .int .i64 x.d, .int .i64 x.a, .int .i64 x.b, .int .i64 x.n, .int .i64 x.m, .slice Ax lx cx]] W fun e w' => e = .returned (.tuple #[.int .i64 x.d, .bool true]) ∧ Below W.heap.size W w' by have t := HSE4.out W; simp only [hD] at t; exact t))
      have HHN := hide (fun (W : World) (hv : SetV W r7 t7) => (by have t := HHB.out W hv; rw [HQ7.out.2.1 hD] at t; exact t : Calls Tryz.prog 9 #[r7, .int .i64 x.d] W fun e w' => e = .returned (.bool false) ∧ W = w'))
      clear hD HHB
      go_upto_region 13 with (go_at_call 8; refine (HSQ.out w7).mono ?_; rintro e w8 ⟨rfl, hb8⟩; have hc8 := HC7.out.trans (hb8.mono HC7.out.size); have q8 := HK5.out w8 hc8; have HC8 := hide hc8; have HV8 := hide (HV7.out.below hb8); clear hb8 hc8 c0 c1 c2 c3 c4 d7 g0 g1 g2 g3 g4 g5 g6)
      obtain ⟨c0, c1, c2, c3, c4⟩ := q8
      go_upto_region 15 with (first
        | (go_at_call 10; refine (HH1.out wa ra sa HQA.out HVA.out HRA.out).mono ?_; rintro e wb ⟨rfl, hbb2⟩; have hcb := HCA.out.trans (hbb2.mono HCA.out.size); have qb := HK5.out wb hcb; have HCB := hide hcb; have HRB := hide (HRA.out.below hbb2); clear hbb2 hcb)
        | (go_at_call 11; (with_reducible refine (HBH.out w8 (HUP.out w8 HC8.out)).mono ?_); rintro e wa ⟨ra, sa, rfl, hqa, hwa, hba⟩; have HQA := hide hqa; have HVA := hide hwa.ws; have HRA := hide (HV8.out.below hba); have hca := HC8.out.trans (hba.mono HC8.out.size); have HCA := hide hca; clear hqa hwa hba hca)
        | (go_at_call 9; refine (HHN.out w8 HV8.out).mono ?_; rintro e w9 ⟨rfl, hw9⟩; subst hw9))
      obtain ⟨y0, y1, y2, y3, y4⟩ := qb
      clear c0 c1 c2 c3 c4
      go_wp2_with (first
        | (go_at_call 10; refine (HH0.out wd rd sd HQD.out HVD.out HRD.out).mono ?_; rintro e we ⟨rfl, hbe⟩; have hce := HCD.out.trans (hbe.mono HCD.out.size); have HCE := hide hce; clear hbe hce)
        | (go_at_call 13; (with_reducible refine (HAH.out wc (HUP.out wc HCC.out)).mono ?_); rintro e wd ⟨rd, sd, rfl, hqd, hwd, hbd⟩; have HQD := hide hqd; have HVD := hide hwd.ws; have HRD := hide (HRC.out.below hbd); have hcd := HCC.out.trans (hbd.mono HCC.out.size); have HCD := hide hcd; clear hqd hwd hbd hcd)
        | (go_at_call 12; refine (HWI.out wb (HUP.out wb HCB.out)).mono ?_; rintro e wc ⟨bm, m, rfl, hm, hml, hbc⟩; have xm := (hm.cell (b := at9) (by rw [hml]; exact hatl)).1; have lm := hm.lt; have hcc := HCB.out.trans (hbc.mono HCB.out.size); obtain ⟨k0, k1, k2, k3, k4⟩ := HK5.out wc hcc; have HCC := hide hcc; have HRC := hide (HRB.out.below hbc); clear hbc hcc hml hm; generalize metB m (at9 : Int) = bv at xm; cases bv))
      all_goals
        go_roundw
        case rel => exact ⟨k + 1, by have := HKLT.out; omega, by go_num, HBW.out.trans ((by first | exact HUP.out _ HCE.out | exact HUP.out _ HCC.out : Below wo.heap.size wo _).mono hszo)⟩
        case measure => have := HKLT.out; simp [intOf]; omega
    case neg =>
      have HSQ := hide (fun (W : World) => (show Calls Tryz.prog 8 #[.agg #[.int .i64 x.op, .int .i64 x.d, .int .i64 x.a, .int .i64 x.b, .int .i64 x.n, .int .i64 x.m, .slice Ax lx cx]] W fun e w' => e = .returned (.tuple #[.int .i64 0, .bool false]) ∧ Below W.heap.size W w' by have t := HSE4.out W; rw [Bool.not_eq_true] at hD; simp only [hD] at t; exact t))
      clear hD HHB
      go_upto_region 13 with (go_at_call 8; refine (HSQ.out w7).mono ?_; rintro e w8 ⟨rfl, hb8⟩; have hc8 := HC7.out.trans (hb8.mono HC7.out.size); have q8 := HK5.out w8 hc8; have HC8 := hide hc8; have HV8 := hide (HV7.out.below hb8); clear hb8 hc8 c0 c1 c2 c3 c4 d7 g0 g1 g2 g3 g4 g5 g6)
      obtain ⟨c0, c1, c2, c3, c4⟩ := q8
      go_upto_region 15 with (first
        | (go_at_call 10; refine (HH1.out wa ra sa HQA.out HVA.out HRA.out).mono ?_; rintro e wb ⟨rfl, hbb2⟩; have hcb := HCA.out.trans (hbb2.mono HCA.out.size); have qb := HK5.out wb hcb; have HCB := hide hcb; have HRB := hide (HRA.out.below hbb2); clear hbb2 hcb)
        | (go_at_call 11; (with_reducible refine (HBH.out w8 (HUP.out w8 HC8.out)).mono ?_); rintro e wa ⟨ra, sa, rfl, hqa, hwa, hba⟩; have HQA := hide hqa; have HVA := hide hwa.ws; have HRA := hide (HV8.out.below hba); have hca := HC8.out.trans (hba.mono HC8.out.size); have HCA := hide hca; clear hqa hwa hba hca))
      obtain ⟨y0, y1, y2, y3, y4⟩ := qb
      clear c0 c1 c2 c3 c4
      go_wp2_with (first
        | (go_at_call 10; refine (HH0.out wd rd sd HQD.out HVD.out HRD.out).mono ?_; rintro e we ⟨rfl, hbe⟩; have hce := HCD.out.trans (hbe.mono HCD.out.size); have HCE := hide hce; clear hbe hce)
        | (go_at_call 13; (with_reducible refine (HAH.out wc (HUP.out wc HCC.out)).mono ?_); rintro e wd ⟨rd, sd, rfl, hqd, hwd, hbd⟩; have HQD := hide hqd; have HVD := hide hwd.ws; have HRD := hide (HRC.out.below hbd); have hcd := HCC.out.trans (hbd.mono HCC.out.size); have HCD := hide hcd; clear hqd hwd hbd hcd)
        | (go_at_call 12; refine (HWI.out wb (HUP.out wb HCB.out)).mono ?_; rintro e wc ⟨bm, m, rfl, hm, hml, hbc⟩; have xm := (hm.cell (b := at9) (by rw [hml]; exact hatl)).1; have lm := hm.lt; have hcc := HCB.out.trans (hbc.mono HCB.out.size); obtain ⟨k0, k1, k2, k3, k4⟩ := HK5.out wc hcc; have HCC := hide hcc; have HRC := hide (HRB.out.below hbc); clear hbc hcc hml hm; generalize metB m (at9 : Int) = bv at xm; cases bv))
      all_goals
        go_roundw
        case rel => exact ⟨k + 1, by have := HKLT.out; omega, by go_num, HBW.out.trans ((by first | exact HUP.out _ HCE.out | exact HUP.out _ HCC.out : Below wo.heap.size wo _).mono hszo)⟩
        case measure => have := HKLT.out; simp [intOf]; omega
end Go.Proofs.YtlhdfoebjldhiaaGreatDoor
