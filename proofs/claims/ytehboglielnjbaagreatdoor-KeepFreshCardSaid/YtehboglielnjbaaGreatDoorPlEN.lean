/- The statement KeepFresh, walked: it answers true. Conditions: the tables of parts and of rows read as listed; no slice of the program is longer than any machine's memory. -/
import Derived.Test.YtehboglielnjbaaGreatDoorPlEM
set_option linter.unusedSimpArgs false
set_option linter.unusedVariables false
namespace Go.Proofs.YtehboglielnjbaaGreatDoor
open Go.RowKit

/-- A function of a program that may be run: no use fails. -/
structure FOk (p : List FunV) (f : FunV) : Prop where
  a : AOk p f
  k : KOk f
  nf : NoFail f
theorem fOk_of {p : List FunV} (h : progB4 p = true) (hf : progFew p) (hc : ChkR p 0) : ∀ f ∈ p, FOk p f := fun f hm => by
  refine ⟨aOk_of h hf hc f hm, kOk_of h f hm, noFail_of (kOk_of h f hm) (fun ha => ?_) (fun ha => ?_)⟩
  · unfold ChkR at hc
    rcases hc with ⟨-, h0⟩ | ⟨-, -, h0⟩ | ⟨-, -, -, h0⟩ | ⟨-, -, -, -, h0⟩ | ⟨-, -, h1, -, -⟩
    · omega
    · omega
    · omega
    · omega
    · exact h1 ⟨f, hm, ha⟩
  · unfold ChkR at hc
    rcases hc with ⟨-, h0⟩ | ⟨-, -, h0⟩ | ⟨-, -, -, h0⟩ | ⟨-, -, -, -, h0⟩ | ⟨-, -, -, h1, -⟩
    · omega
    · omega
    · omega
    · omega
    · exact h1 ⟨f, hm, ha⟩
theorem ofkN_lenK (f : FunV) (s : List Nat) (c : Int) : ∀ k, (ofkN f s c k).length ≤ k
  | 0 => Nat.le_refl _
  | k + 1 => by
    unfold ofkN
    have := ofkN_lenK f s c k
    rw [List.length_append]
    split <;> simp <;> omega
/-- The set of what an own list of numbers holds. -/
theorem rofOw {W : World} {v : Value} {zs : List Int} {n : Nat} (h : Ow W n 3 .i64 v zs) (hn : zs.length ≤ 1000) (hz : ∀ z ∈ zs, i64R z) :
    ∃ A c m, v = .slice A m c ∧ Calls Tryz.prog 12 #[.slice A m c] W fun e w' => ∃ r, e = .returned r ∧ SetV w' r (ofL zs) ∧ Below W.heap.size W w' := by
  obtain ⟨A, c, rfl, h2, h3, h4⟩ := h.sl
  refine ⟨A, c, zs.length, rfl, (rof_any A zs.length c zs W h4 rfl (by omega) (fun z hz' => ?_)).mono fun e w' h => h.v⟩
  have := hz z hz'
  unfold i64R at this
  omega
theorem thrW_at {f : FunV} {l : List InsV} {i : Nat} {x : InsV} (hx : l[i]? = some x) (s : KSt) : thrW f (l.take (i + 1)) s = stepW f x (thrW f (l.take i) s) := by
  rw [List.take_add_one, hx]
  exact thrW_snoc f _ _ s
theorem u8_natF {n : Int} (h : (Lit.int .u8 n).wf = true) : ∃ k : Nat, n = k ∧ k < 256 := by
  simp [Lit.wf, IntKind.min, IntKind.max, IntKind.signed, IntKind.bits] at h
  exact ⟨n.toNat, by omega, by omega⟩
theorem katZ_nat {f : FunV} {n : Nat} {s : KSt} (h : KAtZ f (n : Int) s) : KAt f n s := by
  rcases h with ⟨b, e, h⟩ | ⟨h, -⟩
  · obtain rfl : n = b := by omega
    exact h
  · omega
set_option maxHeartbeats 4000000 in
set_option maxRecDepth 100000 in
theorem fresh12_law (vp : Value) (p : List FunV) (bz : Nat) (hbz : bz < 256) (w : World) (hT : TabP w) (hR : RowP w) (hp : FunsV w (· < w.heap.size) vp p) (hsz : progSize p) :
    Calls Tryz.prog 3 #[.agg #[vp], .int .u8 (bz : Int)] w fun e w' => e = .returned (.bool true) ∧ Below w.heap.size w w' := by
  have HKP := hide (fun (W : World) (hW : Below w.heap.size w W) => hp.keep (up hW (Nat.le_refl _)) (fun _ h => h))
  have HTT := hide (fun (W : World) (hW : Below w.heap.size w W) => hT.below hW hT.1)
  have HOUT := hide (fun (W : World) (hW : Below w.heap.size w W) => out12_any vp p W w.heap.size hW.size (hp.keep (up hW (Nat.le_refl _)) (fun _ h => h)) hsz)
  have HKC := hide (fun (W : World) (hW : Below w.heap.size w W) (hf : progFew p) => (kcheck_any p vp W w.heap.size hW.size (hp.keep (up hW (Nat.le_refl _)) (fun _ h => h)) (hT.below hW hT.1) (hR.below hW hR.1) hf).mono (R' := fun e w' => ∃ z : Int, e = .returned (.int .i64 z) ∧ Hid (z = 0 → ChkR p 0) ∧ Below W.heap.size W w') (fun e w' ⟨n, h1, h2, h3⟩ => ⟨(n : Int), h1, hide (fun hz => by
      have h0 : n = 0 := by omega
      rw [h0] at h2
      exact h2), h3⟩))
  have HALLOK := hide (fun (h : progB4 p = true ∧ progFew p) (hc : ChkR p 0) => @fOk_of p h.1 h.2 hc)
  obtain ⟨A, c, rfl, hpc, hpm⟩ := hp.open'
  obtain ⟨lp, hlp⟩ : ∃ lp, p.length = lp := ⟨_, rfl⟩
  have HLP := hide hlp
  rw [hlp] at HKP HOUT HKC hpc ⊢
  clear hp hsz hlp hT hR
  go_enter Tryz.func3, Tryz.ntmps3
  go_upto_region 1 with (fail)
  obtain ⟨w0, hw0⟩ : ∃ w0, w0 = w.alloc (.cells #[.slice A lp c] 24) := ⟨_, rfl⟩
  have HX0 := hide (show Box w0 w.heap.size #[.slice A lp c] 24 by rw [hw0]; exact Box.new w _ _)
  have HB0 := hide (show Below w.heap.size w w0 by rw [hw0]; exact alloc1 w _)
  rw [← hw0]
  clear hw0
  go_upto_region 3 with (go_at_call 4; refine (alive12_any w0 (HTT.out w0 HB0.out)).mono ?_; rintro e w1 ⟨rfl, hb1⟩; have HX1 := hide (HX0.out.below hb1); have HC1 := hide (HB0.out.trans (hb1.mono HB0.out.size)); clear hb1)
  have x1 := (HX1.out.cell 0 (v := .slice A lp c) rfl).1
  have l1 := HX1.out.lt
  go_upto_region 5 with (first
    | (go_at_call 6; refine (HKC.out w2 HB2.out (HS2.out.out (by simp)).2).mono ?_; rintro e w3 ⟨z3, rfl, hz3, hb3⟩; have HB3 := hide (HB2.out.trans (hb3.mono HB2.out.size)); have HX3 := hide (HX2.out.below hb3); have HZ3 := hide hz3; clear hz3 hb3; rcases Classical.em (z3 = 0) with hz0 | hz0; all_goals (first | (subst hz0) | (have hz1 : (z3 == 0) = false := beq_eq_false_iff_ne.2 hz0)))
    | (go_at_call 5; refine (HOUT.out w1 HC1.out).mono ?_; rintro e w2 ⟨b1, rfl, hs2, hb2⟩; have HB2 := hide (HC1.out.trans (hb2.mono HC1.out.size)); have HX2 := hide (HX1.out.below hb2); have HS2 := hide hs2; have x2 := (HX2.out.cell 0 (v := .slice A lp c) rfl).1; have l2 := HX2.out.lt; clear hb2 hs2; cases b1))
  all_goals try (go_ret; first | exact ⟨rfl, HB3.out⟩ | exact ⟨rfl, HB2.out⟩)
  have HOKS := hide (HALLOK.out (HS2.out.out (by simp)) (HZ3.out.out (by simp)))
  clear HOUT HKC HALLOK HS2 HZ3 HC1 HX1 HX2 l1 l2 x1 x2
  go_wp2
  go_loopw [5] (fun i wr => ∃ k : Nat, k ≤ lp ∧ i = .int .i64 k ∧ Below w3.heap.size w3 wr) (fun i _ => lp - (intOf i).toNat)
  case atStart => exact ⟨0, Nat.zero_le _, rfl, Below.refl _ _⟩
  case round =>
    obtain ⟨k, hk, rfl, hb'⟩ := hrel
    obtain ⟨wo, rfl⟩ : ∃ wo, wo = wr := ⟨_, rfl⟩
    have hszo := hb'.size
    have HBEL := hide (HB3.out.trans (hb'.mono HB3.out.size))
    have HXO := hide (HX3.out.below hb')
    have HBW := hide hb'
    have xp := (HXO.out.cell 0 (v := .slice A lp c) rfl).1
    have lxp := HXO.out.lt
    clear hb'
    by_cases hlt : k < lp
    case neg =>
      go_wp2
      go_ret
      exact ⟨rfl, HBEL.out⟩
    have HKLT := hide hlt
    obtain ⟨f, hf⟩ : ∃ f, p[k]? = some f := ⟨_, List.getElem?_eq_getElem (by have := HLP.out; omega)⟩
    obtain ⟨b, o, Ak, ck, Ab, cb, As, cs, hA, hbb, ⟨e0, e1, e2, e3, e4⟩, hi⟩ := (HKP.out wo HBEL.out).get hf
    subst hA
    have hbs : b < wo.heap.size := by have := HBEL.out.size; omega
    have HLA := hide (HOKS.out f (List.mem_of_getElem? hf))
    have HLF := hide HLA.out.a.ok
    have kI := fun (W : World) (hW : Below wo.heap.size wo W) => hi.keep (w := wo) (S := (· < w.heap.size)) (up hW HBEL.out.size) (fun _ h => h)
    have hsW : ∀ W : World, Below wo.heap.size wo W → w.heap.size ≤ W.heap.size := fun W hW => by have := hW.size; have := HBEL.out.size; omega
    have HTO := hide (fun (W : World) (hW : Below wo.heap.size wo W) => HTT.out W (HBEL.out.trans (hW.mono HBEL.out.size)))
    have hls40 := HLF.out.flow.1
    have hls1 := HLF.out.one
    obtain ⟨at9, hat⟩ : ∃ r, bz % f.blocks.length = r := ⟨_, rfl⟩
    have hatl : at9 < f.blocks.length := by rw [← hat]; exact Nat.mod_lt _ (by omega)
    obtain ⟨l, hl⟩ : ∃ l, f.blocks[at9]? = some l := ⟨_, List.getElem?_eq_getElem hatl⟩
    have hlm := List.mem_of_getElem? hl
    have hll40 : l.length ≤ 40 := HLF.out.flow.2.1 l hlm
    have t1 : (bz : Int).tmod (f.blocks.length : Int) = (at9 : Int) := by rw [← hat]; exact (Int.ofNat_tmod bz f.blocks.length).symm
    have t3 : (bz : Int) % (f.blocks.length : Int) = (at9 : Int) := by rw [← hat]; exact (Int.natCast_emod bz f.blocks.length).symm
    have HCLO := hide (fun s : List Nat => closeL_ok f s)
    have HFA := hide (fun (hp : Pth f 0 (at9 : Int)) (i : Nat) (hi : i < l.length) (s0 : List Nat) (h0 : LvQ f 0 (at9 : Int) (i : Int) s0) (s : KSt) (hs : KAt f at9 s) => fresh_all HLA.out.a HLA.out.k HLA.out.nf hl hi hp h0 hs)
    have HGK := hide (fun (hp : Pth f 0 (at9 : Int)) (i : Nat) (s : KSt) (hs : KAt f at9 s) => (thr_sem HLA.out.k hl hp hs i).1)
    have HBL := hide (fun (W : World) (hW : Below wo.heap.size wo W) => (kI W hW).2.2.1)
    have HZL := hide (fun s : List Nat => (show (ofkN f s 2 f.kinds.length).length ≤ 1000 ∧ ∀ z ∈ ofkN f s 2 f.kinds.length, i64R z from ⟨by have := ofkN_lenK f s 2 f.kinds.length; have := HLF.out.kinds; omega, ofkN_R f s 2 (by have := HLF.out.kinds; omega)⟩))
    have HAH := hide (fun (W : World) (hW : Below wo.heap.size wo W) (i : Nat) => kp_ahead_any _ _ _ f (at9 : Int) (i : Int) W w.heap.size (hsW W hW) (kI W hW) (HTO.out W hW) HLF.out.flow HLF.out.ne HLF.out.few (by have := HLF.out.kinds; omega))
    have HDE := hide (fun (W : World) (hW : Below wo.heap.size wo W) (v : Value) (s : List Nat) (hv : SetV W v s) (hs : SetOk s) => ders_any _ _ _ f v s W w.heap.size (hsW W hW) (kI W hW) (by have := HLF.out.kinds; omega) hv (by have := hs.1; omega) hs.2)
    have HSE := hide (fun (W : World) (hW : Below wo.heap.size wo W) => (kset_any _ _ _ f HLA.out.k (at9 : Int) (by unfold i64R; omega) W w.heap.size (hsW W hW) (kI W hW) (HTO.out W hW)).mono (R' := fun e w' => ∃ v s, e = .returned v ∧ SetV w' v s.1 ∧ KAt f at9 s ∧ Below W.heap.size W w') (fun e w' ⟨v, s, h1, h2, h3, h4⟩ => ⟨v, s, h1, h2, katZ_nat h3, h4⟩))
    have HFR := hide (fun (W : World) (hW : Below wo.heap.size wo W) => (kfresh_any _ _ _ f HLA.out.k (at9 : Int) (by unfold i64R; omega) W w.heap.size (hsW W hW) (kI W hW) (HTO.out W hW)).mono (R' := fun e w' => ∃ v s, e = .returned v ∧ SetV w' v s.2 ∧ KAt f at9 s ∧ Below W.heap.size W w') (fun e w' ⟨v, s, h1, h2, h3, h4⟩ => ⟨v, s, h1, h2, katZ_nat h3, h4⟩))
    have HST := hide (fun (W : World) (hW : Below wo.heap.size wo W) (x : InsV) (hxm : x ∈ l) (va : Value) (hx : InsI W (· < w.heap.size) va x) (v1 v2 : Value) (s : KSt) (hs : GoodK f s) (h1 : SetV W v1 s.1) (h2 : SetV W v2 s.2) => kstep_any _ _ _ f x va W w.heap.size (hsW W hW) (kI W hW) hx (HTO.out W hW) v1 v2 s hs h1 h2 HLF.out.kinds HLF.out.bl (HLA.out.k.sets l hlm x hxm))
    have HWI := hide (fun (W : World) (hW : Below wo.heap.size wo W) => (rwithinZ_any _ _ _ f (-1) 0 (by omega) W w.heap.size (hsW W hW) (kI W hW) HLF.out.flow hls1).mono (R' := fun e w' => ∃ bm m, e = .returned (.slice (some ⟨bm, 0, none⟩) f.blocks.length f.blocks.length) ∧ MB w' bm m ∧ m.length = f.blocks.length ∧ Hid (metB m (at9 : Int) = true → Pth f 0 (at9 : Int)) ∧ Below W.heap.size W w') (fun e w' ⟨bm, m, h1', h2, h3, ⟨h4, h5⟩, h6⟩ => ⟨bm, m, h1', h3, h4.len, hide (fun hm => h4.snd (fun z => Pth f 0 z) (Pth.refl _ _) (fun x hx v hv _ => hx.trans (Pth.step (by omega) (by rwa [Int.toNat_natCast]))) at9 hm), h6⟩))
    obtain ⟨ls, hls2⟩ : ∃ ls, f.blocks.length = ls := ⟨_, rfl⟩
    rw [hls2] at HAH HDE HSE HFR HST HWI HBL e4 hls40 hls1 hatl t1 t3
    obtain ⟨bb, ob, Al, cl, hAs, hbb, d0, hli⟩ := (HBL.out wo (Below.refl _ _)).get hl
    subst hAs
    have hbbo : bb < wo.heap.size := by have := HBEL.out.size; omega
    have HDC := hide (fun (W : World) (hW : Below wo.heap.size wo W) => (World.cell?_of_block (a := ⟨bb, ob + at9, none⟩) (hW.block bb hbbo)).trans d0)
    have HLI := hide (fun (W : World) (hW : Below wo.heap.size wo W) => hli.keep (w := wo) (S := (· < w.heap.size)) (up hW HBEL.out.size) (fun _ h => h))
    obtain ⟨ll, hll⟩ : ∃ ll, l.length = ll := ⟨_, rfl⟩
    have HLL := hide hll
    rw [hll] at HDC HLI HFA hll40
    clear hls2 hl hlm hat d0 hll hli hi hf kI hsW
    generalize f.kinds.length = lk, f.base.length = lb, f.params = fp, f.result = fr at *
    have hki : (0 : Int) ≤ (k : Int) := by omega
    have hkl : (k : Int) < (lp : Int) := by omega
    go_upto_region 9 with (fail)
    obtain ⟨w5, hw5⟩ : ∃ w5, w5 = wo.alloc (.cells #[.slice Ak lk ck, .slice Ab lb cb, .int .i64 fp, .int .i64 fr, .slice (some ⟨bb, ob, none⟩) ls cs] 32) := ⟨_, rfl⟩
    obtain ⟨h5, hh5⟩ : ∃ h5, wo.heap.size = h5 := ⟨_, rfl⟩
    have HX5 := hide (show Box w5 h5 #[.slice Ak lk ck, .slice Ab lb cb, .int .i64 fp, .int .i64 fr, .slice (some ⟨bb, ob, none⟩) ls cs] 32 by rw [hw5, ← hh5]; exact Box.new wo _ _)
    have HB5 := hide (show Below wo.heap.size wo w5 by rw [hw5]; exact alloc1 wo _)
    rw [← hw5, hh5]
    clear hw5 hh5 e0 e1 e2 e3 e4 hbs xp lxp
    have l5 := HX5.out.lt
    have hz5 := HB5.out.size
    have HK5 := hide (fun (W : World) (hW : Below w5.heap.size w5 W) => (show W.cell? ⟨h5, 0, none⟩ = some (.slice Ak lk ck) ∧ W.cell? ⟨h5, 1, none⟩ = some (.slice Ab lb cb) ∧ W.cell? ⟨h5, 2, none⟩ = some (.int .i64 fp) ∧ W.cell? ⟨h5, 3, none⟩ = some (.int .i64 fr) ∧ W.cell? ⟨h5, 4, none⟩ = some (.slice (some ⟨bb, ob, none⟩) ls cs) from ⟨((HX5.out.below hW).cell 0 (v := .slice Ak lk ck) rfl).1, ((HX5.out.below hW).cell 1 (v := .slice Ab lb cb) rfl).1, ((HX5.out.below hW).cell 2 (v := .int .i64 fp) rfl).1, ((HX5.out.below hW).cell 3 (v := .int .i64 fr) rfl).1, ((HX5.out.below hW).cell 4 (v := .slice (some ⟨bb, ob, none⟩) ls cs) rfl).1⟩))
    have HUP := hide (fun (W : World) (hW : Below w5.heap.size w5 W) => HB5.out.trans (hW.mono HB5.out.size))
    obtain ⟨c0, c1, c2, c3, c4⟩ := HK5.out w5 (Below.refl _ _)
    have hb0 : (0 : Int) ≤ (bz : Int) := by omega
    have hb1 : (bz : Int) ≤ 255 := by omega
    have hlsz : ((ls : Int) == 0) = false := by simp; omega
    have hl0 : (0 : Int) < (ls : Int) := by omega
    have ha0 : (0 : Int) ≤ (at9 : Int) := by omega
    have ha1 : (at9 : Int) < (ls : Int) := by omega
    go_upto_region 11 with (go_at_call 7; refine (HWI.out w5 HB5.out).mono ?_; rintro e wv ⟨bm, m, rfl, hm, hml, hmp, hbv⟩; have xm := (hm.cell (b := at9) (by rw [hml]; exact hatl)).1; have lm := hm.lt; have qv := HK5.out wv hbv; have HCv := hide hbv; have HMP := hide hmp; clear hbv hml hm hmp c0 c1 c2 c3 c4; generalize metB m (at9 : Int) = bv at xm HMP; cases bv)
    all_goals try
      go_roundw
      case rel => exact ⟨k + 1, by have := HKLT.out; omega, by go_num, HBW.out.trans ((HUP.out wv HCv.out).mono hszo)⟩
      case measure => have := HKLT.out; simp [intOf]; omega
    have hPth := hide (HMP.out.out (by simp))
    obtain ⟨c0, c1, c2, c3, c4⟩ := qv
    clear xm lm HMP t1 t3 hb0 hb1 hlsz
    go_region_held3 (fun w' => w'.cell? ⟨h5, 0, none⟩ = some (.slice Ak lk ck) ∧ w'.cell? ⟨h5, 1, none⟩ = some (.slice Ab lb cb) ∧ w'.cell? ⟨h5, 2, none⟩ = some (.int .i64 fp) ∧ w'.cell? ⟨h5, 3, none⟩ = some (.int .i64 fr) ∧ w'.cell? ⟨h5, 4, none⟩ = some (.slice (some ⟨bb, ob, none⟩) ls cs)) (first | go_keep | (exact q7) | (exact q6))
      (first
        | (go_at_call 9; refine (HFR.out w6 (HUP.out w6 HC6.out)).mono ?_; rintro e w7 ⟨v7, s7, rfl, hv7, ha7, hb⟩; have hc := HC6.out.trans (hb.mono HC6.out.size); have q7 := HK5.out w7 hc; have HC7 := hide hc; have HV7 := hide hv7; have HV6b := hide (HV6.out.below hb); have HA7 := hide ha7; clear hb hc hv7 ha7)
        | (go_at_call 8; refine (HSE.out _ (HUP.out _ (below_drewN HCv.out 1))).mono ?_; rintro e w6 ⟨v6, s6, rfl, hv6, ha6, hb⟩; have hc : Below w5.heap.size w5 w6 := HCv.out.trans (Below.mono ⟨hb.os, hb.tape, hb.output, hb.size, hb.block⟩ HCv.out.size); have q6 := HK5.out w6 hc; have HC6 := hide hc; have HV6 := hide hv6; have HA6 := hide ha6; clear hb hc hv6 ha6))
    obtain rfl : s6 = s7 := HA6.out.one HA7.out
    clear HV6 HA7 HC6 HSE HFR
    go_wp2
    go_loopw [8, 9, 10] (fun a b i wr => ∃ (va vb : Value) (j : Nat), va = a ∧ vb = b ∧ j ≤ ll ∧ i = .int .i64 (j : Int) ∧ Below w7.heap.size w7 wr ∧ Hid (SetV wr va (thrW f (l.take j) s6).1) ∧ Hid (SetV wr vb (thrW f (l.take j) s6).2)) (fun _ _ i _ => ll - (intOf i).toNat)
    case atStart => exact ⟨_, _, 0, rfl, rfl, Nat.zero_le _, rfl, Below.refl _ _, HV6b, HV7⟩
    case round =>
      obtain ⟨va, vb, j, rfl, rfl, hj, rfl, hbI, hSa, hSb⟩ := hrel
      obtain ⟨wi, rfl⟩ : ∃ wi, wi = wr := ⟨_, rfl⟩
      have HBJ := hide hbI
      have HBI := hide (HC7.out.trans (hbI.mono HC7.out.size))
      have HSA := hide hSa.out
      have HSB := hide hSb.out
      clear hSa hSb
      have hzi := hbI.size
      clear hbI
      obtain ⟨c0, c1, c2, c3, c4⟩ := HK5.out wi HBI.out
      have di := HDC.out wi (HUP.out wi HBI.out)
      by_cases hjl : j < ll
      case neg =>
        go_wp2
        go_roundw
        case rel => exact ⟨k + 1, by have := HKLT.out; omega, by go_num, HBW.out.trans ((HUP.out _ HBI.out).mono hszo)⟩
        case measure => have := HKLT.out; simp [intOf]; omega
      have HJL := hide hjl
      obtain ⟨x, hx⟩ : ∃ x, l[j]? = some x := ⟨_, List.getElem?_eq_getElem (by have := HLL.out; omega)⟩
      obtain ⟨bq, oq, Ax, cx, hAl, hbq, g6, hxi⟩ := (HLI.out wi (HUP.out wi HBI.out)).get hx
      subst hAl
      obtain ⟨lx, hlx⟩ : ∃ lx, x.args.length = lx := ⟨_, rfl⟩
      rw [hlx] at g6 hxi
      have hbqo : bq < wi.heap.size := by have := HBEL.out.size; have := (HUP.out wi HBI.out).size; omega
      have HGJ := hide (HGK.out hPth.out j s6 HA6.out)
      have HFJ := hide (fun s0 h0 => HFA.out hPth.out j hjl s0 h0 s6 HA6.out)
      have HXM := hide (List.mem_of_getElem? hx)
      have HNX := hide (thrW_at (f := f) hx s6)
      have HXI := hide (fun (W : World) (hW : Below wi.heap.size wi W) => hxi.keep (w := wi) (S := (· < w.heap.size)) (S' := (· < w.heap.size)) (up hW (by have := HBEL.out.size; have := (HUP.out wi HBI.out).size; omega)) (fun _ h => h))
      have HGC := hide (fun (W : World) (hW : Below wi.heap.size wi W) => (show (W.cell? ⟨bq, oq + j * 7, none⟩ = some (.int .i64 x.op) ∧ W.cell? ⟨bq, oq + j * 7 + 1, none⟩ = some (.int .i64 x.d) ∧ W.cell? ⟨bq, oq + j * 7 + 2, none⟩ = some (.int .i64 x.a) ∧ W.cell? ⟨bq, oq + j * 7 + 3, none⟩ = some (.int .i64 x.b) ∧ W.cell? ⟨bq, oq + j * 7 + 4, none⟩ = some (.int .i64 x.n) ∧ W.cell? ⟨bq, oq + j * 7 + 5, none⟩ = some (.int .i64 x.m) ∧ W.cell? ⟨bq, oq + j * 7 + 6, none⟩ = some (.slice Ax lx cx)) from
        ⟨(World.cell?_of_block (hW.block bq hbqo)).trans g6.1, (World.cell?_of_block (hW.block bq hbqo)).trans g6.2.1, (World.cell?_of_block (hW.block bq hbqo)).trans g6.2.2.1, (World.cell?_of_block (hW.block bq hbqo)).trans g6.2.2.2.1, (World.cell?_of_block (hW.block bq hbqo)).trans g6.2.2.2.2.1, (World.cell?_of_block (hW.block bq hbqo)).trans g6.2.2.2.2.2.1, (World.cell?_of_block (hW.block bq hbqo)).trans g6.2.2.2.2.2.2⟩))
      have HW5 := hide (fun (W : World) (hW : Below wi.heap.size wi W) => HBI.out.trans (hW.mono HBI.out.size))
      have hOK1 := hide (show SetOk (thrW f (l.take j) s6).1 from ⟨HGJ.out.l1, HGJ.out.w1⟩)
      have hOK2 := hide (show SetOk (thrW f (l.take j) s6).2 from ⟨HGJ.out.l2, HGJ.out.w2⟩)
      obtain ⟨S1, hS1⟩ : ∃ S, (thrW f (l.take j) s6) = S := ⟨_, rfl⟩
      rw [hS1] at hOK1 hOK2 HSA HSB HGJ HFJ HNX
      have hj0 : (0 : Int) ≤ (j : Int) := by omega
      have hj1 : (j : Int) < (ll : Int) := by omega
      clear hx g6 hxi hlx hS1
      go_upto_region 16 with (go_at_call 10; (with_reducible refine (HAH.out wi (HUP.out wi HBI.out) j).mono ?_); rintro e w8 ⟨r8, s8, rfl, hq8, hw8, hb8⟩; have HQ8 := hide (HFJ.out s8 hq8); have HV8 := hide hw8.ws; have HSA8 := hide (HSA.out.below hb8); have HSB8 := hide (HSB.out.below hb8); have q8 := HK5.out w8 (HW5.out w8 hb8); have HC8 := hide hb8; clear hq8 hw8 hb8 c0 c1 c2 c3 c4 di)
      obtain ⟨c0, c1, c2, c3, c4⟩ := q8
      go_upto_region 18 with (first
        | (go_at_call 11; refine (rholdsV HSBb.out HVb.out hOK2.out (ofL_ok _) HQ8.out.2).mono ?_; rintro e wc ⟨rfl, hbc⟩; have hcc := HCb.out.trans (hbc.mono HCb.out.size); have qc := HK5.out wc (HW5.out wc hcc); have HCc := hide hcc; have HSAc := hide (HSAb.out.below hbc); have HSBc := hide (HSBb.out.below hbc); clear hbc hcc)
        | (go_at_call 12; refine HOF.out.mono ?_; rintro e wb ⟨rb, rfl, hvb, hbb2⟩; have hcb := HCa.out.trans (hbb2.mono HCa.out.size); have HCb := hide hcb; have HVb := hide hvb; have HSAb := hide (HSAa.out.below hbb2); have HSBb := hide (HSBa.out.below hbb2); clear hbb2 hcb hvb)
        | (go_at_call 13; refine (HDE.out w9 (HUP.out w9 (HW5.out w9 HC9.out)) r8 (closeL f s8) HV9.out (HCLO.out s8)).mono ?_; rintro e wa ⟨ra, rfl, hoa, hba⟩; obtain ⟨Ad, cd, md, rfl, hof⟩ := rofOw hoa (HZL.out _).1 (HZL.out _).2; have HOF := hide hof; have hca := HC9.out.trans (hba.mono HC9.out.size); have HCa := hide hca; have HSAa := hide (HSA9.out.below hba); have HSBa := hide (HSB9.out.below hba); clear hoa hba hca hof)
        | (go_at_call 11; refine (rholdsV HSA8.out HV8.out hOK1.out (HCLO.out s8) HQ8.out.1).mono ?_; rintro e w9 ⟨rfl, hb9⟩; have hc9 := HC8.out.trans (hb9.mono HC8.out.size); obtain ⟨y0, y1, y2, y3, y4⟩ := HK5.out w9 (HW5.out w9 hc9); have HC9 := hide hc9; have HSA9 := hide (HSA8.out.below hb9); have HSB9 := hide (HSB8.out.below hb9); have HV9 := hide (HV8.out.below hb9); clear hb9 hc9))
      obtain ⟨c0, c1, c2, c3, c4⟩ := qc
      have di := HDC.out wc (HUP.out wc (HW5.out wc HCc.out))
      obtain ⟨g0, g1, g2, g3, g4, g5, g6⟩ := HGC.out wc HCc.out
      go_region_held3 (fun w' => (w'.cell? ⟨h5, 0, none⟩ = some (.slice Ak lk ck) ∧ w'.cell? ⟨h5, 1, none⟩ = some (.slice Ab lb cb) ∧ w'.cell? ⟨h5, 2, none⟩ = some (.int .i64 fp) ∧ w'.cell? ⟨h5, 3, none⟩ = some (.int .i64 fr) ∧ w'.cell? ⟨h5, 4, none⟩ = some (.slice (some ⟨bb, ob, none⟩) ls cs)) ∧ w'.cell? ⟨bb, ob + at9, none⟩ = some (.slice (some ⟨bq, oq, none⟩) ll cl) ∧ w'.cell? ⟨bq, oq + j * 7, none⟩ = some (.int .i64 x.op) ∧ w'.cell? ⟨bq, oq + j * 7 + 1, none⟩ = some (.int .i64 x.d) ∧ w'.cell? ⟨bq, oq + j * 7 + 2, none⟩ = some (.int .i64 x.a) ∧ w'.cell? ⟨bq, oq + j * 7 + 3, none⟩ = some (.int .i64 x.b) ∧ w'.cell? ⟨bq, oq + j * 7 + 4, none⟩ = some (.int .i64 x.n) ∧ w'.cell? ⟨bq, oq + j * 7 + 5, none⟩ = some (.int .i64 x.m) ∧ w'.cell? ⟨bq, oq + j * 7 + 6, none⟩ = some (.slice Ax lx cx)) (first | go_keep | (exact qd))
        (first | (go_at_call 14; (first | refine (HST.out wc (HUP.out wc (HW5.out wc HCc.out)) x HXM.out _ (HXI.out wc HCc.out) _ _ S1 HGJ.out HSAc.out HSBc.out).mono ?_ | refine (HST.out _ (below_drewN (HUP.out wc (HW5.out wc HCc.out)) 1) x HXM.out _ (HXI.out _ (below_drewN HCc.out 1)) _ _ S1 HGJ.out HSAc.out HSBc.out).mono ?_); rintro e wd ⟨r1, r2, rfl, hw1, hw2, hbd⟩; have hcd : Below wi.heap.size wi wd := HCc.out.trans (Below.mono ⟨hbd.os, hbd.tape, hbd.output, hbd.size, hbd.block⟩ HCc.out.size); have qd := (And.intro (HK5.out wd (HW5.out wd hcd)) (And.intro (HDC.out wd (HUP.out wd (HW5.out wd hcd))) (HGC.out wd hcd))); have HCd := hide hcd; have HR1 := hide hw1.ws; have HR2 := hide hw2.ws; clear hw1 hw2 hbd hcd))
      rw [← HNX.out] at HR1 HR2
      go_wp2
      go_roundw
      case rel => exact ⟨_, _, j + 1, rfl, rfl, by have := HJL.out; omega, by go_num, HBJ.out.trans (HCd.out.mono hzi), HR1, HR2⟩
      case measure => have := HJL.out; simp [intOf]; omega
end Go.Proofs.YtehboglielnjbaaGreatDoor
