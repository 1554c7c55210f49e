/- The statement LoopEdges, walked: it answers true. Condition: no slice of the program is longer than any machine's memory. -/
import Derived.Test.YtlolgahaphmfoaaLU
import Derived.Test.YtlolgahaphmfoaaLS
set_option linter.unusedSimpArgs false
set_option linter.unusedVariables false
namespace Go.Proofs.Ytlolgahaphmfoaa
open Go.RowKit

set_option maxHeartbeats 4000000 in
set_option maxRecDepth 100000 in
theorem edges7_law (vp : Value) (p : List FunV) (w : World) (hp : FunsV w (· < w.heap.size) vp p) (hsz : progSize p) :
    Calls Try.prog 3 #[.agg #[vp]] w fun e w' => e = .returned (.bool true) ∧ Below w.heap.size w w' := by
  have HKP := hide (fun (W : World) (hW : Below w.heap.size w W) => hp.keep (up hW (Nat.le_refl _)) (fun _ h => h))
  have HOUT := hide (fun (W : World) (hW : Below w.heap.size w W) => out7_any vp p W w.heap.size hW.size (hp.keep (up hW (Nat.le_refl _)) (fun _ h => h)) hsz)
  have HALLOK := hide (fun h => @flowOk_of p h)
  obtain ⟨A, c, rfl, hpc, hpm⟩ := hp.open'
  obtain ⟨lp, hlp⟩ : ∃ lp, p.length = lp := ⟨_, rfl⟩
  have HLP := hide hlp
  rw [hlp] at HKP HOUT hpc ⊢
  clear hp hsz hlp
  go_enter Try.func3, Try.ntmps3
  go_upto_region 1 with (fail)
  obtain ⟨w0, hw0⟩ : ∃ w0, w0 = w.alloc (.cells #[.slice A lp c] 24) := ⟨_, rfl⟩
  have HX0 := hide (show Box w0 w.heap.size #[.slice A lp c] 24 by rw [hw0]; exact Box.new w _ _)
  have HB0 := hide (show Below w.heap.size w w0 by rw [hw0]; exact alloc1 w _)
  rw [← hw0]
  clear hw0
  go_upto_region 3 with (go_at_call 8; refine (alive7_any w0).mono ?_; rintro e w1 ⟨rfl, hb1⟩; have HX1 := hide (HX0.out.below hb1); have HC1 := hide (HB0.out.trans (hb1.mono HB0.out.size)); clear hb1)
  have x1 := (HX1.out.cell 0 (v := .slice A lp c) rfl).1
  have l1 := HX1.out.lt
  go_upto_region 5 with (go_at_call 9; refine (HOUT.out w1 HC1.out).mono ?_; rintro e w2 ⟨b1, rfl, hs2, hb2⟩; have HB2 := hide (HC1.out.trans (hb2.mono HC1.out.size)); have HX2 := hide (HX1.out.below hb2); have HS2 := hide hs2; clear x1 hb2 hs2)
  all_goals try (go_ret; exact ⟨rfl, HB2.out⟩)
  have hb1f : b1 = false := by assumption
  subst hb1f
  have HOKS := hide (HALLOK.out (HS2.out.out rfl))
  clear HOUT HALLOK HS2 HC1 HX1 l1
  go_wp2
  go_loopw [3] (fun i wr => ∃ k : Nat, k ≤ lp ∧ i = .int .i64 k ∧ Below w2.heap.size w2 wr) (fun i _ => lp - (intOf i).toNat)
  case atStart => exact ⟨0, Nat.zero_le _, rfl, Below.refl _ _⟩
  case round =>
    obtain ⟨k, hk, rfl, hb'⟩ := hrel
    obtain ⟨wo, rfl⟩ : ∃ wo, wo = wr := ⟨_, rfl⟩
    have hszo := hb'.size
    have HBEL := hide (HB2.out.trans (hb'.mono HB2.out.size))
    have HXO := hide (HX2.out.below hb')
    have HBW := hide hb'
    have xp := (HXO.out.cell 0 (v := .slice A lp c) rfl).1
    have lxp := HXO.out.lt
    clear hb'
    by_cases hlt : k < lp
    case neg =>
      go_wp2
      go_ret
      exact ⟨rfl, HBEL.out⟩
    obtain ⟨f, hf⟩ : ∃ f, p[k]? = some f := ⟨_, List.getElem?_eq_getElem (by have := HLP.out; omega)⟩
    obtain ⟨b, o, Ak, ck, Ab, cb, As, cs, hA, hbb, ⟨e0, e1, e2, e3, e4⟩, hi⟩ := (HKP.out wo HBEL.out).get hf
    subst hA
    have hbs : b < wo.heap.size := by have := HBEL.out.size; omega
    obtain ⟨hok, hls1⟩ := HOKS.out f (List.mem_of_getElem? hf)
    have kI := fun (W : World) (hW : Below wo.heap.size wo W) => hi.keep (w := wo) (S := (· < w.heap.size)) (up hW HBEL.out.size) (fun _ h => h)
    obtain ⟨AL, hAL⟩ := AbvOf.ex HBEL.out.size hi hok hls1
    obtain ⟨ol, hol⟩ : ∃ o, OrderOf f o := by
      obtain ⟨o, ho, -⟩ := hAL
      exact ⟨o, ho⟩
    obtain ⟨pp, hpp⟩ : ∃ p : Int → Int → Bool, ∀ a b, p a b = true ↔ domQ AL a b := ⟨fun a b => @decide (domQ AL a b) (Classical.propDecidable _), fun a b => by simp⟩
    have hsW : ∀ W : World, Below wo.heap.size wo W → w.heap.size ≤ W.heap.size := fun W hW => by have := hW.size; have := HBEL.out.size; omega
    have hAL := hide hAL
    have hls40 := hok.1
    obtain ⟨hs, hhs⟩ := IsHeads.ex (backN f ol pp) f.blocks.length (fun u y hu => by obtain ⟨-, b, -, rfl, -, hb, -⟩ := back_nat hok hu; omega)
    have HTU := hide (fun (W : World) (hW : Below wo.heap.size wo W) => lturns_any _ _ _ f ol hol W w.heap.size (hsW W hW) (kI W hW) hok hls1)
    have HBK := hide (fun (W : World) (hW : Below wo.heap.size wo W) => lback_any _ _ _ f ol hol AL hAL.out pp hpp W w.heap.size (hsW W hW) (kI W hW) hok hls1)
    have HPL := hide (fun (W : World) (hW : Below wo.heap.size wo W) => lplain_any _ _ _ f ol hol AL hAL.out pp hpp W w.heap.size (hsW W hW) (kI W hW) hok hls1)
    have HHD := hide (fun (W : World) (hW : Below wo.heap.size wo W) => lheads_any _ _ _ f ol hol AL hAL.out pp hpp hs hhs W w.heap.size (hsW W hW) (kI W hW) hok hls1)
    have RTU := hide (fun (W : World) (hW : Below wo.heap.size wo W) => rturns_any _ _ _ f ol hol W w.heap.size (hsW W hW) (kI W hW) hok hls1)
    have RBK := hide (fun (W : World) (hW : Below wo.heap.size wo W) => rback_any _ _ _ f ol hol AL hAL.out pp hpp W w.heap.size (hsW W hW) (kI W hW) hok hls1)
    have RPL := hide (fun (W : World) (hW : Below wo.heap.size wo W) => rplain_any _ _ _ f ol hol AL hAL.out pp hpp W w.heap.size (hsW W hW) (kI W hW) hok hls1)
    have RHD := hide (fun (W : World) (hW : Below wo.heap.size wo W) => rheads_any _ _ _ f ol hol AL hAL.out pp hpp hs hhs W w.heap.size (hsW W hW) (kI W hW) hok hls1)
    have HIS := hide (fun (va vb : Value) (zs : List Int) (W : World) (B : Nat) (h1 : IntsV W (· < B) va zs) (h2 : IntsV W (· < B) vb zs) => (rints_any va vb zs zs W B h1 h2).mono (R' := fun e w' => e = .returned (.bool true) ∧ Below W.heap.size W w') (fun e w' ⟨q1, q, q2⟩ => ⟨by rw [q1]; simp, by rw [q2]; exact below_drewN (Below.refl _ _) q⟩))
    have hlt80 := turns_len (o := ol) hok
    have hlb80 := back_len (o := ol) (p := pp) hok
    have HRH := hide (show ∀ z ∈ hs, i64R z from fun z hz => by
      obtain ⟨x, rfl, hx⟩ := heads_nat hok hhs hz
      have := hok.1
      unfold i64R
      omega)
    obtain ⟨ts, hts⟩ : ∃ ts, turnsN f ol = ts := ⟨_, rfl⟩
    obtain ⟨bs, hbs'⟩ : ∃ bs, backN f ol pp = bs := ⟨_, rfl⟩
    rw [hts] at HTU RTU HPL RPL hlt80
    rw [hbs'] at HBK RBK HPL RPL hlb80
    obtain ⟨nt, hnt⟩ : ∃ n, ts.length = n := ⟨_, rfl⟩
    obtain ⟨nb, hnb⟩ : ∃ n, bs.length = n := ⟨_, rfl⟩
    have HNT := hide hnt
    have HNB := hide hnb
    rw [hnt] at HPL RPL hlt80
    rw [hnb] at HPL RPL hlb80
    obtain ⟨PB, hPB⟩ : ∃ b, decide (nt = nb) = b := ⟨_, rfl⟩
    rw [hPB] at HPL RPL
    have HSE1 := hide (fun (A1 A2 : Option Addr) (c1 c2 : Nat) (W : World) (h1 : EdgS W W.heap.size A1 ts) (h2 : EdgS W W.heap.size A2 ts) => (show Calls Try.prog 10 #[.slice A1 nt c1, .slice A2 nt c2] W fun e w' => e = .returned (.bool true) ∧ Below W.heap.size W w' by have h := sameEdges_yes A1 A2 c1 c2 ts W h1 h2 (by omega); rw [hnt] at h; exact h))
    have HSE2 := hide (fun (A1 A2 : Option Addr) (c1 c2 : Nat) (W : World) (h1 : EdgS W W.heap.size A1 bs) (h2 : EdgS W W.heap.size A2 bs) => (show Calls Try.prog 10 #[.slice A1 nb c1, .slice A2 nb c2] W fun e w' => e = .returned (.bool true) ∧ Below W.heap.size W w' by have h := sameEdges_yes A1 A2 c1 c2 bs W h1 h2 (by omega); rw [hnb] at h; exact h))
    generalize f.kinds.length = lk, f.base.length = lb, f.blocks.length = ls, f.params = fp, f.result = fr at *
    have hki : (0 : Int) ≤ (k : Int) := by omega
    have hkl : (k : Int) < (lp : Int) := by omega
    clear hi hf kI hok hol hsW hts hbs' hnt hnb hPB hpp hhs hlt80 hlb80
    go_upto_region 9 with (fail)
    obtain ⟨w5, hw5⟩ : ∃ w5, w5 = wo.alloc (.cells #[.slice Ak lk ck, .slice Ab lb cb, .int .i64 fp, .int .i64 fr, .slice As ls cs] 30) := ⟨_, rfl⟩
    obtain ⟨h5, hh5⟩ : ∃ h5, wo.heap.size = h5 := ⟨_, rfl⟩
    have HX5 := hide (show Box w5 h5 #[.slice Ak lk ck, .slice Ab lb cb, .int .i64 fp, .int .i64 fr, .slice As ls cs] 30 by rw [hw5, ← hh5]; exact Box.new wo _ _)
    have HB5 := hide (show Below wo.heap.size wo w5 by rw [hw5]; exact alloc1 wo _)
    rw [← hw5, hh5]
    clear hw5 hh5 e0 e1 e2 e3 e4 hbs xp lxp
    have l5 := HX5.out.lt
    have hz5 := HB5.out.size
    have HK5 := hide (fun (W : World) (hW : Below w5.heap.size w5 W) => And.intro ((HX5.out.below hW).cell 0 (v := .slice Ak lk ck) rfl).1 (And.intro ((HX5.out.below hW).cell 1 (v := .slice Ab lb cb) rfl).1 (And.intro ((HX5.out.below hW).cell 2 (v := .int .i64 fp) rfl).1 (And.intro ((HX5.out.below hW).cell 3 (v := .int .i64 fr) rfl).1 ((HX5.out.below hW).cell 4 (v := .slice As ls cs) rfl).1))))
    have HUP := hide (fun (W : World) (hW : Below w5.heap.size w5 W) => HB5.out.trans (hW.mono HB5.out.size))
    obtain ⟨c0, c1, c2, c3, c4⟩ := HK5.out w5 (Below.refl _ _)
    go_region_held3 (fun w' => w'.cell? ⟨h5, 0, none⟩ = some (.slice Ak lk ck) ∧ w'.cell? ⟨h5, 1, none⟩ = some (.slice Ab lb cb) ∧ w'.cell? ⟨h5, 2, none⟩ = some (.int .i64 fp) ∧ w'.cell? ⟨h5, 3, none⟩ = some (.int .i64 fr) ∧ w'.cell? ⟨h5, 4, none⟩ = some (.slice As ls cs)) (first | go_keep | (exact qwg) | (exact qwf) | (exact qwe) | (exact qwd) | (exact qwc) | (exact qwb) | (exact qwa) | (exact qw9) | (exact qw8) | (exact qw7) | (exact qw6))
      (first
        | (go_at_call 17; refine (HIS.out _ _ hs wf wf.heap.size HVe2.out HVf.out).mono ?_; rintro e wg ⟨rfl, hb⟩; have hc := HCwf.out.trans (hb.mono HCwf.out.size); have qwg := HK5.out wg hc; have HCwg := hide hc; have lwg := hc.size; clear hb hc)
        | (go_at_call 19; refine (RHD.out we (HUP.out we HCwe.out)).mono ?_; rintro e wf ⟨vf, rfl, ho, hb⟩; have hz := hb.size; have hc := HCwe.out.trans (hb.mono HCwe.out.size); have qwf := HK5.out wf hc; have HCwf := hide hc; have HVf := hide (ho.intsV HRH.out); have HVe2 := hide (HVe.out.keep (up hb (Nat.le_refl _)) (fun bb hh => by omega) : IntsV wf (· < wf.heap.size) ve hs); have lwf := hc.size; clear hb hc ho hz)
        | (go_at_call 18; refine (HHD.out wd (HUP.out wd HCwd.out)).mono ?_; rintro e we ⟨ve, rfl, ho, hb⟩; have hc := HCwd.out.trans (hb.mono HCwd.out.size); have qwe := HK5.out we hc; have HCwe := hide hc; have HVe := hide (ho.intsV HRH.out); have lwe := hc.size; clear hb hc ho)
        | (go_at_call 16; refine (RPL.out wc (HUP.out wc HCwc.out)).mono ?_; rintro e wd ⟨rfl, hb⟩; have hc := HCwc.out.trans (hb.mono HCwc.out.size); have qwd := HK5.out wd hc; have HCwd := hide hc; have lwd := hc.size; clear hb hc)
        | (go_at_call 15; refine (HPL.out wb (HUP.out wb HCwb.out)).mono ?_; rintro e wc ⟨rfl, hb⟩; have hc := HCwb.out.trans (hb.mono HCwb.out.size); have qwc := HK5.out wc hc; have HCwc := hide hc; have lwc := hc.size; clear hb hc)
        | (go_at_call 10; refine (HSE2.out Av9 Ava kv9 kva wa ((HSv9.out.below HPwa.out).more HPwa.out.size) HSva.out).mono ?_; rintro e wb ⟨rfl, hb⟩; have hc := HCwa.out.trans (hb.mono HCwa.out.size); have qwb := HK5.out wb hc; have HCwb := hide hc; have lwb := hc.size; clear hb hc)
        | (go_at_call 14; refine (RBK.out w9 (HUP.out w9 HCw9.out)).mono ?_; rintro e wa ⟨va, rfl, ho, hb⟩; obtain ⟨Ava, kva, hv, -, -, hs'⟩ := ho.sl; rw [HNB.out] at hv; have hc := HCw9.out.trans (hb.mono HCw9.out.size); have qwa := HK5.out wa hc; have HCwa := hide hc; have HSva := hide hs'; have HPwa := hide hb; have lwa := hc.size; subst hv; clear hb hc ho hs')
        | (go_at_call 13; refine (HBK.out w8 (HUP.out w8 HCw8.out)).mono ?_; rintro e w9 ⟨v9, rfl, ho, hb⟩; obtain ⟨Av9, kv9, hv, -, -, hs'⟩ := ho.sl; rw [HNB.out] at hv; have hc := HCw8.out.trans (hb.mono HCw8.out.size); have qw9 := HK5.out w9 hc; have HCw9 := hide hc; have HSv9 := hide hs'; have HPw9 := hide hb; have lw9 := hc.size; subst hv; clear hb hc ho hs')
        | (go_at_call 10; refine (HSE1.out Av6 Av7 kv6 kv7 w7 ((HSv6.out.below HPw7.out).more HPw7.out.size) HSv7.out).mono ?_; rintro e w8 ⟨rfl, hb⟩; have hc := HCw7.out.trans (hb.mono HCw7.out.size); have qw8 := HK5.out w8 hc; have HCw8 := hide hc; have lw8 := hc.size; clear hb hc)
        | (go_at_call 12; refine (RTU.out w6 (HUP.out w6 HCw6.out)).mono ?_; rintro e w7 ⟨v7, rfl, ho, hb⟩; obtain ⟨Av7, kv7, hv, -, -, hs'⟩ := ho.sl; rw [HNT.out] at hv; have hc := HCw6.out.trans (hb.mono HCw6.out.size); have qw7 := HK5.out w7 hc; have HCw7 := hide hc; have HSv7 := hide hs'; have HPw7 := hide hb; have lw7 := hc.size; subst hv; clear hb hc ho hs')
        | (go_at_call 11; refine (HTU.out _ (HUP.out _ (below_drewN (Below.refl _ _) 1))).mono ?_; rintro e w6 ⟨v6, rfl, ho, hb⟩; obtain ⟨Av6, kv6, hv, -, -, hs'⟩ := ho.sl; rw [HNT.out] at hv; have hc : Below w5.heap.size w5 w6 := ⟨hb.os, hb.tape, hb.output, hb.size, hb.block⟩; have qw6 := HK5.out w6 hc; have HCw6 := hide hc; have HSv6 := hide hs'; have lw6 := hc.size; subst hv; clear hb hc ho hs'))
    all_goals
      go_wp2
      go_roundw
      case rel => exact ⟨k + 1, by omega, by go_num, HBW.out.trans ((HUP.out wg HCwg.out).mono hszo)⟩
      case measure => simp [intOf]; omega
end Go.Proofs.Ytlolgahaphmfoaa
