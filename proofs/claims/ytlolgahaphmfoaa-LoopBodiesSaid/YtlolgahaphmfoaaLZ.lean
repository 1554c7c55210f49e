/- The statement LoopBodies, walked: it answers true. Condition: no slice of the program is longer than any machine's memory. -/
import Derived.Test.YtlolgahaphmfoaaLU
import Derived.Test.YtlolgahaphmfoaaLTd
set_option linter.unusedSimpArgs false
set_option linter.unusedVariables false
namespace Go.Proofs.Ytlolgahaphmfoaa
open Go.RowKit

set_option maxHeartbeats 4000000 in
set_option maxRecDepth 100000 in
theorem bodies7_law (vp : Value) (p : List FunV) (hz : Int) (w : World) (hp : FunsV w (· < w.heap.size) vp p) (hsz : progSize p) :
    Calls Try.prog 4 #[.agg #[vp], .int .i64 hz] w fun e w' => e = .returned (.bool true) ∧ Below w.heap.size w w' := by
  have HKP := hide (fun (W : World) (hW : Below w.heap.size w W) => hp.keep (up hW (Nat.le_refl _)) (fun _ h => h))
  have HOUT := hide (fun (W : World) (hW : Below w.heap.size w W) => out7_any vp p W w.heap.size hW.size (hp.keep (up hW (Nat.le_refl _)) (fun _ h => h)) hsz)
  have HALLOK := hide (fun h => @flowOk_of p h)
  obtain ⟨A, c, rfl, hpc, hpm⟩ := hp.open'
  obtain ⟨lp, hlp⟩ : ∃ lp, p.length = lp := ⟨_, rfl⟩
  have HLP := hide hlp
  rw [hlp] at HKP HOUT hpc ⊢
  clear hp hsz hlp
  go_enter Try.func4, Try.ntmps4
  go_upto_region 1 with (fail)
  obtain ⟨w0, hw0⟩ : ∃ w0, w0 = w.alloc (.cells #[.slice A lp c] 24) := ⟨_, rfl⟩
  have HX0 := hide (show Box w0 w.heap.size #[.slice A lp c] 24 by rw [hw0]; exact Box.new w _ _)
  have HB0 := hide (show Below w.heap.size w w0 by rw [hw0]; exact alloc1 w _)
  rw [← hw0]
  clear hw0
  go_upto_region 3 with (go_at_call 8; refine (alive7_any w0).mono ?_; rintro e w1 ⟨rfl, hb1⟩; have HX1 := hide (HX0.out.below hb1); have HC1 := hide (HB0.out.trans (hb1.mono HB0.out.size)); clear hb1)
  have x1 := (HX1.out.cell 0 (v := .slice A lp c) rfl).1
  have l1 := HX1.out.lt
  go_upto_region 5 with (go_at_call 9; refine (HOUT.out w1 HC1.out).mono ?_; rintro e w2 ⟨b1, rfl, hs2, hb2⟩; have HB2 := hide (HC1.out.trans (hb2.mono HC1.out.size)); have HX2 := hide (HX1.out.below hb2); have HS2 := hide hs2; clear x1 hb2 hs2)
  all_goals try (go_ret; exact ⟨rfl, HB2.out⟩)
  have hb1f : b1 = false := by assumption
  subst hb1f
  have HOKS := hide (HALLOK.out (HS2.out.out rfl))
  clear HOUT HALLOK HS2 HC1 HX1 l1
  go_wp2
  go_loopw [5] (fun i wr => ∃ k : Nat, k ≤ lp ∧ i = .int .i64 k ∧ Below w2.heap.size w2 wr) (fun i _ => lp - (intOf i).toNat)
  case atStart => exact ⟨0, Nat.zero_le _, rfl, Below.refl _ _⟩
  case round =>
    obtain ⟨k, hk, rfl, hb'⟩ := hrel
    obtain ⟨wo, rfl⟩ : ∃ wo, wo = wr := ⟨_, rfl⟩
    have hszo := hb'.size
    have HBEL := hide (HB2.out.trans (hb'.mono HB2.out.size))
    have HXO := hide (HX2.out.below hb')
    have HBW := hide hb'
    have xp := (HXO.out.cell 0 (v := .slice A lp c) rfl).1
    have lxp := HXO.out.lt
    clear hb'
    by_cases hlt : k < lp
    case neg =>
      go_wp2
      go_ret
      exact ⟨rfl, HBEL.out⟩
    obtain ⟨f, hf⟩ : ∃ f, p[k]? = some f := ⟨_, List.getElem?_eq_getElem (by have := HLP.out; omega)⟩
    obtain ⟨b, o, Ak, ck, Ab, cb, As, cs, hA, hbb, ⟨e0, e1, e2, e3, e4⟩, hi⟩ := (HKP.out wo HBEL.out).get hf
    subst hA
    have hbs : b < wo.heap.size := by have := HBEL.out.size; omega
    obtain ⟨hok, hls1⟩ := HOKS.out f (List.mem_of_getElem? hf)
    have kI := fun (W : World) (hW : Below wo.heap.size wo W) => hi.keep (w := wo) (S := (· < w.heap.size)) (up hW HBEL.out.size) (fun _ h => h)
    obtain ⟨AL, hAL⟩ := AbvOf.ex HBEL.out.size hi hok hls1
    obtain ⟨ol, hol⟩ : ∃ o, OrderOf f o := by
      obtain ⟨o, ho, -⟩ := hAL
      exact ⟨o, ho⟩
    obtain ⟨pp, hpp⟩ : ∃ p : Int → Int → Bool, ∀ a b, p a b = true ↔ domQ AL a b := ⟨fun a b => @decide (domQ AL a b) (Classical.propDecidable _), fun a b => by simp⟩
    have hsW : ∀ W : World, Below wo.heap.size wo W → w.heap.size ≤ W.heap.size := fun W hW => by have := hW.size; have := HBEL.out.size; omega
    have hAL := hide hAL
    have hls40 := hok.1
    obtain ⟨hs, hhs⟩ := IsHeads.ex (backN f ol pp) f.blocks.length (fun u y hu => by obtain ⟨-, b, -, rfl, -, hb, -⟩ := back_nat hok hu; omega)
    obtain ⟨BB, hBB⟩ := IsBody.ex f (backN f ol pp)
    have HBD := hide (fun (W : World) (hW : Below wo.heap.size wo W) (h : Int) => lbody_any _ _ _ f ol hol AL hAL.out pp hpp h (BB h) (hBB h) W w.heap.size (hsW W hW) (kI W hW) hok hls1)
    have HDP := hide (fun (W : World) (hW : Below wo.heap.size wo W) => ldeep_any _ _ _ f ol hol AL hAL.out pp hpp BB hBB hs hhs W w.heap.size (hsW W hW) (kI W hW) hok hls1)
    have RBD := hide (fun (W : World) (hW : Below wo.heap.size wo W) (h : Int) => rbody_any _ _ _ f ol hol AL hAL.out pp hpp h (BB h) (hBB h) W w.heap.size (hsW W hW) (kI W hW) hok hls1)
    have RDP := hide (fun (W : World) (hW : Below wo.heap.size wo W) => rdeep_any _ _ _ f ol hol AL hAL.out pp hpp BB hBB hs hhs W w.heap.size (hsW W hW) (kI W hW) hok hls1)
    have HIS := hide (fun (va vb : Value) (zs : List Int) (W : World) (B : Nat) (h1 : IntsV W (· < B) va zs) (h2 : IntsV W (· < B) vb zs) => (rints_any va vb zs zs W B h1 h2).mono (R' := fun e w' => e = .returned (.bool true) ∧ Below W.heap.size W w') (fun e w' ⟨q1, q, q2⟩ => ⟨by rw [q1]; simp, by rw [q2]; exact below_drewN (Below.refl _ _) q⟩))
    have HRB := hide (show ∀ z ∈ BB hz, i64R z from fun z hzm => by
      obtain ⟨x, rfl, hx⟩ := (hBB hz).nat hzm
      have := hok.1
      unfold i64R
      omega)
    have hhl := heads_len hok hhs
    obtain ⟨nh, hnh⟩ : ∃ n, hs.length = n := ⟨_, rfl⟩
    rw [hnh] at hhl HDP RDP
    have hnh40 : nh ≤ 40 := by omega
    have HDR := hide (fun b => Nat.le_trans (dpT_le hs BB nh 0 b) (show nh + 1 ≤ 1000000 by omega))
    have HBD1 := hide (fun (W : World) (hW : Below wo.heap.size wo W) => HBD.out W hW hz)
    have RBD1 := hide (fun (W : World) (hW : Below wo.heap.size wo W) => RBD.out W hW hz)
    obtain ⟨bl, hbl⟩ : ∃ bl, BB hz = bl := ⟨_, rfl⟩
    rw [hbl] at HBD1 RBD1 HRB
    generalize f.kinds.length = lk, f.base.length = lb, f.blocks.length = ls, f.params = fp, f.result = fr at *
    have hki : (0 : Int) ≤ (k : Int) := by omega
    have hkl : (k : Int) < (lp : Int) := by omega
    clear hi hf kI hok hol hsW hnh hpp hhs hBB hAL hbl HBD RBD
    go_upto_region 9 with (fail)
    obtain ⟨w5, hw5⟩ : ∃ w5, w5 = wo.alloc (.cells #[.slice Ak lk ck, .slice Ab lb cb, .int .i64 fp, .int .i64 fr, .slice As ls cs] 30) := ⟨_, rfl⟩
    obtain ⟨h5, hh5⟩ : ∃ h5, wo.heap.size = h5 := ⟨_, rfl⟩
    have HX5 := hide (show Box w5 h5 #[.slice Ak lk ck, .slice Ab lb cb, .int .i64 fp, .int .i64 fr, .slice As ls cs] 30 by rw [hw5, ← hh5]; exact Box.new wo _ _)
    have HB5 := hide (show Below wo.heap.size wo w5 by rw [hw5]; exact alloc1 wo _)
    rw [← hw5, hh5]
    clear hw5 hh5 e0 e1 e2 e3 e4 hbs xp lxp
    have l5 := HX5.out.lt
    have hz5 := HB5.out.size
    have HK5 := hide (fun (W : World) (hW : Below w5.heap.size w5 W) => And.intro ((HX5.out.below hW).cell 0 (v := .slice Ak lk ck) rfl).1 (And.intro ((HX5.out.below hW).cell 1 (v := .slice Ab lb cb) rfl).1 (And.intro ((HX5.out.below hW).cell 2 (v := .int .i64 fp) rfl).1 (And.intro ((HX5.out.below hW).cell 3 (v := .int .i64 fr) rfl).1 ((HX5.out.below hW).cell 4 (v := .slice As ls cs) rfl).1))))
    have HUP := hide (fun (W : World) (hW : Below w5.heap.size w5 W) => HB5.out.trans (hW.mono HB5.out.size))
    obtain ⟨c0, c1, c2, c3, c4⟩ := HK5.out w5 (Below.refl _ _)
    go_region_held3 (fun w' => w'.cell? ⟨h5, 0, none⟩ = some (.slice Ak lk ck) ∧ w'.cell? ⟨h5, 1, none⟩ = some (.slice Ab lb cb) ∧ w'.cell? ⟨h5, 2, none⟩ = some (.int .i64 fp) ∧ w'.cell? ⟨h5, 3, none⟩ = some (.int .i64 fr) ∧ w'.cell? ⟨h5, 4, none⟩ = some (.slice As ls cs)) (first | go_keep | (exact qb) | (exact qa) | (exact q9) | (exact q8) | (exact q7) | (exact q6))
      (first
        | (go_at_call 17; refine (HIS.out _ _ _ wa wa.heap.size HT9b.out HTa.out).mono ?_; rintro e wb ⟨rfl, hb⟩; have hc := HCa.out.trans (hb.mono HCa.out.size); have qb := HK5.out wb hc; have HCb := hide hc; clear hb hc)
        | (go_at_call 23; refine (RDP.out w9 (HUP.out w9 HC9.out)).mono ?_; rintro e wa ⟨ga, rfl, hd, -, hb⟩; have hc := HC9.out.trans (hb.mono HC9.out.size); have qa := HK5.out wa hc; have HCa := hide hc; have HTa := hide (hd.ints (by omega) HDR.out); have HT9b := hide ((HT9.out.below hb).ints (by omega) HDR.out); clear hb hc hd)
        | (go_at_call 22; refine (HDP.out w8 (HUP.out w8 HC8.out)).mono ?_; rintro e w9 ⟨g9, rfl, hd, -, hb⟩; have hc := HC8.out.trans (hb.mono HC8.out.size); have q9 := HK5.out w9 hc; have HC9 := hide hc; have HT9 := hide hd; clear hb hc hd)
        | (go_at_call 17; refine (HIS.out _ _ bl w7 w7.heap.size HV6b.out HV7.out).mono ?_; rintro e w8 ⟨rfl, hb⟩; have hc := HC7.out.trans (hb.mono HC7.out.size); have q8 := HK5.out w8 hc; have HC8 := hide hc; clear hb hc)
        | (go_at_call 21; refine (RBD1.out w6 (HUP.out w6 HC6.out)).mono ?_; rintro e w7 ⟨v7, rfl, ho, hb⟩; have hzz := hb.size; have hc := HC6.out.trans (hb.mono HC6.out.size); have q7 := HK5.out w7 hc; have HC7 := hide hc; have HV7 := hide (ho.intsV HRB.out); have HV6b := hide (HV6.out.keep (up hb (Nat.le_refl _)) (fun bb hh => by omega) : IntsV w7 (· < w7.heap.size) v6 bl); clear hb hc ho hzz)
        | (go_at_call 20; refine (HBD1.out _ (HUP.out _ (below_drewN (Below.refl _ _) 1))).mono ?_; rintro e w6 ⟨v6, rfl, ho, hb⟩; have hc : Below w5.heap.size w5 w6 := ⟨hb.os, hb.tape, hb.output, hb.size, hb.block⟩; have q6 := HK5.out w6 hc; have HC6 := hide hc; have HV6 := hide (ho.intsV HRB.out); clear hb hc ho))
    all_goals
      go_wp2
      go_roundw
      case rel => exact ⟨k + 1, by omega, by go_num, HBW.out.trans ((HUP.out wb HCb.out).mono hszo)⟩
      case measure => simp [intOf]; omega
end Go.Proofs.Ytlolgahaphmfoaa
