/- The statement LoopRound, walked: it answers true. Condition: no slice of the program is longer than any machine's memory. -/
import Derived.Test.YtlolgahaphmfoaaLU
import Derived.BigQuiet
set_option linter.unusedSimpArgs false
set_option linter.unusedVariables false
namespace Go.Proofs.Ytlolgahaphmfoaa
open Go.RowKit

theorem EdgS.butLt {w w' : World} {B g : Nat} {A : Option Addr} {es : List (Int × Int)} (h : EdgS w B A es) (hb : But g w w') (hB : B ≤ w.heap.size) (hg : B ≤ g) : EdgS w' B A es := fun hp => by
  obtain ⟨b, o, e, hbb, hc⟩ := h hp
  have h1 : w'.heap[b]? = w.heap[b]? := hb.block b (by omega) (by omega)
  exact ⟨b, o, e, hbb, fun j p hj => ⟨(World.cell?_of_block (a := ⟨b, o + j * 2, none⟩) h1).trans (hc j p hj).1, (World.cell?_of_block (a := ⟨b, o + j * 2 + 1, none⟩) h1).trans (hc j p hj).2⟩⟩
theorem But.dr {g : Nat} {w w' : World} (h : But g w w') (n : Nat) : But g w (w'.drewN n) := ⟨h.os, h.tape, h.output, h.size, h.block⟩
def RdL (w10 : World) (g : Nat) (f : FunV) (ol : List Int) (t b : Nat) (wr : World) : Prop := ∃ m, MB wr g m ∧ But g w10 wr ∧ FallI f ol t b m
theorem MB.setv {w : World} {bm : Nat} {m : List Bool} (h : MB w bm m) (y : Nat) (v : Bool) : MB (w.setCell ⟨bm, y, none⟩ (.bool v)) bm (m.set y v) := by
  have := Box.set h y (.bool v)
  unfold MB
  rw [List.map_set]
  simpa using this
theorem mem_takeE {es : List (Int × Int)} {k : Nat} {e y : Int × Int} {r : Bool} (hr : r = true ↔ e ∈ es.take k) (hy : es[k]? = some y) : ((r || (y.1 == e.1 && y.2 == e.2)) = true ↔ e ∈ es.take (k + 1)) := by
  rw [take_snocE hy, List.mem_append, Bool.or_eq_true, hr, Bool.and_eq_true, beq_iff_eq, beq_iff_eq]
  constructor
  · rintro (h1 | ⟨h1, h2⟩)
    · exact .inl h1
    · exact .inr (by obtain ⟨a, b⟩ := e; obtain ⟨c, d⟩ := y; simp only at h1 h2; simp [h1, h2])
  · rintro (h1 | h1)
    · exact .inl h1
    · simp at h1; subst h1; exact .inr ⟨rfl, rfl⟩
set_option maxHeartbeats 4000000 in
set_option maxRecDepth 100000 in
theorem round7_law (vp : Value) (p : List FunV) (w : World) (hp : FunsV w (· < w.heap.size) vp p) (hsz : progSize p) :
    Calls Try.prog 5 #[.agg #[vp]] w fun e w' => e = .returned (.bool true) ∧ Below w.heap.size w w' := by
  have HKP := hide (fun (W : World) (hW : Below w.heap.size w W) => hp.keep (up hW (Nat.le_refl _)) (fun _ h => h))
  have HOUT := hide (fun (W : World) (hW : Below w.heap.size w W) => out7_any vp p W w.heap.size hW.size (hp.keep (up hW (Nat.le_refl _)) (fun _ h => h)) hsz)
  have HALLOK := hide (fun h => @flowOk_of p h)
  obtain ⟨A, c, rfl, hpc, hpm⟩ := hp.open'
  obtain ⟨lp, hlp⟩ : ∃ lp, p.length = lp := ⟨_, rfl⟩
  have HLP := hide hlp
  rw [hlp] at HKP HOUT hpc ⊢
  clear hp hsz hlp
  go_enter Try.func5, Try.ntmps5
  go_upto_region 1 with (fail)
  obtain ⟨w0, hw0⟩ : ∃ w0, w0 = w.alloc (.cells #[.slice A lp c] 24) := ⟨_, rfl⟩
  have HX0 := hide (show Box w0 w.heap.size #[.slice A lp c] 24 by rw [hw0]; exact Box.new w _ _)
  have HB0 := hide (show Below w.heap.size w w0 by rw [hw0]; exact alloc1 w _)
  rw [← hw0]
  clear hw0
  go_upto_region 3 with (go_at_call 8; refine (alive7_any w0).mono ?_; rintro e w1 ⟨rfl, hb1⟩; have HX1 := hide (HX0.out.below hb1); have HC1 := hide (HB0.out.trans (hb1.mono HB0.out.size)); clear hb1)
  have x1 := (HX1.out.cell 0 (v := .slice A lp c) rfl).1
  have l1 := HX1.out.lt
  go_upto_region 5 with (go_at_call 9; refine (HOUT.out w1 HC1.out).mono ?_; rintro e w2 ⟨b1, rfl, hs2, hb2⟩; have HB2 := hide (HC1.out.trans (hb2.mono HC1.out.size)); have HX2 := hide (HX1.out.below hb2); have HS2 := hide hs2; clear x1 hb2 hs2)
  all_goals try (go_ret; exact ⟨rfl, HB2.out⟩)
  have hb1f : b1 = false := by assumption
  subst hb1f
  have HOKS := hide (HALLOK.out (HS2.out.out rfl))
  clear HOUT HALLOK HS2 HC1 HX1 l1
  go_wp2
  go_loopw [3] (fun i wr => ∃ k : Nat, k ≤ lp ∧ i = .int .i64 k ∧ Below w2.heap.size w2 wr) (fun i _ => lp - (intOf i).toNat)
  case atStart => exact ⟨0, Nat.zero_le _, rfl, Below.refl _ _⟩
  case round =>
    obtain ⟨k, hk, rfl, hb'⟩ := hrel
    obtain ⟨wo, rfl⟩ : ∃ wo, wo = wr := ⟨_, rfl⟩
    have hszo := hb'.size
    have HBEL := hide (HB2.out.trans (hb'.mono HB2.out.size))
    have HXO := hide (HX2.out.below hb')
    have HBW := hide hb'
    have xp := (HXO.out.cell 0 (v := .slice A lp c) rfl).1
    have lxp := HXO.out.lt
    clear hb'
    by_cases hlt : k < lp
    case neg =>
      go_wp2
      go_ret
      exact ⟨rfl, HBEL.out⟩
    obtain ⟨f, hf⟩ : ∃ f, p[k]? = some f := ⟨_, List.getElem?_eq_getElem (by have := HLP.out; omega)⟩
    obtain ⟨b, o, Ak, ck, Ab, cb, As, cs, hA, hbb, ⟨e0, e1, e2, e3, e4⟩, hi⟩ := (HKP.out wo HBEL.out).get hf
    subst hA
    have hbs : b < wo.heap.size := by have := HBEL.out.size; omega
    obtain ⟨hok, hls1⟩ := HOKS.out f (List.mem_of_getElem? hf)
    have kI := fun (W : World) (hW : Below wo.heap.size wo W) => hi.keep (w := wo) (S := (· < w.heap.size)) (up hW HBEL.out.size) (fun _ h => h)
    obtain ⟨AL, hAL⟩ := AbvOf.ex HBEL.out.size hi hok hls1
    obtain ⟨ol, hol⟩ : ∃ o, OrderOf f o := by
      obtain ⟨o, ho, -⟩ := hAL
      exact ⟨o, ho⟩
    obtain ⟨pp, hpp⟩ : ∃ p : Int → Int → Bool, ∀ a b, p a b = true ↔ domQ AL a b := ⟨fun a b => @decide (domQ AL a b) (Classical.propDecidable _), fun a b => by simp⟩
    have hsW : ∀ W : World, Below wo.heap.size wo W → w.heap.size ≤ W.heap.size := fun W hW => by have := hW.size; have := HBEL.out.size; omega
    have hAL := hide hAL
    have hls40 := hok.1
    obtain ⟨BB, hBB⟩ := IsBody.ex f (backN f ol pp)
    have HTU := hide (fun (W : World) (hW : Below wo.heap.size wo W) => lturns_any _ _ _ f ol hol W w.heap.size (hsW W hW) (kI W hW) hok hls1)
    have HBK := hide (fun (W : World) (hW : Below wo.heap.size wo W) => lback_any _ _ _ f ol hol AL hAL.out pp hpp W w.heap.size (hsW W hW) (kI W hW) hok hls1)
    have HBD := hide (fun (W : World) (hW : Below wo.heap.size wo W) (h : Int) => lbody_any _ _ _ f ol hol AL hAL.out pp hpp h (BB h) (hBB h) W w.heap.size (hsW W hW) (kI W hW) hok hls1)
    have HW0 := hide (fun (W : World) (hW : Below wo.heap.size wo W) => (rwithinZ_any _ _ _ f (-1) 0 (by omega) W w.heap.size (hsW W hW) (kI W hW) hok hls1).mono (R' := fun e w' => ∃ bm m, e = .returned (.slice (some ⟨bm, 0, none⟩) f.blocks.length f.blocks.length) ∧ MB w' bm m ∧ m.length = f.blocks.length ∧ (∀ x : Nat, metB m (x : Int) = true ↔ (x : Int) ∈ ol) ∧ Below W.heap.size W w') (fun e w' ⟨bm, m, h1', h2, h3, ⟨h4, h5⟩, h6⟩ => ⟨bm, m, h1', h3, h4.len, fun x => by
      rw [within_rch hok hls1 hol h4 h5]
      exact ⟨fun ⟨o', ho', hx⟩ => by rw [hol.one ho']; exact hx, fun hx => ⟨ol, hol, hx⟩⟩, h6⟩))
    have HEX := hide (fun (W : World) (hW : Below wo.heap.size wo W) => redges_any _ _ _ f W w.heap.size (hsW W hW) (kI W hW) hok)
    have HDM := hide (fun (W : World) (hW : Below wo.heap.size wo W) (a b : Int) (hd : domQ AL a b) => (ddom_any _ _ _ f AL hAL.out a b W w.heap.size (hsW W hW) (kI W hW) hok hls1).mono (R' := fun e w' => e = .returned (.bool true) ∧ Below W.heap.size W w') (fun e w' ⟨d, q1, q2, q3⟩ => ⟨by rw [q1, q2.2 hd], q3⟩))
    have HRO := hide (order_reach hok hls1 hol)
    have hol40 := order_len hok hls1 hol
    have HOLL := hide (show ol.length ≤ f.blocks.length from nodup_len (order_reach hok hls1 hol).nod (order_reach hok hls1 hol).rng)
    have HON := hide (fun e he hb hn => @edge_on f ol (order_reach hok hls1 hol) e he hb hn)
    have HENAT := hide (fun (x v : Int) (h : (x, v) ∈ edgesN f) => (show ∃ a b : Nat, x = a ∧ v = b ∧ b < f.blocks.length by
      obtain ⟨a, rfl, ha, hv⟩ := edges_nat' h
      have := hok.2.2 a v hv
      exact ⟨a, v.toNat, rfl, by omega, by omega⟩))
    have HBT := hide (fun e (he : e ∈ backN f ol pp) => (back_mem.1 he).1)
    have HHD := hide (fun (e : Int × Int) (he : e ∈ backN f ol pp) (y : Int) (hy : y ∈ BB e.2) => (show domQ AL e.2 y by
      obtain ⟨u, h⟩ := e
      obtain ⟨-, b, -, rfl, -⟩ := back_nat hok he
      obtain ⟨x, rfl, -, hl⟩ := ((hBB _).2 y).1 hy
      exact head_dom hok hls1 hAL.out hpp hl))
    have HLB := hide (fun h => (show (BB h).length ≤ f.blocks.length from (hBB h).len))
    have hlt80 := turns_len (o := ol) hok
    have hlb80 := back_len (o := ol) (p := pp) hok
    have hle80 := edgesN_len hok
    have HF0 := hide (FallI.start f ol)
    have HFP := hide (fun (t b : Nat) (m : List Bool) (h : FallI f ol t b m) (hb : b < f.blocks.length) (v : Bool) hv hf => h.put hb (v := v) hv hf)
    have HFT := hide (fun (t b : Nat) (m : List Bool) (h : FallI f ol t b m) (hb : f.blocks.length ≤ b) => h.turn (order_reach hok hls1 hol).rng hb)
    have HFL := hide (fun (t b : Nat) (m : List Bool) (h : FallI f ol t b m) => (show m.length = f.blocks.length from h.len))
    obtain ⟨ts, hts⟩ : ∃ ts, turnsN f ol = ts := ⟨_, rfl⟩
    obtain ⟨bs, hbs'⟩ : ∃ bs, backN f ol pp = bs := ⟨_, rfl⟩
    obtain ⟨es, hes⟩ : ∃ es, edgesN f = es := ⟨_, rfl⟩
    rw [hts] at HTU HON HBT hlt80
    rw [hbs'] at HBK HBT HHD hlb80
    rw [hes] at HEX HON HENAT hle80
    obtain ⟨nt, hnt⟩ : ∃ n, ts.length = n := ⟨_, rfl⟩
    obtain ⟨nb, hnb⟩ : ∃ n, bs.length = n := ⟨_, rfl⟩
    obtain ⟨ne, hne⟩ : ∃ n, es.length = n := ⟨_, rfl⟩
    have HNT := hide hnt
    have HNB := hide hnb
    have HNE := hide hne
    rw [hnt] at hlt80
    rw [hnb] at hlb80
    rw [hne] at hle80
    have hmake : ∀ W : World, (Instr.makeSlice 39 (.int .i64 (f.blocks.length : Int)) (.int .i64 (f.blocks.length : Int))).run Try.prog W = .ok (.slice (some ⟨W.heap.size, 0, none⟩) f.blocks.length f.blocks.length) (W.alloc (.cells (madeCells (Value.bool false).cells (f.blocks.length * 1)) 4)) := fun W => mk_run 39 4 Try.underlying39 info_bool (by omega) f.blocks.length (by omega) W
    obtain ⟨mc, hmc⟩ : ∃ mc, madeCells (Value.bool false).cells (f.blocks.length * 1) = mc := ⟨_, rfl⟩
    rw [hmc] at hmake
    have HMC := hide (show mc = ((List.replicate f.blocks.length false).map Value.bool).toArray by rw [← hmc]; exact madeCells_bool _)
    obtain ⟨ls, hlse⟩ : ∃ ls, f.blocks.length = ls := ⟨_, rfl⟩
    have HLSE := hide hlse
    rw [hlse] at hls40 hmake HMC e4 HTU HBK HBD HW0 HEX HDM HENAT HLB HOLL
    generalize f.kinds.length = lk, f.base.length = lb, f.params = fp, f.result = fr at *
    clear hlse
    have hki : (0 : Int) ≤ (k : Int) := by omega
    have hkl : (k : Int) < (lp : Int) := by omega
    clear hi hf kI hok hol hsW hpp hBB hAL hts hbs' hes hnt hnb hne hmc hls1
    go_upto_region 9 with (fail)
    obtain ⟨w5, hw5⟩ : ∃ w5, w5 = wo.alloc (.cells #[.slice Ak lk ck, .slice Ab lb cb, .int .i64 fp, .int .i64 fr, .slice As ls cs] 30) := ⟨_, rfl⟩
    obtain ⟨h5, hh5⟩ : ∃ h5, wo.heap.size = h5 := ⟨_, rfl⟩
    have HX5 := hide (show Box w5 h5 #[.slice Ak lk ck, .slice Ab lb cb, .int .i64 fp, .int .i64 fr, .slice As ls cs] 30 by rw [hw5, ← hh5]; exact Box.new wo _ _)
    have HB5 := hide (show Below wo.heap.size wo w5 by rw [hw5]; exact alloc1 wo _)
    rw [← hw5, hh5]
    clear hw5 hh5 e0 e1 e2 e3 e4 hbs xp lxp
    have l5 := HX5.out.lt
    have hz5 := HB5.out.size
    have HK5 := hide (fun (W : World) (hW : Below w5.heap.size w5 W) => And.intro ((HX5.out.below hW).cell 0 (v := .slice Ak lk ck) rfl).1 (And.intro ((HX5.out.below hW).cell 1 (v := .slice Ab lb cb) rfl).1 (And.intro ((HX5.out.below hW).cell 2 (v := .int .i64 fp) rfl).1 (And.intro ((HX5.out.below hW).cell 3 (v := .int .i64 fr) rfl).1 ((HX5.out.below hW).cell 4 (v := .slice As ls cs) rfl).1))))
    have HUP := hide (fun (W : World) (hW : Below w5.heap.size w5 W) => HB5.out.trans (hW.mono HB5.out.size))
    obtain ⟨c0, c1, c2, c3, c4⟩ := HK5.out w5 (Below.refl _ _)
    go_region_held3 (fun w' => w'.cell? ⟨h5, 0, none⟩ = some (.slice Ak lk ck) ∧ w'.cell? ⟨h5, 1, none⟩ = some (.slice Ab lb cb) ∧ w'.cell? ⟨h5, 2, none⟩ = some (.int .i64 fp) ∧ w'.cell? ⟨h5, 3, none⟩ = some (.int .i64 fr) ∧ w'.cell? ⟨h5, 4, none⟩ = some (.slice As ls cs)) (first | go_keep | (exact q7) | (exact q6))
      (first
        | (go_at_call 13; refine (HBK.out w6 (HUP.out w6 HC6.out)).mono ?_; rintro e w7 ⟨v7, rfl, ho7, hb7⟩; obtain ⟨A7, k7, hv7, hle7, hme7, hs7⟩ := ho7.sl; rw [HNB.out] at hv7; have hc7 := HC6.out.trans (hb7.mono HC6.out.size); have q7 := HK5.out w7 hc7; have HC7 := hide hc7; have HS7 := hide hs7; have HS67 := hide ((HS6.out.below hb7).more hb7.size); have hz7 := hc7.size; subst hv7; clear hb7 hc7 ho7 hle7 hme7 hs7)
        | (go_at_call 11; refine (HTU.out _ (HUP.out _ (below_drewN (Below.refl _ _) 1))).mono ?_; rintro e w6 ⟨v6, rfl, ho6, hb6⟩; obtain ⟨A6, k6, hv6, hle6, hme6, hs6⟩ := ho6.sl; rw [HNT.out] at hv6; have hc6 : Below w5.heap.size w5 w6 := ⟨hb6.os, hb6.tape, hb6.output, hb6.size, hb6.block⟩; have q6 := HK5.out w6 hc6; have HC6 := hide hc6; have HS6 := hide hs6; have hz6 := hc6.size; subst hv6; clear hb6 hc6 ho6 hle6 hme6 hs6))
    all_goals
      clear c0 c1 c2 c3 c4 q6 q7
      obtain ⟨c0, c1, c2, c3, c4⟩ := HK5.out w7 HC7.out
      have l7 : h5 < w7.heap.size := by omega
      go_upto_region 11 with (go_at_call 24; refine (HW0.out w7 (HUP.out w7 HC7.out)).mono ?_; rintro e w8 ⟨bm0, m0, rfl, hm0, hml0, hmr0, hb8⟩; have HM8 := hide hm0; have HML0 := hide hml0; have HMR0 := hide hmr0; have HB8 := hide hb8; clear hm0 hml0 hmr0 hb8)
      have hz8 := HB8.out.size
      have HC8 := hide (HC7.out.trans (HB8.out.mono hz7))
      clear c0 c1 c2 c3 c4 l7
      obtain ⟨c0, c1, c2, c3, c4⟩ := HK5.out w8 HC8.out
      have l8 : h5 < w8.heap.size := by omega
      go_upto_region 12 with (fail)
      obtain ⟨w9, hw9⟩ : ∃ w9, w9 = w8.alloc (.cells mc 4) := ⟨_, rfl⟩
      obtain ⟨g, hg⟩ : ∃ g, w8.heap.size = g := ⟨_, rfl⟩
      have HM9 := hide (show MB w9 g (List.replicate ls false) by unfold MB; rw [hw9, ← hg, ← HMC.out]; exact Box.new w8 _ _)
      have HA9 := hide (show Below w8.heap.size w8 w9 by rw [hw9]; exact alloc1 w8 _)
      have HC9 := hide (HC8.out.trans (HA9.out.mono HC8.out.size))
      have hwg : wo.heap.size ≤ g := by omega
      have hz9 : g < w9.heap.size ∧ w9.heap.size ≤ g + 1 := by rw [hw9, World.size_alloc, hg]; omega
      have hg7 : w7.heap.size ≤ g := by omega
      have hg8 : w8.heap.size ≤ g ∧ g ≤ w8.heap.size := by omega
      rw [← hw9, hg]
      clear hw9 hg hmake HMC c0 c1 c2 c3 c4 l8
      obtain ⟨c0, c1, c2, c3, c4⟩ := HK5.out w9 HC9.out
      have l9 : h5 < w9.heap.size := by omega
      go_wp2_with (go_at_call 25; refine (HEX.out w9 (HUP.out w9 HC9.out)).mono ?_; rintro e w10 ⟨v10, rfl, ho10, hb10⟩; obtain ⟨A10, k10, hv10, -, -, hs10⟩ := ho10.sl; rw [HNE.out] at hv10; have HS10 := hide hs10; have HB10 := hide hb10; have HA10 := hide (show ∀ b o', A10 = some ⟨b, o', none⟩ → g + 1 ≤ b from fun b o' e => (by have h1 := (World.ownsRow.lt ho10 b (by rw [hv10, e]; rfl)).1; omega)); subst hv10; clear hb10 ho10 hs10)
      clear c0 c1 c2 c3 c4 l9
      have hz10 := HB10.out.size
      have HC10 := hide (HC9.out.trans (HB10.out.mono HC9.out.size))
      have HX10 := hide (HX5.out.below HC10.out)
      have HST := hide ((((HS67.out.below HB8.out).below (HA9.out.mono (by omega))).below (HB10.out.mono (by omega))) : EdgS w10 w7.heap.size A6 ts)
      have HSB := hide ((((HS7.out.below HB8.out).below (HA9.out.mono (by omega))).below (HB10.out.mono (by omega))) : EdgS w10 w7.heap.size A7 bs)
      have HMR := hide (show MB w10 bm0 m0 from Box.below (Box.below HM8.out HA9.out) HB10.out)
      have HMG := hide (show MB w10 g (List.replicate ls false) from Box.below HM9.out HB10.out)
      have hbm0 : bm0 < g := by have := Box.lt HM8.out; omega
      have hg10 : g < w10.heap.size := by omega
      have HR0 := hide (show RdL w10 g f ol 0 0 w10 from ⟨_, HMG.out, But.refl _ _, by have h := HF0.out; rwa [HLSE.out] at h⟩)
      have HKW := hide (fun (wr : World) (hb : But g w10 wr) => (show Below wo.heap.size wo wr from hb.below (HUP.out w10 HC10.out) hwg (by omega)))
      have hgh : h5 ≠ g := by omega
      have HEG := hide (fun (wr : World) (hb : But g w10 wr) => (show EdgS wr w10.heap.size A10 es from HS10.out.but (Nat.le_refl _) hb HA10.out (Nat.lt_succ_self _)))
      have HTG := hide (fun (wr : World) (hb : But g w10 wr) => (show EdgS wr w7.heap.size A6 ts from HST.out.butLt hb (by omega) hg7))
      have HBG := hide (fun (wr : World) (hb : But g w10 wr) => (show EdgS wr w7.heap.size A7 bs from HSB.out.butLt hb (by omega) hg7))
      have hw7 : w7.heap.size ≤ w10.heap.size := by omega
      go_loopw [10] (fun i wr => ∃ t : Nat, t ≤ ls ∧ i = .int .i64 (t : Int) ∧ Hid (RdL w10 g f ol t 0 wr)) (fun i _ => ls - (intOf i).toNat)
      case atStart => exact ⟨0, Nat.zero_le _, rfl, HR0⟩
      case round =>
        obtain ⟨t, ht, rfl, hin⟩ := hrel
        obtain ⟨wt, rfl⟩ : ∃ wt, wt = wr := ⟨_, rfl⟩
        have HRT := hide hin.out
        obtain ⟨mt, hmt, hbt, hft⟩ := hin.out
        have HMT := hide hmt
        have HBT' := hide hbt
        have HFT0 := hide hft
        have HXT := hide (hbt.box HX10.out hgh)
        have hzt := hbt.size
        have c4 := (HXT.out.cell 4 (v := .slice As ls cs) rfl).1
        have lt := HXT.out.lt
        clear hin hmt hbt hft
        by_cases hltt : t < ls
        case neg =>
          have htl : t = ls := by omega
          have HALLM := hide (fun (c : Nat) (hc : (c : Int) ∈ ol) => (show metB mt (c : Int) = true from HFT0.out.all (by rw [htl]; exact HOLL.out) hc))
          have hmtl : mt.length = ls := by have h := HFT0.out.len; rwa [HLSE.out] at h
          have HMTL := hide hmtl
          clear htl hmtl
          go_wp2
          clear c4 lt
          go_loopw [16] (fun i wr => wr = wt ∧ ∃ b : Nat, b ≤ ls ∧ i = .int .i64 (b : Int)) (fun i _ => ls - (intOf i).toNat)
          case atStart => exact ⟨rfl, 0, Nat.zero_le _, rfl⟩
          case round =>
            obtain ⟨rfl, b, hb, rfl⟩ := hrel
            have c4 := (HXT.out.cell 4 (v := .slice As ls cs) rfl).1
            have lt := HXT.out.lt
            by_cases hltb : b < ls
            case pos =>
              have b1 : (0 : Int) ≤ (b : Int) := by omega
              have b2 : (b : Int) < (ls : Int) := by omega
              have r1 := ((show MB wr bm0 m0 from HBT'.out.box HMR.out (by omega)).cell (b := b) (by rw [HML0.out]; exact hltb)).1
              have r2 := (HMT.out.cell (b := b) (by rw [HMTL.out]; exact hltb)).1
              have lbm : bm0 < wr.heap.size := by omega
              have lg : g < wr.heap.size := by omega
              have HIM := hide (fun h : metB m0 (b : Int) = true => HALLM.out b ((HMR0.out b).1 h))
              obtain ⟨rb, hrb⟩ : ∃ rb, metB m0 (b : Int) = rb := ⟨_, rfl⟩
              obtain ⟨tb, htb⟩ : ∃ tb, metB mt (b : Int) = tb := ⟨_, rfl⟩
              rw [hrb] at r1 HIM
              rw [htb] at r2 HIM
              clear hrb htb
              cases rb with
              | false =>
                go_wp2
                go_roundw
                case rel => exact ⟨(by first | rfl | trivial), b + 1, by omega, by go_num⟩
                case measure => simp [intOf]; omega
              | true =>
                have htt : tb = true := HIM.out rfl
                subst htt
                go_wp2
                go_roundw
                case rel => exact ⟨(by first | rfl | trivial), b + 1, by omega, by go_num⟩
                case measure => simp [intOf]; omega
            case neg =>
              obtain ⟨wl, rfl⟩ : ∃ wl, wl = wr := ⟨_, rfl⟩
              have HBL := hide (HKW.out wl HBT'.out)
              have HTL := hide (HTG.out wl HBT'.out)
              have HBSL := hide (HBG.out wl HBT'.out)
              have hw7l : w7.heap.size ≤ wl.heap.size := by omega
              have HXL := HXT
              go_wp2
              clear c4 lt
              go_loopw [17] (fun i wr => ∃ k' : Nat, k' ≤ nb ∧ i = .int .i64 (k' : Int) ∧ Below wl.heap.size wl wr) (fun i _ => nb - (intOf i).toNat)
              case atStart => exact ⟨0, Nat.zero_le _, rfl, Below.refl _ _⟩
              case round =>
                obtain ⟨kb, hkb, rfl, hbx⟩ := hrel
                obtain ⟨wx, rfl⟩ : ∃ wx, wx = wr := ⟨_, rfl⟩
                have HBX := hide hbx
                have hzx := hbx.size
                clear hbx
                by_cases hltk : kb < nb
                case neg =>
                  have HF := hide (HBW.out.trans ((HBL.out.trans (HBX.out.mono HBL.out.size)).mono hszo))
                  go_wp2
                  go_roundw
                  case rel => exact ⟨k + 1, by omega, by go_num, HF.out⟩
                  case measure => simp [intOf]; omega
                obtain ⟨y, hy⟩ : ∃ y, bs[kb]? = some y := ⟨_, List.getElem?_eq_getElem (by have := HNB.out; omega)⟩
                have HYM := hide (List.mem_of_getElem? hy)
                obtain ⟨bb, ob, hAb, hbb, hcb⟩ := HBSL.out (by have := HNB.out; omega)
                subst hAb
                obtain ⟨y1, y2⟩ := hcb kb y hy
                have HTM := hide (HBT.out y HYM.out)
                have HHY := hide (HHD.out y HYM.out)
                obtain ⟨ua, ub⟩ := y
                simp only at y1 y2 HHY
                have lbb : bb < wl.heap.size := by omega
                have HY1 := hide (fun (W : World) (hW : Below wl.heap.size wl W) => And.intro ((hW.cell (p := ⟨bb, ob + kb * 2, none⟩) lbb).trans y1) ((hW.cell (p := ⟨bb, ob + kb * 2 + 1, none⟩) lbb).trans y2))
                have k1 : (0 : Int) ≤ (kb : Int) := by omega
                have k2 : (kb : Int) < (nb : Int) := by omega
                clear hcb hbb hy y1 y2
                go_wp2
                go_loopw [18, 19] (fun x i wr => ∃ (r : Bool) (j : Nat), x = .bool r ∧ j ≤ nt ∧ i = .int .i64 (j : Int) ∧ Below wl.heap.size wl wr ∧ Hid (r = true ↔ (ua, ub) ∈ ts.take j)) (fun _ i _ => nt - (intOf i).toNat)
                case atStart => exact ⟨false, 0, rfl, Nat.zero_le _, rfl, HBX.out, hide (by simp)⟩
                case round =>
                  obtain ⟨r, j, rfl, hj, rfl, hby, hr⟩ := hrel
                  obtain ⟨wy, rfl⟩ : ∃ wy, wy = wr := ⟨_, rfl⟩
                  have HBY := hide hby
                  have hzy := hby.size
                  clear hby
                  obtain ⟨d1, d2⟩ := HY1.out wy HBY.out
                  have lby : bb < wy.heap.size := by omega
                  by_cases hltj : j < nt
                  case pos =>
                    obtain ⟨z, hz⟩ : ∃ z, ts[j]? = some z := ⟨_, List.getElem?_eq_getElem (by have := HNT.out; omega)⟩
                    obtain ⟨bt, ot, hAt, hbt, hct⟩ := HTL.out (by have := HNT.out; omega)
                    subst hAt
                    obtain ⟨f1, f2⟩ := hct j z hz
                    have HSTP := hide (mem_takeE hr.out hz)
                    obtain ⟨za, zb⟩ := z
                    simp only at f1 f2 HSTP
                    have g1 := (HBY.out.cell (p := ⟨bt, ot + j * 2, none⟩) (by show bt < wl.heap.size; omega)).trans f1
                    have g2 := (HBY.out.cell (p := ⟨bt, ot + j * 2 + 1, none⟩) (by show bt < wl.heap.size; omega)).trans f2
                    have lbt : bt < wy.heap.size := by omega
                    have j1 : (0 : Int) ≤ (j : Int) := by omega
                    have j2 : (j : Int) < (nt : Int) := by omega
                    clear hct hbt hz f1 f2
                    cases r with
                    | true =>
                      have HN2 := hide (show true = true ↔ (ua, ub) ∈ ts.take (j + 1) by have h := HSTP.out; simpa using h)
                      go_upto_region 42 with (fail)
                      go_quiet (fail)
                      go_wp2
                      go_roundw
                      case rel => exact ⟨true, j + 1, rfl, by omega, by go_num, below_drewN HBY.out _, HN2⟩
                      case measure => simp [intOf]; omega
                    | false =>
                      obtain ⟨p1, hp1⟩ : ∃ p, (za == ua) = p := ⟨_, rfl⟩
                      obtain ⟨p2, hp2⟩ : ∃ p, (zb == ub) = p := ⟨_, rfl⟩
                      have HP1 := hide hp1
                      have HP2 := hide hp2
                      rw [hp1, hp2] at HSTP
                      cases p1
                      all_goals cases p2
                      all_goals
                        have HN2 := hide (show _ ↔ (ua, ub) ∈ ts.take (j + 1) from HSTP.out)
                        go_upto_region 42 with (fail)
                        go_quiet (fail)
                        go_wp2
                        go_roundw
                        case rel => exact ⟨_, j + 1, rfl, by omega, by go_num, below_drewN HBY.out _, hide (by have h := HN2.out; simpa using h)⟩
                        case measure => simp [intOf]; omega
                  case neg =>
                    have hrt : r = true := hr.out.2 (by rw [List.take_of_length_le (by have := HNT.out; omega)]; exact HTM.out)
                    subst hrt
                    have HXY := hide (HXL.out.below HBY.out)
                    have lxy := HXY.out.lt
                    have HFY := hide (HBL.out.trans (HBY.out.mono HBL.out.size))
                    have HBC := hide (fun (W : World) (hW : Below wy.heap.size wy W) => HBD.out W (HFY.out.trans (hW.mono HFY.out.size)) ub)
                    have hlb40 := HLB.out ub
                    obtain ⟨bl, hbl⟩ : ∃ bl, BB ub = bl := ⟨_, rfl⟩
                    rw [hbl] at HBC HHY hlb40
                    obtain ⟨nn, hnn⟩ : ∃ n, bl.length = n := ⟨_, rfl⟩
                    have HNN := hide hnn
                    rw [hnn] at hlb40
                    have HK := hide (fun (W : World) (hW : Below wy.heap.size wy W) => And.intro ((HXY.out.below hW).cell 0 (v := .slice Ak lk ck) rfl).1 (And.intro ((HXY.out.below hW).cell 1 (v := .slice Ab lb cb) rfl).1 (And.intro ((HXY.out.below hW).cell 2 (v := .int .i64 fp) rfl).1 (And.intro ((HXY.out.below hW).cell 3 (v := .int .i64 fr) rfl).1 (And.intro ((HXY.out.below hW).cell 4 (v := .slice As ls cs) rfl).1 ((hW.cell (p := ⟨bb, ob + kb * 2 + 1, none⟩) lby).trans d2))))))
                    obtain ⟨c0, c1, c2, c3, c4, -⟩ := HK.out wy (Below.refl _ _)
                    clear hbl hnn d1
                    go_upto_region 43 with (fail)
                    go_region_held3 (fun w' => w'.cell? ⟨h5, 0, none⟩ = some (.slice Ak lk ck) ∧ w'.cell? ⟨h5, 1, none⟩ = some (.slice Ab lb cb) ∧ w'.cell? ⟨h5, 2, none⟩ = some (.int .i64 fp) ∧ w'.cell? ⟨h5, 3, none⟩ = some (.int .i64 fr) ∧ w'.cell? ⟨h5, 4, none⟩ = some (.slice As ls cs) ∧ w'.cell? ⟨bb, ob + kb * 2 + 1, none⟩ = some (.int .i64 ub)) (first | go_keep | (exact qa))
                      (first | (go_at_call 20; refine (HBC.out _ (below_drewN (Below.refl _ _) 1)).mono ?_; rintro e wa ⟨va, rfl, hoa, hba⟩; obtain ⟨Aa, ka, hva, hlea, hmea, hsa⟩ := hoa.sl; rw [HNN.out] at hva hlea; have hca : Below wy.heap.size wy wa := ⟨hba.os, hba.tape, hba.output, hba.size, hba.block⟩; have qa := HK.out wa hca; have HSA := hide hsa; have HCA := hide hca; have hza := hca.size; subst hva; clear hba hoa hsa hca))
                    all_goals
                      have lxa : h5 < wa.heap.size := by omega
                      have lba : bb < wa.heap.size := by omega
                      have HKA := hide (fun (W : World) (hW : Below wa.heap.size wa W) => HK.out W (HCA.out.trans (hW.mono hza)))
                      clear c0 c1 c2 c3 c4 qa d2
                      go_wp2
                      go_loopw [18, 21] (fun x i wr => ∃ j : Nat, x = .bool true ∧ j ≤ nn ∧ i = .int .i64 (j : Int) ∧ Below wa.heap.size wa wr) (fun _ i _ => nn - (intOf i).toNat)
                      case atStart => exact ⟨0, rfl, Nat.zero_le _, rfl, Below.refl _ _⟩
                      case round =>
                        obtain ⟨j, rfl, hj, rfl, hbz⟩ := hrel
                        obtain ⟨wz, rfl⟩ : ∃ wz, wz = wr := ⟨_, rfl⟩
                        have HBZ := hide hbz
                        have hzz := hbz.size
                        clear hbz
                        by_cases hltj : j < nn
                        case neg =>
                          have HF := hide (HBY.out.trans ((HCA.out.trans (HBZ.out.mono hza)).mono hzy))
                          go_wp2
                          go_roundw
                          case rel => exact ⟨kb + 1, by omega, by go_num, HF.out⟩
                          case measure => simp [intOf]; omega
                        obtain ⟨z, hz⟩ : ∃ z, bl[j]? = some z := ⟨_, List.getElem?_eq_getElem (by have := HNN.out; omega)⟩
                        obtain ⟨bz, oz, rfl, hbz, hcz⟩ := (HSA.out.below HBZ.out) (by have := HNN.out; omega)
                        have e1 := hcz j (by have := HNN.out; omega)
                        rw [show bl.getD j 0 = z by simp [List.getD, hz]] at e1
                        have lbz : bz < wz.heap.size := by omega
                        have HD := hide (HHY.out z (List.mem_of_getElem? hz))
                        have HFZ := hide (HFY.out.trans ((HCA.out.trans (HBZ.out.mono hza)).mono HFY.out.size))
                        have HDC := hide (fun (W : World) (hW : Below wz.heap.size wz W) => HDM.out W (HFZ.out.trans (hW.mono HFZ.out.size)) ub z HD.out)
                        have HKZ := hide (fun (W : World) (hW : Below wz.heap.size wz W) => And.intro (HKA.out W (HBZ.out.trans (hW.mono hzz))) ((hW.cell (p := ⟨bz, oz + j, none⟩) lbz).trans e1))
                        obtain ⟨⟨c0, c1, c2, c3, c4, d2⟩, -⟩ := HKZ.out wz (Below.refl _ _)
                        have lxz : h5 < wz.heap.size := by omega
                        have lbz2 : bb < wz.heap.size := by omega
                        have j1 : (0 : Int) ≤ (j : Int) := by omega
                        have j2 : (j : Int) < (nn : Int) := by omega
                        clear hcz hz hbz
                        go_upto_region 47 with (fail)
                        go_region_held3 (fun w' => w'.cell? ⟨h5, 0, none⟩ = some (.slice Ak lk ck) ∧ w'.cell? ⟨h5, 1, none⟩ = some (.slice Ab lb cb) ∧ w'.cell? ⟨h5, 2, none⟩ = some (.int .i64 fp) ∧ w'.cell? ⟨h5, 3, none⟩ = some (.int .i64 fr) ∧ w'.cell? ⟨h5, 4, none⟩ = some (.slice As ls cs) ∧ w'.cell? ⟨bb, ob + kb * 2 + 1, none⟩ = some (.int .i64 ub) ∧ w'.cell? ⟨bz, oz + j, none⟩ = some (.int .i64 z)) (first | go_keep | (exact ⟨qd.1.1, qd.1.2.1, qd.1.2.2.1, qd.1.2.2.2.1, qd.1.2.2.2.2.1, qd.1.2.2.2.2.2, qd.2⟩))
                          (first | (go_at_call 26; refine (HDC.out _ (below_drewN (Below.refl _ _) 1)).mono ?_; rintro e wd ⟨rfl, hbd⟩; have hcd : Below wz.heap.size wz wd := ⟨hbd.os, hbd.tape, hbd.output, hbd.size, hbd.block⟩; have qd := HKZ.out wd hcd; have HCD := hide hcd; clear hbd hcd))
                        all_goals
                          clear c0 c1 c2 c3 c4 d2 e1
                          go_wp2
                          go_roundw
                          case rel => exact ⟨j + 1, rfl, by omega, by go_num, HBZ.out.trans (HCD.out.mono hzz)⟩
                          case measure => simp [intOf]; omega
        go_wp2
        clear c4 lt
        go_loopw [11] (fun i wr => ∃ b : Nat, b ≤ ls ∧ i = .int .i64 (b : Int) ∧ Hid (RdL w10 g f ol t b wr)) (fun i _ => ls - (intOf i).toNat)
        case atStart => exact ⟨0, Nat.zero_le _, rfl, HRT⟩
        case round =>
          obtain ⟨b, hb, rfl, hin⟩ := hrel
          obtain ⟨wb, rfl⟩ : ∃ wb, wb = wr := ⟨_, rfl⟩
          obtain ⟨m, hm, hbu, hfm⟩ := hin.out
          have HM := hide hm
          have HBU := hide hbu
          have HFM := hide hfm
          have HXB := hide (hbu.box HX10.out hgh)
          have hzb := hbu.size
          have c4 := (HXB.out.cell 4 (v := .slice As ls cs) rfl).1
          have lb := HXB.out.lt
          have hml := HFL.out t b m hfm
          rw [HLSE.out] at hml
          have HML := hide hml
          clear hin hm hbu hfm hml
          by_cases hltb : b < ls
          case neg =>
            have HN := hide (show RdL w10 g f ol (t + 1) 0 wb from ⟨m, HM.out, HBU.out, HFT.out t b m HFM.out (by rw [HLSE.out]; omega)⟩)
            go_wp2
            go_roundw
            case rel => exact ⟨t + 1, by omega, by go_num, HN⟩
            case measure => simp [intOf]; omega
          have b1 : (0 : Int) ≤ (b : Int) := by omega
          have b2 : (b : Int) < (ls : Int) := by omega
          go_wp2
          clear c4 lb
          go_loopw [12, 13] (fun x i wr => ∃ (fr : Bool) (k : Nat), x = .bool fr ∧ k ≤ ne ∧ i = .int .i64 (k : Int) ∧ Hid (MB wr g m ∧ But g w10 wr) ∧ Hid ((b : Int) ∈ ol → (ol.length : Int) - placeN ol b ≤ t → fr = true)) (fun _ i _ => ne - (intOf i).toNat)
          case atStart => exact ⟨true, 0, rfl, Nat.zero_le _, rfl, hide ⟨HM.out, HBU.out⟩, hide (fun _ _ => rfl)⟩
          case round =>
            obtain ⟨fr, ke, rfl, hke, rfl, hmw, hfr⟩ := hrel
            obtain ⟨wk, rfl⟩ : ∃ wk, wk = wr := ⟨_, rfl⟩
            have HMK := hide hmw.out.1
            have HBK7 := hide hmw.out.2
            have HFR := hide hfr.out
            have hzk := hmw.out.2.size
            clear hmw hfr
            by_cases hltk : ke < ne
            case neg =>
              obtain ⟨u1, u2⟩ := HMK.out.cell (b := b) (by rw [HML.out]; exact hltb)
              obtain ⟨ob, hob⟩ : ∃ ob, metB m (b : Int) = ob := ⟨_, rfl⟩
              rw [hob] at u1
              have HNX := hide (show ∀ v : Bool, v = (ob || fr) → RdL w10 g f ol t (b + 1) (wk.setCell ⟨g, b, none⟩ (.bool v)) from fun v hv => ⟨m.set b v, HMK.out.setv b v, HBK7.out.set, HFP.out t b m HFM.out (by rw [HLSE.out]; exact hltb) v (fun h => by rw [hv, ← hob, h]; rfl) (fun h1 h2 => by rw [hv, HFR.out h1 h2]; simp)⟩)
              have lg : g < wk.heap.size := by omega
              clear hob
              cases ob
              all_goals cases fr
              all_goals
                go_wp2
                go_roundw
                case rel => exact ⟨b + 1, by omega, by go_num, hide (HNX.out _ rfl)⟩
                case measure => simp [intOf]; omega
            obtain ⟨e, he⟩ : ∃ e, es[ke]? = some e := ⟨_, List.getElem?_eq_getElem (by have := HNE.out; omega)⟩
            have HE := hide he
            have HEM := hide (List.mem_of_getElem? he)
            obtain ⟨ea, eb⟩ := e
            obtain ⟨en, xn, rfl, rfl, hxn⟩ := HENAT.out ea eb HEM.out
            have k1 : (0 : Int) ≤ (ke : Int) := by omega
            have k2 : (ke : Int) < (ne : Int) := by omega
            have x1 : (0 : Int) ≤ (xn : Int) := by omega
            have x2 : (xn : Int) < (ls : Int) := by omega
            clear he
            go_wp2
            go_loopw [14, 15] (fun x i wr => ∃ (tu : Bool) (j : Nat), x = .bool tu ∧ j ≤ nt ∧ i = .int .i64 (j : Int) ∧ Hid (MB wr g m ∧ But g w10 wr) ∧ Hid (tu = true ↔ ((en : Int), (xn : Int)) ∈ ts.take j)) (fun _ i _ => nt - (intOf i).toNat)
            case atStart => exact ⟨false, 0, rfl, Nat.zero_le _, rfl, hide ⟨HMK.out, HBK7.out⟩, hide (by simp)⟩
            case round =>
              obtain ⟨tu, j, rfl, hj, rfl, hmw, htu⟩ := hrel
              obtain ⟨wj, rfl⟩ : ∃ wj, wj = wr := ⟨_, rfl⟩
              have HMJ := hide hmw.out.1
              have HBJ := hide hmw.out.2
              have HTU2 := hide htu.out
              have hzj := hmw.out.2.size
              obtain ⟨be, oe, hAe, hbe, hce⟩ := (HEG.out wj HBJ.out) (by have := HNE.out; omega)
              subst hAe
              obtain ⟨d1, d2⟩ := hce ke _ HE.out
              simp only at d1 d2
              have lbe : be < wj.heap.size := by omega
              clear hmw htu hce hbe
              by_cases hltj : j < nt
              case neg =>
                have HT := hide (show tu = true ↔ ((en : Int), (xn : Int)) ∈ ts by have h := HTU2.out; rwa [List.take_of_length_le (by have := HNT.out; omega)] at h)
                have mx := (HMJ.out.cell (b := xn) (by rw [HML.out]; exact hxn)).1
                have HFAL := hide (fun hb' hr' => (show en = b → ¬ tu = true → metB m (xn : Int) = true from fun e1 e2 => by
                  subst e1
                  obtain ⟨h1, h2⟩ := HON.out _ HEM.out hb' (fun h => e2 (HT.out.2 h))
                  simp only at h1 h2
                  exact HFM.out.fal xn h1 (.inl (by have h3 : (ol.length : Int) - placeN ol (en : Int) ≤ (t : Int) := hr'; omega))))
                obtain ⟨mv, hmv⟩ : ∃ mv, metB m (xn : Int) = mv := ⟨_, rfl⟩
                rw [hmv] at mx HFAL
                have lg : g < wj.heap.size := by omega
                clear hmv
                cases fr with
                | false =>
                  have HN2 := hide (show (b : Int) ∈ ol → (ol.length : Int) - placeN ol b ≤ t → false = true from HFR.out)
                  go_wp2
                  go_roundw
                  case rel => exact ⟨false, ke + 1, rfl, by omega, by go_num, hide ⟨HMJ.out, HBJ.out⟩, HN2⟩
                  case measure => simp [intOf]; omega
                | true =>
                  by_cases hen : en = b
                  case neg =>
                    have q1 : ((en : Int) != (b : Int)) = true := by simp; omega
                    have q2 : ((en : Int) == (b : Int)) = false := by simp; omega
                    clear hen
                    go_wp2
                    go_roundw
                    case rel => exact ⟨true, ke + 1, rfl, by omega, by go_num, hide ⟨HMJ.out, HBJ.out⟩, hide (fun _ _ => rfl)⟩
                    case measure => simp [intOf]; omega
                  have q1 : ((en : Int) != (b : Int)) = false := by simp [hen]
                  have q2 : ((en : Int) == (b : Int)) = true := by simp [hen]
                  have HEN := hide hen
                  clear hen
                  cases tu with
                  | true =>
                    go_wp2
                    go_roundw
                    case rel => exact ⟨true, ke + 1, rfl, by omega, by go_num, hide ⟨HMJ.out, HBJ.out⟩, hide (fun _ _ => rfl)⟩
                    case measure => simp [intOf]; omega
                  | false =>
                    have HN2 := hide (show (b : Int) ∈ ol → (ol.length : Int) - placeN ol b ≤ t → mv = true from fun h1 h2 => by
                      have he := HEN.out
                      exact HFAL.out (by rw [he]; exact h1) (by rw [he]; exact h2) he (by simp))
                    go_wp2
                    go_roundw
                    case rel => exact ⟨mv, ke + 1, rfl, by omega, by go_num, hide ⟨HMJ.out, HBJ.out⟩, HN2⟩
                    case measure => simp [intOf]; omega
              obtain ⟨y, hy⟩ : ∃ y, ts[j]? = some y := ⟨_, List.getElem?_eq_getElem (by have := HNT.out; omega)⟩
              obtain ⟨bt, ot, hAt, hbt, hct⟩ := (HTG.out wj HBJ.out) (by have := HNT.out; omega)
              subst hAt
              obtain ⟨f1, f2⟩ := hct j y hy
              have HSTP := hide (mem_takeE HTU2.out hy)
              obtain ⟨ya, yb⟩ := y
              simp only at f1 f2 HSTP
              have lbt : bt < wj.heap.size := by omega
              have j1 : (0 : Int) ≤ (j : Int) := by omega
              have j2 : (j : Int) < (nt : Int) := by omega
              clear hct hbt hy
              cases tu with
              | true =>
                have HN2 := hide (show true = true ↔ ((en : Int), (xn : Int)) ∈ ts.take (j + 1) by have h := HSTP.out; simpa using h)
                go_upto_region 27 with (fail)
                go_quiet (fail)
                go_wp2
                go_roundw
                case rel => exact ⟨true, j + 1, rfl, by omega, by go_num, hide ⟨HMJ.out, HBJ.out.dr _⟩, HN2⟩
                case measure => simp [intOf]; omega
              | false =>
                obtain ⟨p1, hp1⟩ : ∃ p, (ya == (en : Int)) = p := ⟨_, rfl⟩
                obtain ⟨p2, hp2⟩ : ∃ p, (yb == (xn : Int)) = p := ⟨_, rfl⟩
                have HP1 := hide hp1
                have HP2 := hide hp2
                rw [hp1, hp2] at HSTP
                cases p1
                all_goals cases p2
                all_goals
                  have HN2 := hide (show _ ↔ ((en : Int), (xn : Int)) ∈ ts.take (j + 1) from HSTP.out)
                  go_upto_region 27 with (fail)
                  go_quiet (fail)
                  go_wp2
                  go_roundw
                  case rel => exact ⟨_, j + 1, rfl, by omega, by go_num, hide ⟨HMJ.out, HBJ.out.dr _⟩, hide (by have h := HN2.out; simpa using h)⟩
                  case measure => simp [intOf]; omega
end Go.Proofs.Ytlolgahaphmfoaa
