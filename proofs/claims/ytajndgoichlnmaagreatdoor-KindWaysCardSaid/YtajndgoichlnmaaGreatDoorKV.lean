/- The statement KindWays, walked: it answers true. Conditions: the tables of parts and of rows read as listed; no slice of the program is longer than any machine's memory. -/
import Derived.Test.YtajndgoichlnmaaGreatDoorKVm
import Derived.Deep.RegionHeld3
set_option linter.unusedSimpArgs false
set_option linter.unusedVariables false
namespace Go.Proofs.YtajndgoichlnmaaGreatDoor
open Go.RowKit

/-- Behind the two lists of bools are laid. -/
def MK2 (w1 : World) (n : Nat) (a b : Value) (wx : World) : Prop :=
  ∃ ga gb, a = .slice (some ⟨ga, 0, none⟩) n n ∧ b = .slice (some ⟨gb, 0, none⟩) n n ∧ ga ≠ gb ∧ (w1.heap.size ≤ ga ∧ w1.heap.size ≤ gb) ∧ Below w1.heap.size w1 wx ∧ BG wx ga n (fun _ => false) ∧ BG wx gb n (fun _ => false)
theorem mk2h (w : World) (o1 o2 : Obj) : ((w.alloc o1).alloc o2).drew.heap[w.heap.size]? = some o1 ∧ ((w.alloc o1).alloc o2).drew.heap[w.heap.size + 1]? = some o2 := by
  have h1 := heap_alloc_new w o1
  have h2 := heap_alloc_new (w.alloc o1) o2
  simp only [World.size_alloc] at h2
  exact ⟨(Below.heap_alloc _ _ _ (by simp only [World.size_alloc]; omega)).trans h1, h2⟩
theorem mk2_mk {w1 : World} {n ga gb : Nat} {Z : Array Value} {o1 o2 : Obj} (hZ : Z = ((List.replicate n false).map Value.bool).toArray) (hne : ga ≠ gb) (hge : w1.heap.size ≤ ga ∧ w1.heap.size ≤ gb)
    (h1 : ((w1.alloc o1).alloc o2).drew.heap[ga]? = some (.cells Z 4)) (h2 : ((w1.alloc o1).alloc o2).drew.heap[gb]? = some (.cells Z 4)) :
    MK2 w1 n (.slice (some ⟨ga, 0, none⟩) n n) (.slice (some ⟨gb, 0, none⟩) n n) ((w1.alloc o1).alloc o2).drew := by
  subst hZ
  exact ⟨ga, gb, rfl, rfl, hne, hge, ((((Below.refl _ _).alloc (Nat.le_refl _) _).alloc (by simp only [World.size_alloc]; omega) _).drew), BG.ini h1, BG.ini h2⟩
theorem getD_mem9 {l : List Int} {i : Nat} (h : i < l.length) : l.getD i 0 ∈ l := by
  have e : l.getD i 0 = l[i] := by simp [List.getD, h]
  rw [e]
  exact List.getElem_mem h
theorem hve9 {vv : Bool} {δ : Nat → Bool} {lk an : Nat} {kd yo ya : Int} (h : vv = true ↔ (kd = 2 ∧ (yo = 16 → ∃ a : Nat, ya = (a : Int) ∧ a < lk ∧ δ a = true))) (hk : kd = 2) (ho : yo = 16) (ha : ya = (an : Int)) (hl : an < lk) : vv = δ an := by
  rw [Bool.eq_iff_iff, h]
  constructor
  · rintro ⟨-, h1⟩
    obtain ⟨a, e, -, h2⟩ := h1 ho
    obtain rfl : a = an := by omega
    exact h2
  · exact fun h1 => ⟨hk, fun _ => ⟨an, ha, hl, h1⟩⟩
theorem WayB.der {f : FunV} {b k : Nat} {g1 g2 : Nat → Bool} (h : WayB f b k g1 g2) {m : Nat} (hm : m < f.kinds.length) (h2 : g2 m = true) : f.kinds[m]? = some 2 := by
  obtain ⟨P, l, q1, -, q3⟩ := h
  exact (q1.inK.out _).2 m ((q3 m hm).2.1 h2)
set_option maxHeartbeats 8000000 in
set_option maxRecDepth 100000 in
theorem kindways_law (vp : Value) (p : List FunV) (Apk : Option Addr) (lpk cpk : Nat) (zs : List Int) (w : World) (hT : TabP w) (hR : RowP w) (hp : FunsV w (· < w.heap.size) vp p) (hsz : progSize p) (hpk : Sl w w.heap.size .u8 Apk zs) (hzl : zs.length = lpk) (hpm : lpk ≤ 9223372036854775807) (hby : ∀ z ∈ zs, 0 ≤ z ∧ z ≤ 255) :
    Calls Tryz.prog 6 #[.agg #[vp], .slice Apk lpk cpk] w fun e w' => e = .returned (.bool true) ∧ Below w.heap.size w w' := by
  have HZS := hide (fun (W : World) (hW : Below w.heap.size w W) => hpk.below hW)
  have HZB := hide hby
  have HZL := hide hzl
  clear hpk hby hzl
  have HAL := hide (fun (W : World) (hW : Below w.heap.size w W) => alive8_any W (hT.below hW hT.1) (hR.below hW hR.1))
  have HGR := hide (fun (W : World) (hW : Below w.heap.size w W) => great8_any vp p W w.heap.size hW.size (hp.keep (up hW (Nat.le_refl _)) (fun _ h => h)) hsz)
  have HC4 := hide (fun (W : World) (hW : Below w.heap.size w W) (hf : progFew p) => check4_any vp p W w.heap.size hW.size (hp.keep (up hW (Nat.le_refl _)) (fun _ h => h)) hf)
  have HFEW := hide (fun h : ∀ f ∈ p, smallF f => smallF.few h)
  have HPK := hide (fun (W : World) (hW : Below w.heap.size w W) => hp.keep (up hW (Nat.le_refl _)) (fun _ h => h))
  have HTT := hide (fun (W : World) (hW : Below w.heap.size w W) => hT.below hW hT.1)
  have HRR := hide (fun (W : World) (hW : Below w.heap.size w W) => hR.below hW hR.1)
  obtain ⟨Ap, cp, rfl, hcp, hmp⟩ := hp.open'
  obtain ⟨lp, hlp⟩ : ∃ lp, p.length = lp := ⟨_, rfl⟩
  have HLP := hide hlp
  rw [hlp] at HPK HGR HC4 hcp
  rw [hlp]
  clear hp hT hR hsz hlp
  go_enter Tryz.func6, Tryz.ntmps6
  go_upto_region 1 with (fail)
  obtain ⟨w1, hw1⟩ : ∃ w1, w1 = w.alloc (.cells #[.slice Ap lp cp] 24) := ⟨_, rfl⟩
  obtain ⟨h5, hh5⟩ : ∃ h5, w.heap.size = h5 := ⟨_, rfl⟩
  have HX0 := hide (show Box w1 (h5) #[.slice Ap lp cp] 24 by rw [hw1, ← hh5]; have t := Box.new w #[.slice Ap lp cp] 24; (try simp only [World.size_alloc] at t); exact t)
  have HB1 := hide (show Below w.heap.size w w1 by rw [hw1]; exact ((Below.refl _ _).alloc (Nat.le_refl _) _))
  have w1s := HB1.out.size
  have w1z := hide (show w1.heap.size = h5 + 1 by rw [hw1, ← hh5]; simp only [World.size_alloc])
  have HK0 := hide (fun (W : World) (hW : Below w1.heap.size w1 W) => ((HX0.out.below hW).cell 0 (v := .slice Ap lp cp) rfl).1)
  have lHX0 := HX0.out.lt
  have h5g : w.heap.size ≤ h5 := by omega
  rw [← hw1, hh5]
  clear hw1 hh5
  have p0 := HK0.out w1 (Below.refl _ _)
  go_upto_region 3 with (go_at_call 7; (with_reducible refine (HAL.out w1 HB1.out).mono ?_); rintro e w2 ⟨rfl, hb2⟩; have HQ2 := hide hb2; have HB2 := hide (HB1.out.trans (hb2.mono HB1.out.size)); have p2 := HK0.out w2 hb2; clear hb2)
  obtain ⟨b4, hb4⟩ : ∃ b4, progB4 p = b4 := ⟨_, rfl⟩
  have HP4 := hide hb4
  cases b4
  · have hc : chkN4 p = 5 := by unfold chkN4; rw [hb4]; rfl
    rw [hc] at HC4
    clear hb4 hc
    go_wp2_with (first
      | (go_at_call 11; (with_reducible refine (HC4.out w3 HB3.out (HFEW.out (HS3.out (by simp)))).mono ?_); rintro e w4 ⟨rfl, hb4⟩; have HB4 := hide (HB3.out.trans (hb4.mono HB3.out.size)); clear hb4)
      | (go_at_call 8; (with_reducible refine (HGR.out w2 HB2.out).mono ?_); rintro e w3 ⟨bG, rfl, hs3, hb3⟩; have HS3 := hide hs3; have HQ3 := hide (HQ2.out.trans (hb3.mono HQ2.out.size)); have HB3 := hide (HB2.out.trans (hb3.mono HB2.out.size)); have p3 := HK0.out w3 HQ3.out; clear hb3 hs3; cases bG))
    all_goals
      go_ret
      first
        | exact ⟨rfl, HB4.out⟩
        | exact ⟨rfl, HB3.out⟩
  have hc : chkN4 p = 0 := by unfold chkN4; rw [hb4]; rfl
  rw [hc] at HC4
  have HKO := hide (kOk_of hb4)
  have HSA := hide (shift_a hb4)
  clear hb4 hc
  by_cases h60 : lpk ≤ 60
  case neg =>
    have h60i : (60 : Int) < (lpk : Int) := by omega
    have h60b : decide ((lpk : Int) > 60) = true := by simp; omega
    go_wp2_with (first
        | (go_at_call 11; (with_reducible refine (HC4.out w3 HB3.out (HFEW.out (HS3.out (by simp)))).mono ?_); rintro e w4 ⟨rfl, hb4⟩; have HQ4 := hide (HQ3.out.trans (hb4.mono HQ3.out.size)); have HB4 := hide (HB3.out.trans (hb4.mono HB3.out.size)); clear hb4)
        | (go_at_call 8; (with_reducible refine (HGR.out w2 HB2.out).mono ?_); rintro e w3 ⟨bG, rfl, hs3, hb3⟩; have HS3 := hide hs3; have HQ3 := hide (HQ2.out.trans (hb3.mono HQ2.out.size)); have HB3 := hide (HB2.out.trans (hb3.mono HB2.out.size)); have p3 := HK0.out w3 HQ3.out; clear hb3 hs3; cases bG))
    all_goals
      go_ret
      first
        | exact ⟨rfl, HB4.out⟩
        | exact ⟨rfl, HB3.out⟩

  have h60i : (lpk : Int) ≤ 60 := by omega
  have h60b : decide ((lpk : Int) > 60) = false := by simp; omega
  go_upto_region 5 with (first
      | (go_at_call 11; (with_reducible refine (HC4.out w3 HB3.out (HFEW.out (HS3.out (by simp)))).mono ?_); rintro e w4 ⟨rfl, hb4⟩; have HQ4 := hide (HQ3.out.trans (hb4.mono HQ3.out.size)); have HB4 := hide (HB3.out.trans (hb4.mono HB3.out.size)); clear hb4)
      | (go_at_call 8; (with_reducible refine (HGR.out w2 HB2.out).mono ?_); rintro e w3 ⟨bG, rfl, hs3, hb3⟩; have HS3 := hide hs3; have HQ3 := hide (HQ2.out.trans (hb3.mono HQ2.out.size)); have HB3 := hide (HB2.out.trans (hb3.mono HB2.out.size)); have p3 := HK0.out w3 HQ3.out; clear hb3 hs3; cases bG))
  all_goals try (go_ret; exact ⟨rfl, HB3.out⟩)
  have hbw4 := HB4.out.size
  clear h60b
  have HZW := hide (fun (W : World) (hW : Below w4.heap.size w4 W) => HZS.out W (HB4.out.trans (hW.mono HB4.out.size)))
  go_wp2
  go_loopw [5] (fun i wr => ∃ k : Nat, k ≤ lp ∧ i = .int .i64 k ∧ Below w4.heap.size w4 wr) (fun i _ => lp - (intOf i).toNat)
  case atStart => exact ⟨0, Nat.zero_le _, rfl, Below.refl _ _⟩
  case round =>
    obtain ⟨k, hk, rfl, hb⟩ := hrel
    obtain ⟨wo, rfl⟩ : ∃ wo, wo = wr := ⟨_, rfl⟩
    have hszo := hb.size
    have HBEL := hide (HB4.out.trans (hb.mono HB4.out.size))
    have HBW := hide hb
    have HXO := hide (HX0.out.below (HQ4.out.trans (hb.mono HQ4.out.size)))
    have xp := (HXO.out.cell 0 (v := .slice Ap lp cp) rfl).1
    have lxp := HXO.out.lt
    clear hb p0 p2 p3
    by_cases hlt : k < lp
    case neg =>
      go_wp2
      go_ret
      exact ⟨rfl, HBEL.out⟩
    obtain ⟨f, hf⟩ : ∃ f, p[k]? = some f := ⟨_, List.getElem?_eq_getElem (by have := HLP.out; omega)⟩
    obtain ⟨bg, og, Ak, ck, Ab, cb, As, cs, hAp, hbgb, ⟨e0, e1, e2, e3, e4⟩, hi⟩ := (HPK.out wo HBEL.out).get hf
    subst hAp
    have HKF := hide (HKO.out f (List.mem_of_getElem? hf))
    have HSF := hide (HSA.out f (List.mem_of_getElem? hf))
    have hBo : w.heap.size ≤ wo.heap.size := by have := HBEL.out.size; omega
    have HIK := hide (fun (W : World) (hW : Below wo.heap.size wo W) => hi.keep (w := wo) (S := (· < w.heap.size)) (up hW hBo) (fun _ h => h))
    have HTO := hide (fun (W : World) (hW : Below wo.heap.size wo W) => HTT.out W (HBEL.out.trans (hW.mono HBEL.out.size)))
    have HBO := hide (fun (W : World) (hW : Below wo.heap.size wo W) => (show w.heap.size ≤ W.heap.size by have := hW.size; omega))
    have hls1 := HKF.out.one
    have hls40 := HKF.out.flow.1
    have HSE := hide (fun (b : Nat) (hb : b < f.blocks.length) (W : World) (hW : Below wo.heap.size wo W) => kset_any (.slice Ak f.kinds.length ck) (.slice Ab f.base.length cb) (.slice As f.blocks.length cs) f HKF.out (b : Int) (by unfold i64R; omega) W w.heap.size (HBO.out W hW) (HIK.out W hW) (HTO.out W hW))
    have HFR := hide (fun (b : Nat) (hb : b < f.blocks.length) (W : World) (hW : Below wo.heap.size wo W) => kfresh_any (.slice Ak f.kinds.length ck) (.slice Ab f.base.length cb) (.slice As f.blocks.length cs) f HKF.out (b : Int) (by unfold i64R; omega) W w.heap.size (HBO.out W hW) (HIK.out W hW) (HTO.out W hW))
    have HNX := hide (fun (b : Nat) (hb : b < f.blocks.length) (W : World) (hW : Below wo.heap.size wo W) => show Calls Tryz.prog 24 #[.agg #[.slice Ak f.kinds.length ck, .slice Ab f.base.length cb, .int .i64 f.params, .int .i64 f.result, .slice As f.blocks.length cs], .int .i64 (b : Int)] W fun e w' => ∃ A c, e = .returned (.slice A (nxt f b).length c) ∧ Sl w' w'.heap.size .i64 A (nxt f b) ∧ Below W.heap.size W w' from by
      have h := rnextN_any (.slice Ak f.kinds.length ck) (.slice Ab f.base.length cb) (.slice As f.blocks.length cs) f (b : Int) W w.heap.size (HBO.out W hW) (HIK.out W hW) HKF.out.flow
      rw [nxtI_nat hb] at h
      exact h.mono fun e w' ⟨A, c, h1, h2, _, _, _, h3⟩ => ⟨A, c, h1, h2, h3⟩)
    have HBL := hide (fun (W : World) (hW : Below wo.heap.size wo W) => (HIK.out W hW).2.2.1)
    have HKL := hide (fun (W : World) (hW : Below wo.heap.size wo W) => (HIK.out W hW).1)
    have HBA := hide (fun (W : World) (hW : Below wo.heap.size wo W) => (HIK.out W hW).2.1)
    have HKQ := hide (fun (m : Nat) (hm : m < f.kinds.length) => (show ∃ z, f.kinds[m]? = some z from ⟨_, List.getElem?_eq_getElem hm⟩))
    have HBQ := hide (fun (m : Nat) (hm : m < f.kinds.length) => (show ∃ z, f.base[m]? = some z from ⟨_, List.getElem?_eq_getElem (by rw [HKF.out.bl]; exact hm)⟩))
    have HSAID := hide (fun (b : Nat) (g1 g2 : Nat → Bool) (s : KSt) (h : WayB f b 0 g1 g2) (hs : KAtZ f (b : Int) s) (m : Nat) (hm : m < f.kinds.length) => h.said hs m hm)
    have HWD := hide (fun (b k : Nat) (g1 g2 : Nat → Bool) (h : WayB f b k g1 g2) (m : Nat) (hm : m < f.kinds.length) (h2 : g2 m = true) => h.der hm h2)
    have HW0 := hide (fun (g1 g2 : Nat → Bool) (h : ∀ m, m < f.kinds.length → (g1 m = true ↔ (m : Int) < f.params)) (h2 : ∀ m, g2 m = false) => WayB.start (f := f) HKF.out.one h h2)
    have HWN := hide (fun (b c : Nat) (g1 g2 : Nat → Bool) (l : List InsV) (h : WayB f b l.length g1 g2) (hl : f.blocks[b]? = some l) (hc : (c : Int) ∈ nxt f b) => h.next hl HKF.out.flow hc)
    have HNR := hide HKF.out.flow.2.2
    have HWN0 := hide (fun (b k : Nat) (g1 g2 : Nat → Bool) (l : List InsV) (x : InsV) (h : WayB f b k g1 g2) (hl : f.blocks[b]? = some l) (hx : l[k]? = some x) (h68 : hasB4 x.op 68 = false) => (show WayB f b (k + 1) g1 g2 from h.no hl hx h68))
    have hbl9 := HKF.out.bl.symm
    have HSI := hide (fun (l : List InsV) (hl : l ∈ f.blocks) (x : InsV) (hx : x ∈ l) (h : hasB4 x.op 68 = true) => (HKF.out.sets l hl x hx h))
    have HWY := hide (fun (b k : Nat) (g1 g2 : Nat → Bool) (l : List InsV) (x : InsV) (h : WayB f b k g1 g2) (hl : f.blocks[b]? = some l) (hx : l[k]? = some x) (h68 : hasB4 x.op 68 = true) (dn : Nat) (hd : x.d = (dn : Int)) (hdl : dn < f.kinds.length) (v : Bool) (hv : v = true ↔ (f.kinds[dn]? = some 2 ∧ (x.op = 16 → ∃ a : Nat, x.a = (a : Int) ∧ a < f.kinds.length ∧ g2 a = true))) => (show WayB f b (k + 1) (fun m => if m = dn then true else g1 m) (fun m => if m = dn then v else clr f (dn : Int) f.kinds.length g2 m) from h.yes hl hx h68 hd hdl hv))
    have hbs : bg < wo.heap.size := by omega
    have hpn := HKF.out.pn
    have hpkk := HKF.out.pk
    have hm3 : f.blocks.length ≤ 9223372036854775807 := by omega
    have hm1 : f.kinds.length ≤ 48 := HKF.out.kinds
    obtain ⟨ls, hls⟩ : ∃ ls, f.blocks.length = ls := ⟨_, rfl⟩
    have HLS := hide hls
    obtain ⟨lk, hlk⟩ : ∃ lk, f.kinds.length = lk := ⟨_, rfl⟩
    have HLK := hide hlk
    rw [hls] at HSE HFR HNX HBL e4 hls1 hls40 hm3
    rw [hlk] at HSE HFR HNX HKL HKQ HBQ HSAID HWD HW0 HSI HWY e0 hm1 hpkk HSF hbl9
    clear hi hls hlk hf HIK hBo
    generalize hfp : f.params = fp at *
    clear hfp
    generalize f.base.length = lb, f.result = fr at *
    subst hbl9
    obtain ⟨fn, rfl⟩ : ∃ fn : Nat, fp = (fn : Int) := ⟨fp.toNat, by omega⟩
    have hfn : fn ≤ lk := by omega
    have hki : (0 : Int) ≤ (k : Int) := by omega
    have hkl : (k : Int) < (lp : Int) := by omega
    go_upto_region 9 with (fail)
    obtain ⟨w5, hw5⟩ : ∃ w5, w5 = wo.alloc (.cells #[.slice Ak lk ck, .slice Ab lk cb, .int .i64 (fn : Int), .int .i64 fr, .slice As ls cs] 35) := ⟨_, rfl⟩
    obtain ⟨h6, hh6⟩ : ∃ h6, wo.heap.size = h6 := ⟨_, rfl⟩
    have HFX0 := hide (show Box w5 (h6) #[.slice Ak lk ck, .slice Ab lk cb, .int .i64 (fn : Int), .int .i64 fr, .slice As ls cs] 35 by rw [hw5, ← hh6]; have t := Box.new wo #[.slice Ak lk ck, .slice Ab lk cb, .int .i64 (fn : Int), .int .i64 fr, .slice As ls cs] 35; (try simp only [World.size_alloc] at t); exact t)
    have HB5 := hide (show Below wo.heap.size wo w5 by rw [hw5]; exact ((Below.refl _ _).alloc (Nat.le_refl _) _))
    have w5s := HB5.out.size
    have w5z := hide (show w5.heap.size = h6 + 1 by rw [hw5, ← hh6]; simp only [World.size_alloc])
    have HFK0 := hide (fun (W : World) (hW : Below w5.heap.size w5 W) => (And.intro ((HFX0.out.below hW).cell 0 (v := .slice Ak lk ck) rfl).1 (And.intro ((HFX0.out.below hW).cell 1 (v := .slice Ab lk cb) rfl).1 (And.intro ((HFX0.out.below hW).cell 2 (v := .int .i64 (fn : Int)) rfl).1 (And.intro ((HFX0.out.below hW).cell 3 (v := .int .i64 fr) rfl).1 ((HFX0.out.below hW).cell 4 (v := .slice As ls cs) rfl).1)))))
    have lHFX0 := HFX0.out.lt
    have h6g : wo.heap.size ≤ h6 := by omega
    rw [← hw5, hh6]
    clear hw5 hh6

    obtain ⟨c0, c1, c2, c3, c4⟩ := HFK0.out w5 (Below.refl _ _)
    clear e0 e1 e2 e3 e4 xp lxp
    have HUP := hide (fun (W : World) (hW : Below w5.heap.size w5 W) => HB5.out.trans (hW.mono HB5.out.size))
    have hmake : ∀ W : World, (Instr.makeSlice 46 (.int .i64 (lk : Int)) (.int .i64 (lk : Int))).run Tryz.prog W = .ok (.slice (some ⟨W.heap.size, 0, none⟩) lk lk) (W.alloc (.cells (madeCells (Value.bool false).cells (lk * 1)) 4)) := fun W => mk_run 46 4 Tryz.underlying46 info_bool (by omega) lk (by omega) W
    obtain ⟨mc, hmc⟩ : ∃ mc, madeCells (Value.bool false).cells (lk * 1) = mc := ⟨_, rfl⟩
    rw [hmc] at hmake
    have HMC := hide (show mc = ((List.replicate lk false).map Value.bool).toArray by rw [← hmc]; exact madeCells_bool _)
    clear hmc
    go_cut [7, 8] from 48 to 55 (fun a b wx => MK2 w5 lk a b wx)
    case first =>
      go_region
      all_goals
        go_wp2_with fail
        go_meet
      all_goals first
        | exact mk2_mk HMC.out (by omega) (by omega) (mk2h _ _ _).1 (mk2h _ _ _).2
        | exact mk2_mk HMC.out (by omega) (by omega) (mk2h _ _ _).2 (mk2h _ _ _).1
    case rest =>
      obtain ⟨wm, rfl⟩ : ∃ wm, wm = wc := ⟨_, rfl⟩
      obtain ⟨g1, g2, rfl, rfl, hgne, ⟨hg1, hg2⟩, hbm, bg1, bg2⟩ := hcut
      have HBM := hide hbm
      have HG1 := hide bg1
      have HG2 := hide bg2
      clear hbm bg1 bg2 c0 c1 c2 c3 c4 hmake
      go_wp2
      go_loopw [9] (fun i wr => ∃ k1 : Nat, k1 ≤ fn ∧ i = .int .i64 k1 ∧ Hid (BG wr g1 lk (fun m => decide (m < k1))) ∧ Hid (BG wr g2 lk (fun _ => false)) ∧ Below w5.heap.size w5 wr) (fun i _ => fn - (intOf i).toNat)
      case atStart => exact ⟨0, Nat.zero_le _, rfl, hide (HG1.out.ext (fun m => by simp)), HG2, HBM.out⟩
      case round =>
        obtain ⟨k1, hk1, rfl, HG1', HG2', hb⟩ := hrel
        obtain ⟨wo1, rfl⟩ : ∃ wo1, wo1 = wr := ⟨_, rfl⟩
        have HC1 := hide hb
        obtain ⟨c0, c1, c2, c3, c4⟩ := HFK0.out wo1 hb
        have lfx : h6 < wo1.heap.size := by have := hb.size; omega
        clear hb
        by_cases hlt1 : k1 < fn
        case pos =>
          obtain ⟨d1, d2⟩ := HG1'.out.cell (b := k1) (by omega)
          have lg1 := HG1'.out.lt
          have hk1a : (0 : Int) ≤ (k1 : Int) := by omega
          have hk1b : (k1 : Int) < (lk : Int) := by omega
          have hk1c : (k1 : Int) < (fn : Int) := by omega
          go_wp2
          go_roundw
          case rel =>
            refine ⟨k1 + 1, by omega, by go_num, hide ((HG1'.out.set k1 true).ext (fun m => ?_)), hide (HG2'.out.other (fun h => hgne h.symm)), Below.setCell (p := ⟨g1, _, none⟩) HC1.out (by simpa using hg1) _⟩
            by_cases e : m = k1
            · subst e; simp
            · rw [if_neg e]
              simp only [decide_eq_decide]
              omega
          case measure => simp [intOf]; omega
        obtain rfl : k1 = fn := by omega
        have hnl : ¬ ((k1 : Int) < (k1 : Int)) := by omega
        have HWA := hide (HW0.out (fun m => decide (m < k1)) (fun _ => false) (fun m hm => by simp) (fun m => rfl))
        go_wp2
        go_loopw [10, 11] (fun bv st wr => ∃ (b s3 : Nat) (γ1 γ2 : Nat → Bool), bv = .int .i64 b ∧ st = .int .i64 s3 ∧ s3 ≤ lpk ∧ b < ls ∧ Hid (WayB f b 0 γ1 γ2) ∧ Hid (BG wr g1 lk γ1) ∧ Hid (BG wr g2 lk γ2) ∧ Below w5.heap.size w5 wr) (fun _ st _ => lpk - (intOf st).toNat)
        case atStart => exact ⟨0, 0, _, _, rfl, rfl, Nat.zero_le _, by omega, HWA, HG1', HG2', HC1.out⟩
        case round =>
          obtain ⟨b, s3, γ1, γ2, rfl, rfl, hs3, hbl, HWB, HD1, HD2, hb⟩ := hrel
          obtain ⟨wo3, rfl⟩ : ∃ wo3, wo3 = wr := ⟨_, rfl⟩
          clear HG1' HG2' HC1 lfx c0 c1 c2 c3 c4 HWA
          have hszo3 := hb.size
          have HC3 := hide hb
          obtain ⟨c0, c1, c2, c3, c4⟩ := HFK0.out wo3 hb
          have lfx : h6 < wo3.heap.size := by omega
          clear hb
          have hs3i : (s3 : Int) ≤ (lpk : Int) := by omega
          have hbi : (0 : Int) ≤ (b : Int) := by omega
          have hbli : (b : Int) < (ls : Int) := by omega
          have HSE3 := hide (HSE.out b hbl wo3.drew (HUP.out _ (HC3.out.trans ((below_drewN (Below.refl _ _) 1 : Below wo3.heap.size wo3 wo3.drew).mono hszo3))))
          have HFK3 := hide (fun (W : World) (hW : Below wo3.heap.size wo3 W) => HFK0.out W (HC3.out.trans (hW.mono hszo3)))
          go_upto_region 18 with (fail)
          go_region_held3 (fun w' => w'.cell? ⟨h6, 0, none⟩ = some (.slice Ak lk ck) ∧ w'.cell? ⟨h6, 1, none⟩ = some (.slice Ab lk cb) ∧ w'.cell? ⟨h6, 2, none⟩ = some (.int .i64 (k1 : Int)) ∧ w'.cell? ⟨h6, 3, none⟩ = some (.int .i64 fr) ∧ w'.cell? ⟨h6, 4, none⟩ = some (.slice As ls cs)) (first | go_keep | (exact q7) | (exact q6))
            (first
              | (go_at_call 16; refine (HFR.out b hbl w6 (HUP.out w6 (HC3.out.trans (HC6.out.mono hszo3)))).mono ?_; rintro e w7 ⟨v7, s7, rfl, hv7, ha7, hb⟩; have hc := HC6.out.trans (hb.mono HC6.out.size); have q7 := HFK3.out w7 hc; have HC7 := hide hc; have HV7 := hide hv7; have HV6b := hide (HV6.out.below hb); have HA7 := hide ha7; clear hb hc hv7 ha7)
              | (go_at_call 15; refine HSE3.out.mono ?_; rintro e w6 ⟨v6, s6, rfl, hv6, ha6, hb⟩; have hc : Below wo3.heap.size wo3 w6 := ⟨hb.os, hb.tape, hb.output, hb.size, hb.block⟩; have q6 := HFK3.out w6 hc; have HC6 := hide hc; have HV6 := hide hv6; have HA6 := hide ha6; clear hb hc hv6 ha6))
          obtain rfl : s6 = s7 := HA6.out.one HA7.out
          have HGK := hide HA6.out.good
          have HV6 := hide (show SetV w7 v6 s6.1 from HV6b.out)
          have HV7 := hide (show SetV w7 v7 s6.2 from HV7.out)
          clear HV6b
          have HSD := hide (HSAID.out b γ1 γ2 s6 HWB.out HA6.out)
          have HDR := hide (HWD.out b 0 γ1 γ2 HWB.out)
          have HD1 := hide (HD1.out.below HC7.out)
          have HD2 := hide (HD2.out.below HC7.out)
          obtain ⟨A6, d6, rfl, -, -, hsl6⟩ := HV6.out
          obtain ⟨A7, d7, rfl, -, -, hsl7⟩ := HV7.out
          have HH6 := hide (fun (m : Nat) (hm : m ≤ 48) => brhas_any A6 _ d6 s6.1 (m : Int) w7 _ hsl6 rfl (by have := HGK.out.l1; omega) HGK.out.w1 (by omega))
          have HH7 := hide (fun (m : Nat) (hm : m ≤ 48) => brhas_any A7 _ d7 s6.2 (m : Int) w7 _ hsl7 rfl (by have := HGK.out.l2; omega) HGK.out.w2 (by omega))
          have HC37 := hide (HC3.out.trans (HC7.out.mono hszo3))
          have HFK7 := hide (fun (W : World) (hW : Below w7.heap.size w7 W) => HFK3.out W (HC7.out.trans (hW.mono HC7.out.size)))
          have hsz7 := HC37.out.size
          generalize hn61 : s6.1.length = n61 at *
          generalize hn62 : s6.2.length = n62 at *
          clear hsl6 hsl7 HV6 HV7 q7 q6 c0 c1 c2 c3 c4 lfx HSE3 hn61 hn62
          go_wp2
          go_loopw [14] (fun i wr => ∃ k4 : Nat, k4 ≤ lk ∧ i = .int .i64 k4 ∧ wr = w7) (fun i _ => lk - (intOf i).toNat)
          case atStart => exact ⟨0, Nat.zero_le _, rfl, rfl⟩
          case round =>
            obtain ⟨k4, hk4, rfl, rfl⟩ := hrel
            obtain ⟨w7, rfl⟩ : ∃ w7, w7 = wr := ⟨_, rfl⟩
            obtain ⟨c0, c1, c2, c3, c4⟩ := HFK7.out w7 (Below.refl _ _)
            have lfx : h6 < w7.heap.size := by omega
            by_cases hlt4 : k4 < lk
            case pos =>
              have hlk4 : (k4 : Int) < (lk : Int) := by omega
              have hlk0 : (0 : Int) ≤ (k4 : Int) := by omega
              obtain ⟨d1, -⟩ := HD1.out.cell (b := k4) hlt4
              obtain ⟨d2, -⟩ := HD2.out.cell (b := k4) hlt4
              have lg1 := HD1.out.lt
              have lg2 := HD2.out.lt
              have HQ6 := hide (HH6.out k4 (by omega))
              have HQ7 := hide (HH7.out k4 (by omega))
              obtain ⟨t1, t2⟩ := HSD.out k4 hlt4
              obtain ⟨kv, hkv⟩ := HKQ.out k4 hlt4
              have t3 := fun h => hkv.symm.trans (HDR.out k4 hlt4 h)
              obtain ⟨bk, ok, hAk, hbk, hck, -⟩ := (HKL.out w7 (HUP.out w7 HC37.out)).get hkv
              subst hAk
              have lbk : bk < w7.heap.size := by have := HB5.out.size; have := HBO.out wo (Below.refl _ _); omega
              clear hkv hbk
              generalize γ1 k4 = x1 at *
              generalize γ2 k4 = x2 at *
              generalize hasB s6.1 (k4 : Int) = y1 at *
              generalize hasB s6.2 (k4 : Int) = y2 at *
              have ty : (y1 = true → x1 = true) ∧ (y2 = true → x2 = true ∧ kv = 2) := ⟨t1, fun h => ⟨t2 h, by simpa using t3 (t2 h)⟩⟩
              clear t1 t2 t3
              cases y1 <;> cases y2
              all_goals
                (first
                  | (obtain rfl := ty.1 rfl)
                  | skip)
                (first
                  | (obtain ⟨rfl, rfl⟩ := ty.2 rfl)
                  | skip)
                clear ty
                go_wp2_with (first
                  | (go_at_call_of 22 A7; (with_reducible refine HQ7.out.mono ?_); rintro e w' ⟨rfl, rfl⟩)
                  | (go_at_call_of 22 A6; (with_reducible refine HQ6.out.mono ?_); rintro e w' ⟨rfl, rfl⟩))
                go_roundw
                case rel => exact ⟨k4 + 1, by omega, by go_num, by first | rfl | trivial⟩
                case measure => simp [intOf]; omega
            obtain rfl : lk = k4 := by omega
            have hw5 : w.heap.size ≤ w5.heap.size := by have := HB5.out.size; have := HBO.out wo (Below.refl _ _); omega
            clear HH6 HH7 HSD HDR HGK HA6 HA7
            obtain ⟨l, hl⟩ : ∃ l, f.blocks[b]? = some l := ⟨_, List.getElem?_eq_getElem (by have := HLS.out; omega)⟩
            have HLM := hide (List.mem_of_getElem? hl)
            have HLE := hide hl
            obtain ⟨bb, ob, Al, cl, hAs, hbb, d0, hli⟩ := (HBL.out w5 (HUP.out w5 (Below.refl _ _))).get hl
            subst hAs
            have hbs5 : bb < w5.heap.size := by omega
            have HD0 := hide (fun (W : World) (hW : Below w5.heap.size w5 W) => (hW.cell (p := ⟨bb, ob + b, none⟩) hbs5).trans d0)
            have HLI := hide (fun (W : World) (hW : Below w5.heap.size w5 W) => hli.keep (S := (· < w.heap.size)) (up hW hw5) (fun _ h => h))
            have hm4 : l.length ≤ 9223372036854775807 := by obtain ⟨A, c, -, h1, h2⟩ := hli.open'; omega
            obtain ⟨ll, hll⟩ : ∃ ll, l.length = ll := ⟨_, rfl⟩
            have HLL := hide hll
            rw [hll] at HLI hm4 HD0 d0
            clear hli hll hl
            have d07 := HD0.out w7 HC37.out
            have lbb7 : bb < w7.heap.size := by omega
            have hnl4 : ¬ ((lk : Int) < (lk : Int)) := by omega
            go_wp2
            clear d0 d07 c0 c1 c2 c3 c4 lfx
            go_loopw [16] (fun i wr => ∃ (k3 : Nat) (δ1 δ2 : Nat → Bool), i = .int .i64 k3 ∧ k3 ≤ ll ∧ Hid (WayB f b k3 δ1 δ2) ∧ Hid (BG wr g1 lk δ1) ∧ Hid (BG wr g2 lk δ2) ∧ Below w5.heap.size w5 wr) (fun i _ => ll - (intOf i).toNat)
            case atStart => exact ⟨0, γ1, γ2, rfl, Nat.zero_le _, HWB, HD1, HD2, HC37.out⟩
            case round =>
              obtain ⟨k3, δ1, δ2, rfl, hk3, HWC, HE1, HE2, hb⟩ := hrel
              obtain ⟨wo5, rfl⟩ : ∃ wo5, wo5 = wr := ⟨_, rfl⟩
              clear HD1 HD2 HWB HC37 HFK7 HFK3 lbb7 HC3 HC7 HC6
              have hszo5 := hb.size
              have HC5 := hide hb
              obtain ⟨c0, c1, c2, c3, c4⟩ := HFK0.out wo5 hb
              have d05 := HD0.out wo5 hb
              have lfx : h6 < wo5.heap.size := by omega
              have lbb : bb < wo5.heap.size := by omega
              clear hb
              by_cases hlt3 : k3 < ll
              case neg =>
                obtain rfl : ll = k3 := by omega
                have hnl3 : ¬ ((ll : Int) < (ll : Int)) := by omega
                have HWE := hide (fun (c : Nat) (hc : (c : Int) ∈ nxt f b) => HWN.out b c δ1 δ2 l (by rw [HLL.out]; exact HWC.out) HLE.out hc)
                have HNX5 := hide (HNX.out b hbl wo5 (HUP.out wo5 HC5.out))
                have HNR5 := hide (HNR.out b)
                have hnlr := HLS.out
                rw [hnlr] at HNR5
                clear hnlr
                obtain ⟨nl, hnl⟩ : ∃ nl, nxt f b = nl := ⟨_, rfl⟩
                rw [hnl] at HNX5 HNR5 HWE
                obtain ⟨n, hn⟩ : ∃ n, nl.length = n := ⟨_, rfl⟩
                have HNL := hide hn
                rw [hn] at HNX5
                clear hnl hn
                go_upto_region 38 with (go_at_call 24; (with_reducible refine HNX5.out.mono ?_); rintro e w9 ⟨A9, c9, rfl, hs9, hb9⟩; have HB9 := hide hb9; have HC9 := hide (HC5.out.trans (hb9.mono hszo5)); have HS9 := hide hs9; clear hs9 hb9)
                have hsz9 := HB9.out.size
                have HF9 := hide (HBW.out.trans ((HUP.out w9 HC9.out).mono hszo))
                by_cases hn0 : n = 0
                case pos =>
                  subst hn0
                  go_wp2
                  go_roundw
                  case rel => exact ⟨k + 1, by omega, by go_num, HF9.out⟩
                  case measure => simp [intOf]; omega
                have hnb : ((n : Int) == 0) = false := by simp; omega
                by_cases hsp : s3 = lpk
                case pos =>
                  subst hsp
                  go_wp2
                  go_roundw
                  case rel => exact ⟨k + 1, by omega, by go_num, HF9.out⟩
                  case measure => simp [intOf]; omega
                have hsb : ((s3 : Int) == (lpk : Int)) = false := by simp; omega
                obtain ⟨bp, op, hApk, lbp, hcpk⟩ := HZW.out w9 HF9.out (by rw [HZL.out]; omega)
                subst hApk
                have hpz := hcpk s3 (by rw [HZL.out]; omega)
                have hzm := HZB.out (zs.getD s3 0) (getD_mem9 (by rw [HZL.out]; omega))
                clear hcpk
                have lbp9 : bp < w9.heap.size := by omega
                generalize zs.getD s3 0 = zv at *
                obtain ⟨zn, rfl⟩ : ∃ zn : Nat, zv = (zn : Int) := ⟨zv.toNat, by omega⟩
                obtain ⟨hz0, hz1⟩ := hzm
                obtain ⟨at9, hat⟩ : ∃ r, zn % n = r := ⟨_, rfl⟩
                have hatl : at9 < n := by rw [← hat]; exact Nat.mod_lt _ (by omega)
                have t1 : (zn : Int).tmod (n : Int) = (at9 : Int) := by rw [← hat]; exact (Int.ofNat_tmod zn n).symm
                have t3 : (zn : Int) % (n : Int) = (at9 : Int) := by rw [← hat]; exact (Int.natCast_emod zn n).symm
                clear hat
                obtain ⟨b9, o9, hA9, lb9, hc9⟩ := HS9.out (by rw [HNL.out]; omega)
                subst hA9
                have hcz := hc9 at9 (by rw [HNL.out]; exact hatl)
                clear hc9
                have hcm : nl.getD at9 0 ∈ nl := getD_mem9 (by rw [HNL.out]; exact hatl)
                obtain ⟨hcr0, hcr1⟩ := HNR5.out _ hcm
                have HWE9 := hide (fun (c : Nat) (h : nl.getD at9 0 = (c : Int)) => HWE.out c (h ▸ hcm))
                clear hcm
                generalize nl.getD at9 0 = cv at *
                obtain ⟨cn, rfl⟩ : ∃ cn : Nat, cv = (cn : Int) := ⟨cv.toNat, by omega⟩
                have hn9 : (0 : Int) < (n : Int) := by omega
                have ha9 : (0 : Int) ≤ (at9 : Int) := by omega
                have ha9b : (at9 : Int) < (n : Int) := by omega
                have hs3a : (0 : Int) ≤ (s3 : Int) := by omega
                have hs3b : (s3 : Int) < (lpk : Int) := by omega
                clear c0 c1 c2 c3 c4 d05
                go_wp2
                go_roundw
                case rel => exact ⟨cn, s3 + 1, δ1, δ2, rfl, by go_num, by omega, by omega, hide (HWE9.out cn rfl), hide (HE1.out.below HB9.out), hide (HE2.out.below HB9.out), HC9.out⟩
                case measure => simp [intOf]; omega
              obtain ⟨x, hx⟩ : ∃ x, l[k3]? = some x := ⟨_, List.getElem?_eq_getElem (by have := HLL.out; omega)⟩
              obtain ⟨bx, ox, Ay, cy, hAl, hbx, ⟨z0, z1, z2, z3, z4, z5, z6⟩, hxi⟩ := (HLI.out wo5 HC5.out).get hx
              subst hAl
              have hxl := List.mem_of_getElem? hx
              have HNO := hide (fun (h : hasB4 x.op 68 = false) => HWN0.out b k3 δ1 δ2 l x HWC.out HLE.out hx h)
              have HYE := hide (fun (h68 : hasB4 x.op 68 = true) (dn : Nat) (hd : x.d = (dn : Int)) (hdl : dn < lk) v hv => HWY.out b k3 δ1 δ2 l x HWC.out HLE.out hx h68 dn hd hdl v hv)
              have HSI5 := hide (HSI.out l HLM.out x hxl)
              have HSF5 := hide (HSF.out l HLM.out x hxl)
              have HS0 : hasB4 x.op 68 = false → Hid (∀ W, Calls Tryz.prog 23 #[.agg #[.int .i64 x.op, .int .i64 x.d, .int .i64 x.a, .int .i64 x.b, .int .i64 x.n, .int .i64 x.m, .slice Ay x.args.length cy]] W fun e w' => e = .returned (.tuple #[.int .i64 0, .bool false]) ∧ Below W.heap.size W w') := fun h => hide (fun W => by have t := sets4_any x Ay x.args.length cy W; rw [h, if_neg (by simp)] at t; exact t)
              have HS1 : hasB4 x.op 68 = true → Hid (∀ W, Calls Tryz.prog 23 #[.agg #[.int .i64 x.op, .int .i64 x.d, .int .i64 x.a, .int .i64 x.b, .int .i64 x.n, .int .i64 x.m, .slice Ay x.args.length cy]] W fun e w' => e = .returned (.tuple #[.int .i64 x.d, .bool true]) ∧ Below W.heap.size W w') := fun h => hide (fun W => by have t := sets4_any x Ay x.args.length cy W; rw [h, if_pos rfl] at t; exact t)
              clear hxi hx hxl
              have lbx : bx < wo5.heap.size := by omega
              have hki3 : (0 : Int) ≤ (k3 : Int) := by omega
              have hkl3 : (k3 : Int) < (ll : Int) := by omega
              obtain ⟨h68, hh68⟩ : ∃ t, hasB4 x.op 68 = t := ⟨_, rfl⟩
              cases h68
              case false =>
                have HS := HS0 hh68
                have HN := hide (HNO.out hh68)
                clear hh68 HS0 HS1 HNO HYE HSI5 HSF5
                generalize x.args.length = ly, x.op = yo, x.d = yd, x.a = ya, x.b = yb, x.n = yn, x.m = ym at *
                go_wp2_with (go_at_call 23; (with_reducible refine (HS.out _).mono ?_); rintro e w8 ⟨rfl, hb8⟩; have HB8 := hide hb8; clear hb8)
                go_roundw
                case rel => exact ⟨k3 + 1, δ1, δ2, by go_num, by omega, HN, hide (HE1.out.below HB8.out), hide (HE2.out.below HB8.out), HC5.out.trans (HB8.out.mono hszo5)⟩
                case measure => simp [intOf]; omega
              have HS := HS1 hh68
              have HSI6 := HSI5.out hh68
              have HY := hide (HYE.out hh68)
              clear hh68 HS0 HS1 HNO HYE HSI5
              generalize x.args.length = ly, x.op = yo, x.d = yd, x.a = ya, x.b = yb, x.n = yn, x.m = ym at *
              obtain ⟨dn, rfl⟩ : ∃ dn : Nat, yd = (dn : Int) := ⟨yd.toNat, by omega⟩
              have hdl : dn < lk := by omega
              have hdl0 : (0 : Int) ≤ (dn : Int) := by omega
              have hdl1 : (dn : Int) < (lk : Int) := by omega
              clear HSI6
              obtain ⟨kd, hkd⟩ := HKQ.out dn hdl
              obtain ⟨bd, hbd⟩ := HBQ.out dn hdl
              obtain ⟨bk, ok, hAk, hbk, -, -⟩ := (HKL.out w5 (HUP.out w5 (Below.refl _ _))).get hkd
              obtain ⟨bl, ol, hAbb, hbl2, -, -⟩ := (HBA.out w5 (HUP.out w5 (Below.refl _ _))).get hbd
              subst hAk
              subst hAbb
              have HKC : Hid (∀ (m : Nat) (z : Int), f.kinds[m]? = some z → ∀ W, Below w5.heap.size w5 W → W.cell? ⟨bk, ok + m, none⟩ = some (.int .i64 z)) := hide (fun m z hm W hW => by obtain ⟨b', o', h1, -, h2, -⟩ := (HKL.out W (HUP.out W hW)).get hm; cases h1; exact h2)
              have HBC : Hid (∀ (m : Nat) (z : Int), f.base[m]? = some z → ∀ W, Below w5.heap.size w5 W → W.cell? ⟨bl, ol + m, none⟩ = some (.int .i64 z)) := hide (fun m z hm W hW => by obtain ⟨b', o', h1, -, h2, -⟩ := (HBA.out W (HUP.out W hW)).get hm; cases h1; exact h2)
              have HKD := hide (fun (h : kd = 2) => (show f.kinds[dn]? = some 2 from h ▸ hkd))
              have HKE := hide (fun (h : f.kinds[dn]? = some 2) => (show kd = 2 from Option.some.inj (hkd.symm.trans h)))
              have HKD0 := hide hkd
              clear hkd hbd
              obtain ⟨vv, hvv⟩ : ∃ vv : Bool, vv = true ↔ (kd = 2 ∧ (yo = 16 → ∃ a : Nat, ya = (a : Int) ∧ a < lk ∧ δ2 a = true)) := ⟨@decide _ (Classical.propDecidable _), @decide_eq_true_iff _ (Classical.propDecidable _)⟩
              have HVV := hide hvv
              have HY2 := hide (HY.out dn rfl hdl vv (hvv.trans ⟨fun h => ⟨HKD.out h.1, h.2⟩, fun h => ⟨HKE.out h.1, h.2⟩⟩))
              clear hvv HY HKD HKE
              go_upto_region 30 with (go_at_call 23; (with_reducible refine (HS.out _).mono ?_); rintro e w8 ⟨rfl, hb8⟩; have HB8 := hide hb8; clear hb8)
              have hsz8 := HB8.out.size
              have HC8 := hide (HC5.out.trans (HB8.out.mono hszo5))
              have HE1 := hide (HE1.out.below HB8.out)
              have HE2 := hide (HE2.out.below HB8.out)
              have y0 := (HB8.out.cell (p := ⟨bx, ox + k3 * 7, none⟩) lbx).trans z0
              have y2 := (HB8.out.cell (p := ⟨bx, ox + k3 * 7 + 2, none⟩) lbx).trans z2
              have lbx8 : bx < w8.heap.size := by omega
              have lbk8 : bk < w8.heap.size := by omega
              clear z0 z1 z2 z3 z4 z5 z6 c0 c1 c2 c3 c4 d05 lfx lbb HS
              obtain ⟨c0, c1, c2, c3, c4⟩ := HFK0.out w8 HC8.out
              have lfx : h6 < w8.heap.size := by omega
              have ek := HKC.out dn kd HKD0.out w8 HC8.out
              go_cut [19] from 136 to 159 (fun v wx => v = .bool vv ∧ wx = w8)
              case first =>
                by_cases hk2 : kd = 2
                case neg =>
                  have hkb : (kd == 2) = false := by simp [hk2]
                  obtain rfl : vv = false := Bool.eq_false_iff.2 (fun h => hk2 (HVV.out.1 h).1)
                  clear HVV
                  go_wp2_with fail
                  go_meet
                  exact ⟨rfl, rfl⟩
                subst hk2
                by_cases ho : yo = 16
                case neg =>
                  have hob : (yo == 16) = false := by simp [ho]
                  have hob2 : (yo != 16) = true := by simp [ho]
                  obtain rfl : vv = true := HVV.out.2 ⟨rfl, fun h => absurd h ho⟩
                  clear HVV
                  go_wp2_with fail
                  go_meet
                  exact ⟨rfl, rfl⟩
                subst ho
                obtain ⟨ha0, hal⟩ := HSF5.out rfl
                obtain ⟨an, rfl⟩ : ∃ an : Nat, ya = (an : Int) := ⟨ya.toNat, by omega⟩
                obtain ⟨d2, -⟩ := HE2.out.cell (b := an) (by omega)
                have lg2 := HE2.out.lt
                have hve : δ2 an = vv := (hve9 HVV.out rfl rfl rfl (by omega)).symm
                rw [hve] at d2
                clear HVV hve
                go_wp2_with fail
                go_meet
                exact ⟨rfl, rfl⟩
              case rest =>
                obtain ⟨rfl, rfl⟩ := hcut
                obtain ⟨w8, rfl⟩ : ∃ w8, w8 = wc := ⟨_, rfl⟩
                clear HVV HKD0 ek y0 y2
                go_wp2
                go_loopw [20] (fun i wr => ∃ k6 : Nat, k6 ≤ lk ∧ i = .int .i64 k6 ∧ Hid (BG wr g1 lk δ1) ∧ Hid (BG wr g2 lk (clr f (dn : Int) k6 δ2)) ∧ Below w5.heap.size w5 wr) (fun i _ => lk - (intOf i).toNat)
                case atStart => exact ⟨0, Nat.zero_le _, rfl, HE1, hide (HE2.out.ext (clr_zero f _ δ2)), HC8.out⟩
                case round =>
                  obtain ⟨k6, hk6, rfl, HF1, HF2, hb⟩ := hrel
                  obtain ⟨wo6, rfl⟩ : ∃ wo6, wo6 = wr := ⟨_, rfl⟩
                  clear HE1 HE2 HC8 c0 c1 c2 c3 c4 lfx lbx8 lbk8 HB8 hsz8
                  have hszo6 := hb.size
                  have HC10 := hide hb
                  obtain ⟨c0, c1, c2, c3, c4⟩ := HFK0.out wo6 hb
                  have lfx : h6 < wo6.heap.size := by omega
                  clear hb
                  have lg1 := HF1.out.lt
                  have lg2 := HF2.out.lt
                  by_cases hlt6 : k6 < lk
                  case neg =>
                    obtain rfl : lk = k6 := by omega
                    have hnl6 : ¬ ((lk : Int) < (lk : Int)) := by omega
                    obtain ⟨d1, f1⟩ := HF1.out.cell (b := dn) hdl
                    obtain ⟨d2, f2⟩ := HF2.out.cell (b := dn) hdl
                    go_wp2
                    go_roundw
                    case rel => exact ⟨k3 + 1, _, _, by go_num, by omega, HY2, hide ((HF1.out.set dn true).other hgne), hide ((HF2.out.other (fun h => hgne h.symm)).set dn vv), Below.setCell (p := ⟨g2, _, none⟩) (Below.setCell (p := ⟨g1, _, none⟩) HC10.out (by simpa using hg1) _) (by simpa using hg2) _⟩
                    case measure => simp [intOf]; omega
                  obtain ⟨kz, hkz⟩ := HKQ.out k6 hlt6
                  obtain ⟨bz, hbz⟩ := HBQ.out k6 hlt6
                  have ek := HKC.out k6 kz hkz wo6 HC10.out
                  have eb := HBC.out k6 bz hbz wo6 HC10.out
                  have HY6 := hide (fun (h1 : kz = 2) (h2 : bz = (dn : Int)) => (show ∀ m, (if m = k6 then false else clr f (dn : Int) k6 δ2 m) = clr f (dn : Int) (k6 + 1) δ2 m from fun m => clr_yes (by rw [hkz, h1]) (by rw [hbz, h2]) m))
                  have HN6 := hide (fun (h : ¬ (kz = 2 ∧ bz = (dn : Int))) => (show ∀ m, clr f (dn : Int) k6 δ2 m = clr f (dn : Int) (k6 + 1) δ2 m from fun m => clr_no (by rw [hkz, hbz]; exact fun h2 => h ⟨Option.some.inj h2.1, Option.some.inj h2.2⟩) m))
                  clear hkz hbz
                  have hk6a : (0 : Int) ≤ (k6 : Int) := by omega
                  have hk6b : (k6 : Int) < (lk : Int) := by omega
                  have lbk6 : bk < wo6.heap.size := by omega
                  have lbl6 : bl < wo6.heap.size := by omega
                  by_cases hk2 : kz = 2
                  case neg =>
                    have hkb : (kz == 2) = false := by simp [hk2]
                    go_wp2
                    go_roundw
                    case rel => exact ⟨k6 + 1, by omega, by go_num, HF1, hide (HF2.out.ext (HN6.out (fun h => hk2 h.1))), HC10.out⟩
                    case measure => simp [intOf]; omega
                  subst hk2
                  by_cases hb2 : bz = (dn : Int)
                  case neg =>
                    have hbb2 : (bz == (dn : Int)) = false := by simp [hb2]
                    go_wp2
                    go_roundw
                    case rel => exact ⟨k6 + 1, by omega, by go_num, HF1, hide (HF2.out.ext (HN6.out (fun h => hb2 h.2))), HC10.out⟩
                    case measure => simp [intOf]; omega
                  subst hb2
                  obtain ⟨d2, f2⟩ := HF2.out.cell (b := k6) hlt6
                  go_wp2
                  go_roundw
                  case rel => exact ⟨k6 + 1, by omega, by go_num, hide (HF1.out.other hgne), hide ((HF2.out.set k6 false).ext (HY6.out rfl rfl)), Below.setCell (p := ⟨g2, _, none⟩) HC10.out (by simpa using hg2) _⟩
                  case measure => simp [intOf]; omega
end Go.Proofs.YtajndgoichlnmaaGreatDoor
