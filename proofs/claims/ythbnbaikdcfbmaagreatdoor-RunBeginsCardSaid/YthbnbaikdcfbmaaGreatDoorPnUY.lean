/- The statement RunBegins, walked: it answers true. Conditions: the tables of parts and of rows read as listed; no slice of the program is .. -/
import Derived.Test.YthbnbaikdcfbmaaGreatDoorPnUCb
set_option linter.unusedSimpArgs false
set_option linter.unusedVariables false
set_option maxHeartbeats 4000000
set_option maxRecDepth 100000
namespace Go.Proofs.YthbnbaikdcfbmaaGreatDoor
open Go.RowKit
structure Tst (w3 w : World) (cs : List (Value × List Int)) (N : List (Nat × Array Value)) : Prop where
 be : Below w3.heap.size w3 w
 bx : ∀ x ∈ N, Box w x.1 x.2 35 ∧ w3.heap.size ≤ x.1
 nd : (N.map Prod.fst).Nodup
 ev : ∀ c ∈ cs, ∃ lo hi, hi ≤ w.heap.size ∧ (∀ x ∈ N, x.1 < lo ∨ hi ≤ x.1) ∧ IntsV w (fun b => lo ≤ b ∧ b < hi) c.1 c.2
theorem Tst.call {w3 w w' : World} {cs : List (Value × List Int)} {N : List (Nat × Array Value)} {v : Value} {e : List Int} (h : Tst w3 w cs N) (hb : Below w.heap.size w w') (hi : IntsV w' (fun b => w.heap.size ≤ b ∧ b < w'.heap.size) v e) : Tst w3 w' ((v, e) :: cs) N := by
 refine ⟨h.be.trans (hb.mono h.be.size), fun x hx => ⟨(h.bx x hx).1.below hb, (h.bx x hx).2⟩, h.nd, fun c hc => ?_⟩
 rcases List.mem_cons.1 hc with rfl | hc
 ·exact ⟨_, _, Nat.le_refl _, fun x hx => .inl (h.bx x hx).1.lt, hi⟩
 ·obtain ⟨lo, hi', h1, h2, h3⟩ := h.ev c hc
  exact ⟨lo, hi', Nat.le_trans h1 hb.size, h2, IntsV.keep h3 (fun b o hb' => hb.cell (p := ⟨b, o, none⟩) (by have := hb'.2; show b < w.heap.size; omega)) (fun _ h => h)⟩
theorem Tst.new {w3 w : World} {cs : List (Value × List Int)} {N : List (Nat × Array Value)} (h : Tst w3 w cs N) : Tst w3 (w.alloc (.cells #[.slice none 0 0, .int .i64 0, .int .i64 0, .int .i64 0] 35)) cs ((w.heap.size, #[.slice none 0 0, .int .i64 0, .int .i64 0, .int .i64 0]) :: N) := by
 have hb : Below w.heap.size w (w.alloc (.cells #[.slice none 0 0, .int .i64 0, .int .i64 0, .int .i64 0] 35)) := ja4 w _
 refine ⟨h.be.trans (hb.mono h.be.size), fun x hx => ?_, ?_, fun c hc => ?_⟩
 ·rcases List.mem_cons.1 hx with rfl | hx
  ·exact ⟨Box.new w _ _, h.be.size⟩
  ·exact ⟨(h.bx x hx).1.below hb, (h.bx x hx).2⟩
 ·refine List.nodup_cons.2 ⟨fun hm => ?_, h.nd⟩
  obtain ⟨x, hx, e⟩ := List.mem_map.1 hm
  have := (h.bx x hx).1.lt
  omega
 ·obtain ⟨lo, hi', h1, h2, h3⟩ := h.ev c hc
  refine ⟨lo, hi', Nat.le_trans h1 hb.size, fun x hx => ?_, IntsV.keep h3 (fun b o hb' => hb.cell (p := ⟨b, o, none⟩) (by have := hb'.2; show b < w.heap.size; omega)) (fun _ h => h)⟩
  rcases List.mem_cons.1 hx with rfl | hx
  ·exact .inr h1
  ·exact h2 x hx
theorem Tst.swap {w3 w : World} {cs : List (Value × List Int)} {x y : Nat × Array Value} (h : Tst w3 w cs [x, y]) : Tst w3 w cs [y, x] := by
 have hm : ∀ z, z ∈ [y, x] → z ∈ [x, y] := fun z hz => by simp at hz ⊢; exact hz.symm
 exact ⟨h.be, fun z hz => h.bx z (hm z hz), by have := h.nd; simp at this ⊢; exact fun e => this e.symm, fun c hc => by
  obtain ⟨lo, hi', h1, h2, h3⟩ := h.ev c hc
  exact ⟨lo, hi', h1, fun z hz => h2 z (hm z hz), h3⟩⟩
theorem Tst.put {w3 w : World} {cs : List (Value × List Int)} {H G : Nat} {B : Array Value} {z0 z1 z2 z3 : Value} (h : Tst w3 w cs [(H, #[z0, z1, z2, z3]), (G, B)]) (v0 v1 v2 v3 : Value) : Tst w3 ((((w.setCell ⟨H, 0, none⟩ v0).setCell ⟨H, 1, none⟩ v1).setCell ⟨H, 2, none⟩ v2).setCell ⟨H, 3, none⟩ v3) cs [(H, #[v0, v1, v2, v3]), (G, B)] := by
 have hg : w3.heap.size ≤ H := (h.bx (H, #[z0, z1, z2, z3]) (by simp)).2
 have hH : Box w H #[z0, z1, z2, z3] 35 := (h.bx (H, #[z0, z1, z2, z3]) (by simp)).1
 have hG : Box w G B 35 := (h.bx (G, B) (by simp)).1
 have hne : G ≠ H := by have := h.nd; simp at this; exact fun e => this e.symm
 refine ⟨(((h.be.setCell (p := ⟨H, 0, none⟩) hg _).setCell (p := ⟨H, 1, none⟩) hg _).setCell (p := ⟨H, 2, none⟩) hg _).setCell (p := ⟨H, 3, none⟩) hg _, fun x hx => ?_, h.nd, fun c hc => ?_⟩
 ·rcases List.mem_cons.1 hx with rfl | hx
  ·exact ⟨by have t := (((hH.set 0 v0).set 1 v1).set 2 v2).set 3 v3; simpa using t, hg⟩
  ·obtain rfl : x = (G, B) := by simpa using hx
   exact ⟨(((hG.other (g := H) (j := 0) (v := v0) hne).other (g := H) (j := 1) (v := v1) hne).other (g := H) (j := 2) (v := v2) hne).other (g := H) (j := 3) (v := v3) hne, (h.bx (G, B) (by simp)).2⟩
 ·obtain ⟨lo, hi', h1, h2, h3⟩ := h.ev c hc
  refine ⟨lo, hi', by rw [World.size_setCell, World.size_setCell, World.size_setCell, World.size_setCell]; exact h1, fun x hx => ?_, IntsV.keep h3 (fun b o hb => ?_) (fun _ h => h)⟩
  ·rcases List.mem_cons.1 hx with rfl | hx
   ·exact h2 (H, #[z0, z1, z2, z3]) (by simp)
   ·exact h2 x (List.mem_cons_of_mem _ hx)
  ·have hnb : b ≠ H := by
    have h4 := h2 (H, #[z0, z1, z2, z3]) (by simp)
    have h5 := hb.1
    have h6 := hb.2
    (try simp only at h4)
    omega
   exact ja8 (by rw [heap_setCell_other _ _ _ _ hnb, heap_setCell_other _ _ _ _ hnb, heap_setCell_other _ _ _ _ hnb, heap_setCell_other _ _ _ _ hnb]) o
theorem Tst.ints {w3 w : World} {cs : List (Value × List Int)} {N : List (Nat × Array Value)} (h : Tst w3 w cs N) (c : Value × List Int) (hc : c ∈ cs) : IntsV w (· < w.heap.size) c.1 c.2 := by
 obtain ⟨lo, hi', h1, h2, h3⟩ := h.ev c hc
 exact IntsV.keep h3 (fun _ _ _ => rfl) (fun b hb => Nat.lt_of_lt_of_le hb.2 h1)
theorem Tst.hd {w3 w : World} {cs : List (Value × List Int)} {N : List (Nat × Array Value)} {H : Nat} {c : Array Value} (h : Tst w3 w cs ((H, c) :: N)) : Box w H c 35 := (h.bx (H, c) (by simp)).1
theorem begins10_law (vp : Value) (p : List FunV) (n0 m0 : Nat) (hn0 : n0 < 65536) (hm0 : m0 < 65536) (w : World) (hT : TabP w) (hR : RowP w) (hp : FunsV w (· < w.heap.size) vp p) (hsz : jg8 p) :
  Calls Tryz.prog 5 #[.agg #[vp], .agg #[.int .u16 (n0 : Int), .int .u16 (m0 : Int)]] w fun e w' => e = .returned (.bool true) ∧ Below w.heap.size w w' := by
 have HAL := hide (fun (W : World) (hW : Below w.heap.size w W) => jhg W (hT.below hW hT.1) (hR.below hW hR.1))
 have HOUT := hide (fun (W : World) (hW : Below w.heap.size w W) => jkh vp p W w.heap.size hW.size (hp.keep (up hW (Nat.le_refl _)) (fun _ h => h)) hsz)
 have HRUN := hide (fun (h : ChkR p 0 ∧ jaz p) (m : Nat) (W : World) (hW : Below w.heap.size w W) => jg7 vp p (m : Int) W w.heap.size hW.size (hp.keep (up hW (Nat.le_refl _)) (fun _ h => h)) (hT.below hW hT.1) (hR.below hW hR.1) h.2 (fun n hn => hn.one h.1) (jcw h.1) (jcj hp))
 have HSTP := hide (fun (h : ChkR p 0 ∧ jaz p) (m : Nat) (W : World) (hW : Below w.heap.size w W) => jht vp p (m : Int) W w.heap.size hW.size (hp.keep (up hW (Nat.le_refl _)) (fun _ h => h)) (hT.below hW hT.1) (hR.below hW hR.1) h.2 (fun n hn => hn.one h.1) (jcw h.1) (jcj hp))
 have HHEP := hide (fun (h : ChkR p 0 ∧ jaz p) (m : Nat) (W : World) (hW : Below w.heap.size w W) => jjo vp p (m : Int) W w.heap.size hW.size (hp.keep (up hW (Nat.le_refl _)) (fun _ h => h)) (hT.below hW hT.1) (hR.below hW hR.1) h.2 (fun n hn => hn.one h.1) (jcw h.1) (jcj hp))
 have HINV := hide (fun (h : ChkR p 0 ∧ jaz p) (n m : Nat) (hnm : n ≤ m) (hm : m ≤ 4000) => And.intro (run_inv (jcw h.1) (jcj hp) (n : Int)) (And.intro (jq7 (jcw h.1) (jcj hp) n (Nat.le_trans hnm hm)) (run_more (jcw h.1) (jcj hp) n m hnm hm)))
 obtain ⟨an, han⟩ := zl (n0 % 3000)
 obtain ⟨am, ham⟩ := zl (m0 % 3000)
 have t1 : (n0 : Int).tmod 3000 = (an : Int) := by rw [← han]; exact (Int.ofNat_tmod n0 3000).symm
 have t2 : (m0 : Int).tmod 3000 = (am : Int) := by rw [← ham]; exact (Int.ofNat_tmod m0 3000).symm
 have t3 : (n0 : Int) % 3000 = (an : Int) := by rw [← han]; exact (Int.natCast_emod n0 3000).symm
 have t4 : (m0 : Int) % 3000 = (am : Int) := by rw [← ham]; exact (Int.natCast_emod m0 3000).symm
 have HAA := hide (show an ≤ 3000 ∧ am ≤ 3000 by omega)
 have q0 : (0 : Int) ≤ (n0 : Int) := by omega
 have q1 : (n0 : Int) ≤ 65535 := by omega
 have q2 : (0 : Int) ≤ (m0 : Int) := by omega
 have q3 : (m0 : Int) ≤ 65535 := by omega
 obtain ⟨A, c, rfl, hpc, hpm⟩ := hp.open'
 obtain ⟨lp, hlp⟩ := zl p.length
 rw [hlp] at HOUT HRUN HSTP HHEP ⊢
 clear hp hsz hlp hT hR hpc hpm hn0 hm0 han ham
 have HTM := hide (And.intro (And.intro t1 (And.intro t2 (And.intro t3 t4))) (And.intro q0 (And.intro q1 (And.intro q2 q3))))
 clear t1 t2 t3 t4 q0 q1 q2 q3
 go_enter Tryz.func5, Tryz.ntmps5
 go_upto_region 1 with (fail)
 obtain ⟨w0, hw0⟩ := zr ((w.alloc (.cells #[.slice A lp c] 24)).alloc (.cells #[.int .u16 (n0 : Int), .int .u16 (m0 : Int)] 46))
 obtain ⟨h0, hh0⟩ := zl w.heap.size
 have HX0 := zy2 hw0 hh0
 have HY0 := zx2 hw0 hh0
 have HB0 := hide (show Below w.heap.size w w0 by rw [hw0]; exact jbm w _ _)
 rw [← hw0, hh0]
 clear hw0 hh0
 go_upto_region 3 with (go_at_call 8; refine (HAL.out w0 HB0.out).mono ?_; rintro e w1 ⟨rfl, hb1⟩; have HX1 := hide (HX0.out.below hb1); have HY1 := hide (HY0.out.below hb1); have HC1 := hide (HB0.out.trans (hb1.mono HB0.out.size)); clear hb1)
 have x1 := (HX1.out.cell 0 (v := .slice A lp c) rfl).1
 have l1 := HX1.out.lt
 go_upto_region 5 with (go_at_call 9; refine (HOUT.out w1 HC1.out).mono ?_; rintro e w2 ⟨b1, rfl, hs2, hb2⟩; have HB2 := hide (HC1.out.trans (hb2.mono HC1.out.size)); have HX2 := hide (HX1.out.below hb2); have HY2 := hide (HY1.out.below hb2); have HS2 := hide hs2; clear hb2 hs2; cases b1)
 all_goals try (go_ret; exact ⟨rfl, HB2.out⟩)
 have HOK := hide (HS2.out.out (by simp))
 have HIN2 := hide (HINV.out HOK.out)
 have HRP := hide (fun (m : Nat) (W : World) (hW : Below w2.heap.size w2 W) => HRUN.out HOK.out m W (HB2.out.trans (hW.mono HB2.out.size)))
 have HSP := hide (fun (m : Nat) (W : World) (hW : Below w2.heap.size w2 W) => HSTP.out HOK.out m W (HB2.out.trans (hW.mono HB2.out.size)))
 have HHP := hide (fun (m : Nat) (W : World) (hW : Below w2.heap.size w2 W) => HHEP.out HOK.out m W (HB2.out.trans (hW.mono HB2.out.size)))
 have HKS := hide (fun (W : World) (hW : Below w2.heap.size w2 W) => ((HX2.out.below hW).cell 0 (v := .slice A lp c) rfl).1)
 have HKL := hide (fun (W : World) (hW : Below w2.heap.size w2 W) => (HX2.out.below hW).lt)
 have l2 := HX2.out.lt
 have h0w := HX0.out.lt
 clear HOUT HS2 HC1 HX1 HY1 HY0 l1 x1 HOK HINV HRUN HSTP HHEP HAL HX0
 obtain ⟨⟨t1, t2, t3, t4⟩, q0, q1, q2, q3⟩ := HTM.out
 have y0 := (HY2.out.cell 0 (v := .int .u16 (n0 : Int)) rfl).1
 have y1 := (HY2.out.cell 1 (v := .int .u16 (m0 : Int)) rfl).1
 have ly := HY2.out.lt
 go_region
 clear t1 t2 t3 t4 q0 q1 q2 q3 y0 y1 ly
 have hbd : Below w2.heap.size w2 w2.drew := ja7 (Below.refl _ _)
 obtain ⟨w3, hw3⟩ := zl w2.drew
 rw [hw3] at hbd ⊢
 clear hw3
 have hbc := hbd
 clear hbd
 have key : ∃ n m : Nat, n ≤ m ∧ m ≤ 4000 ∧ ((n = an ∧ m = am ∧ ¬ (m : Int) < (n : Int)) ∨ (n = am ∧ m = an ∧ (n : Int) < (m : Int))) := by
  have := HAA.out
  rcases Nat.lt_or_ge am an with hc | hc
  ·exact ⟨am, an, by omega, by omega, .inr ⟨rfl, rfl, by omega⟩⟩
  ·exact ⟨an, am, hc, by omega, .inl ⟨rfl, rfl, by omega⟩⟩
 obtain ⟨n, m, hnm, hm4, ⟨e1, e2, d1⟩ | ⟨e1, e2, d1⟩⟩ := key
 all_goals
  subst e1
  subst e2
  go_upto_region 8 with (fail)
  clear d1
  obtain ⟨hI, hst, hmo⟩ := HIN2.out n m hnm hm4
  obtain ⟨s1, hs1⟩ := zl (runS p (n : Int))
  obtain ⟨s2, hs2⟩ := zl (runS p (m : Int))
  have HR1 := hide (fun (W : World) (hW : Below w3.heap.size w3 W) => HRP.out n W (hbc.trans (hW.mono hbc.size)))
  have HR2 := hide (fun (W : World) (hW : Below w3.heap.size w3 W) => HRP.out m W (hbc.trans (hW.mono hbc.size)))
  have HT1 := hide (fun (W : World) (hW : Below w3.heap.size w3 W) => HSP.out n W (hbc.trans (hW.mono hbc.size)))
  have HT2 := hide (fun (W : World) (hW : Below w3.heap.size w3 W) => HSP.out m W (hbc.trans (hW.mono hbc.size)))
  have HH1 := hide (fun (W : World) (hW : Below w3.heap.size w3 W) => HHP.out n W (hbc.trans (hW.mono hbc.size)))
  have HK3 := hide (fun (W : World) (hW : Below w3.heap.size w3 W) => HKS.out W (hbc.trans (hW.mono hbc.size)))
  have HL3 := hide (fun (W : World) (hW : Below w3.heap.size w3 W) => HKL.out W (hbc.trans (hW.mono hbc.size)))
  have HB3 := hide (HB2.out.trans (hbc.mono HB2.out.size))
  rw [hs1] at HR1 HT1 HH1 hI hst hmo
  rw [hs2] at HR2 HT2 hmo
  have HI := hide hI
  have HST := hide hst
  have HMO := hide hmo
  have hnm2 := hide hnm
  have hl3 : h0 < w3.heap.size := HL3.out w3 (Below.refl _ _)
  clear hs1 hs2 hI hst hmo hnm hm4 hbc HRP HSP HHP HIN2 HX2 HY2 HTM HAA
  go_cut [7, 8] from 9 (fun a b wx => ∃ Ha Hb A1 l1 c1 A2 l2 c2, a = .pointer (some ⟨Ha, 0, none⟩) ∧ b = .pointer (some ⟨Hb, 0, none⟩) ∧ Box wx Ha #[.slice A1 l1 c1, .int .i64 (s1.en : Int), .int .i64 s1.val, .int .i64 (s1.code : Int)] 35 ∧ Box wx Hb #[.slice A2 l2 c2, .int .i64 (s2.en : Int), .int .i64 s2.val, .int .i64 (s2.code : Int)] 35 ∧ IntsV wx (· < wx.heap.size) (.slice A1 l1 c1) s1.ev ∧ IntsV wx (· < wx.heap.size) (.slice A2 l2 c2) s2.ev ∧ Below w3.heap.size w3 wx)
  case first =>
   have ht0 : Tst w3 w3.drew [] [] := ⟨ja7 (Below.refl _ _), fun x hx => by simp at hx, by simp, fun x hx => by simp at hx⟩
   refine jaa (fun w' => w'.cell? ⟨h0, 0, none⟩ = some (.slice A lp c)) 9 (by kernel_rfl) (HK3.out _ ht0.be) ?_
   obtain ⟨w100, hw100⟩ := zl w3.drew
   rw [hw100] at ht0 ⊢
   have HT100 := hide ht0
   have hSd := HK3.out w100 HT100.out.be
   clear hw100 ht0
   focus
    refine tilM 1 (Or.inr hSd) ?_
    refine tilM 4 (Or.inr hSd) ?_
    refine tilT 0 hSd ?_
    refine tilT 3 hSd ?_
    refine ja2 (rs := [2, 6, 7]) (by kernel_rfl) (by simp) ?_
    refine AllTil.cons rfl (fun K hK => ?_) ?_
    rotate_left
    focus
     refine AllTil.cons rfl (fun K hK => ?_) ?_
     rotate_left
     focus
      refine AllTil.cons rfl (fun K hK => ?_) AllTil.nil
      rw [if_pos (by rfl)]
      go_simp
      have ht := HT100.out.new
      obtain ⟨Hb, hH⟩ := zl w100.heap.size
      obtain ⟨w101, hw⟩ := zr (w100.alloc (.cells #[.slice none 0 0, .int .i64 0, .int .i64 0, .int .i64 0] 35))
      rw [← hw, hH] at ht ⊢
      have HT101 := hide ht
      clear hw hH ht
      refine hK.out _ _ (HK3.out w101 HT101.out.be) ?_
      clear hK K hSd
      have hSd := HK3.out w101 HT101.out.be
      try simp only [tilS, Act.put]
      refine ja2 (rs := [2, 6]) (by kernel_rfl) (by simp) ?_
      refine AllTil.cons rfl (fun K hK => ?_) ?_
      rotate_left
      focus
       refine AllTil.cons rfl (fun K hK => ?_) AllTil.nil
       rw [if_pos (by rfl)]
       go_simp
       have ht := HT101.out.new
       obtain ⟨Ha, hH⟩ := zl w101.heap.size
       obtain ⟨w102, hw⟩ := zr (w101.alloc (.cells #[.slice none 0 0, .int .i64 0, .int .i64 0, .int .i64 0] 35))
       rw [← hw, hH] at ht ⊢
       have HT102 := hide ht
       clear hw hH ht
       refine hK.out _ _ (HK3.out w102 HT102.out.be) ?_
       clear hK K hSd
       have hSd := HK3.out w102 HT102.out.be
       try simp only [tilS, Act.put]
       refine ja2 (rs := [2]) (by kernel_rfl) (by simp) ?_
       refine AllTil.cons rfl (fun K hK => ?_) AllTil.nil
       rw [if_pos (by rfl)]
       go_simp
       go_at_call 12
       refine (HR1.out w102 HT102.out.be).mono ?_
       rintro e w103 ⟨ve, rfl, hi2, hb2⟩
       have ht := HT102.out.call hb2 hi2
       obtain ⟨A1, c1, rfl, -⟩ := hi2
       obtain ⟨l1, hl⟩ := zl s1.ev.length
       rw [hl] at ht ⊢
       have HT103 := hide ht
       clear hb2 hl ht
       refine hK.out _ _ (HK3.out w103 HT103.out.be) ?_
       clear hK K hSd
       have hSd := HK3.out w103 HT103.out.be
       try simp only [tilS, Act.put]
       refine ja2 (rs := [5]) (by kernel_rfl) (by simp) ?_
       refine AllTil.cons rfl (fun K hK => ?_) AllTil.nil
       rw [if_pos (by rfl)]
       go_simp
       go_at_call 12
       refine (HR2.out w103 HT103.out.be).mono ?_
       rintro e w104 ⟨ve, rfl, hi2, hb2⟩
       have ht := HT103.out.call hb2 hi2
       obtain ⟨A2, c2, rfl, -⟩ := hi2
       obtain ⟨l2, hl⟩ := zl s2.ev.length
       rw [hl] at ht ⊢
       have HT104 := hide ht
       clear hb2 hl ht
       refine hK.out _ _ (HK3.out w104 HT104.out.be) ?_
       clear hK K hSd
       have hSd := HK3.out w104 HT104.out.be
       try simp only [tilS, Act.put]
       have HTz := hide (HT104.out)
       obtain ⟨wz, hwz⟩ := zl w104
       rw [hwz] at HTz hSd ⊢
      rotate_left 1
      focus
       rw [if_pos (by rfl)]
       go_simp
       go_at_call 12
       refine (HR1.out w101 HT101.out.be).mono ?_
       rintro e w105 ⟨ve, rfl, hi2, hb2⟩
       have ht := HT101.out.call hb2 hi2
       obtain ⟨A1, c1, rfl, -⟩ := hi2
       obtain ⟨l1, hl⟩ := zl s1.ev.length
       rw [hl] at ht ⊢
       have HT105 := hide ht
       clear hb2 hl ht
       refine hK.out _ _ (HK3.out w105 HT105.out.be) ?_
       clear hK K hSd
       have hSd := HK3.out w105 HT105.out.be
       try simp only [tilS, Act.put]
       refine ja2 (rs := [5, 6]) (by kernel_rfl) (by simp) ?_
       refine AllTil.cons rfl (fun K hK => ?_) ?_
       rotate_left
       focus
        refine AllTil.cons rfl (fun K hK => ?_) AllTil.nil
        rw [if_pos (by rfl)]
        go_simp
        have ht := HT105.out.new
        obtain ⟨Ha, hH⟩ := zl w105.heap.size
        obtain ⟨w106, hw⟩ := zr (w105.alloc (.cells #[.slice none 0 0, .int .i64 0, .int .i64 0, .int .i64 0] 35))
        rw [← hw, hH] at ht ⊢
        have HT106 := hide ht
        clear hw hH ht
        refine hK.out _ _ (HK3.out w106 HT106.out.be) ?_
        clear hK K hSd
        have hSd := HK3.out w106 HT106.out.be
        try simp only [tilS, Act.put]
        refine ja2 (rs := [5]) (by kernel_rfl) (by simp) ?_
        refine AllTil.cons rfl (fun K hK => ?_) AllTil.nil
        rw [if_pos (by rfl)]
        go_simp
        go_at_call 12
        refine (HR2.out w106 HT106.out.be).mono ?_
        rintro e w107 ⟨ve, rfl, hi2, hb2⟩
        have ht := HT106.out.call hb2 hi2
        obtain ⟨A2, c2, rfl, -⟩ := hi2
        obtain ⟨l2, hl⟩ := zl s2.ev.length
        rw [hl] at ht ⊢
        have HT107 := hide ht
        clear hb2 hl ht
        refine hK.out _ _ (HK3.out w107 HT107.out.be) ?_
        clear hK K hSd
        have hSd := HK3.out w107 HT107.out.be
        try simp only [tilS, Act.put]
        have HTz := hide (HT107.out)
        obtain ⟨wz, hwz⟩ := zl w107
        rw [hwz] at HTz hSd ⊢
       rotate_left 1
       focus
        rw [if_pos (by rfl)]
        go_simp
        go_at_call 12
        refine (HR2.out w105 HT105.out.be).mono ?_
        rintro e w108 ⟨ve, rfl, hi2, hb2⟩
        have ht := HT105.out.call hb2 hi2
        obtain ⟨A2, c2, rfl, -⟩ := hi2
        obtain ⟨l2, hl⟩ := zl s2.ev.length
        rw [hl] at ht ⊢
        have HT108 := hide ht
        clear hb2 hl ht
        refine hK.out _ _ (HK3.out w108 HT108.out.be) ?_
        clear hK K hSd
        have hSd := HK3.out w108 HT108.out.be
        try simp only [tilS, Act.put]
        refine ja2 (rs := [6]) (by kernel_rfl) (by simp) ?_
        refine AllTil.cons rfl (fun K hK => ?_) AllTil.nil
        rw [if_pos (by rfl)]
        go_simp
        have ht := HT108.out.new
        obtain ⟨Ha, hH⟩ := zl w108.heap.size
        obtain ⟨w109, hw⟩ := zr (w108.alloc (.cells #[.slice none 0 0, .int .i64 0, .int .i64 0, .int .i64 0] 35))
        rw [← hw, hH] at ht ⊢
        have HT109 := hide ht
        clear hw hH ht
        refine hK.out _ _ (HK3.out w109 HT109.out.be) ?_
        clear hK K hSd
        have hSd := HK3.out w109 HT109.out.be
        try simp only [tilS, Act.put]
        have HTz := hide (HT109.out)
        obtain ⟨wz, hwz⟩ := zl w109
        rw [hwz] at HTz hSd ⊢
     rotate_left 3
     focus
      rw [if_pos (by rfl)]
      go_simp
      have ht := HT100.out.new
      obtain ⟨Ha, hH⟩ := zl w100.heap.size
      obtain ⟨w110, hw⟩ := zr (w100.alloc (.cells #[.slice none 0 0, .int .i64 0, .int .i64 0, .int .i64 0] 35))
      rw [← hw, hH] at ht ⊢
      have HT110 := hide ht
      clear hw hH ht
      refine hK.out _ _ (HK3.out w110 HT110.out.be) ?_
      clear hK K hSd
      have hSd := HK3.out w110 HT110.out.be
      try simp only [tilS, Act.put]
      refine ja2 (rs := [2, 7]) (by kernel_rfl) (by simp) ?_
      refine AllTil.cons rfl (fun K hK => ?_) ?_
      rotate_left
      focus
       refine AllTil.cons rfl (fun K hK => ?_) AllTil.nil
       rw [if_pos (by rfl)]
       go_simp
       have ht := HT110.out.new
       obtain ⟨Hb, hH⟩ := zl w110.heap.size
       obtain ⟨w111, hw⟩ := zr (w110.alloc (.cells #[.slice none 0 0, .int .i64 0, .int .i64 0, .int .i64 0] 35))
       rw [← hw, hH] at ht ⊢
       have HT111 := hide ht
       clear hw hH ht
       refine hK.out _ _ (HK3.out w111 HT111.out.be) ?_
       clear hK K hSd
       have hSd := HK3.out w111 HT111.out.be
       try simp only [tilS, Act.put]
       refine ja2 (rs := [2]) (by kernel_rfl) (by simp) ?_
       refine AllTil.cons rfl (fun K hK => ?_) AllTil.nil
       rw [if_pos (by rfl)]
       go_simp
       go_at_call 12
       refine (HR1.out w111 HT111.out.be).mono ?_
       rintro e w112 ⟨ve, rfl, hi2, hb2⟩
       have ht := HT111.out.call hb2 hi2
       obtain ⟨A1, c1, rfl, -⟩ := hi2
       obtain ⟨l1, hl⟩ := zl s1.ev.length
       rw [hl] at ht ⊢
       have HT112 := hide ht
       clear hb2 hl ht
       refine hK.out _ _ (HK3.out w112 HT112.out.be) ?_
       clear hK K hSd
       have hSd := HK3.out w112 HT112.out.be
       try simp only [tilS, Act.put]
       refine ja2 (rs := [5]) (by kernel_rfl) (by simp) ?_
       refine AllTil.cons rfl (fun K hK => ?_) AllTil.nil
       rw [if_pos (by rfl)]
       go_simp
       go_at_call 12
       refine (HR2.out w112 HT112.out.be).mono ?_
       rintro e w113 ⟨ve, rfl, hi2, hb2⟩
       have ht := HT112.out.call hb2 hi2
       obtain ⟨A2, c2, rfl, -⟩ := hi2
       obtain ⟨l2, hl⟩ := zl s2.ev.length
       rw [hl] at ht ⊢
       have HT113 := hide ht
       clear hb2 hl ht
       refine hK.out _ _ (HK3.out w113 HT113.out.be) ?_
       clear hK K hSd
       have hSd := HK3.out w113 HT113.out.be
       try simp only [tilS, Act.put]
       have HTz := hide (HT113.out.swap)
       obtain ⟨wz, hwz⟩ := zl w113
       rw [hwz] at HTz hSd ⊢
      rotate_left 1
      focus
       rw [if_pos (by rfl)]
       go_simp
       go_at_call 12
       refine (HR1.out w110 HT110.out.be).mono ?_
       rintro e w114 ⟨ve, rfl, hi2, hb2⟩
       have ht := HT110.out.call hb2 hi2
       obtain ⟨A1, c1, rfl, -⟩ := hi2
       obtain ⟨l1, hl⟩ := zl s1.ev.length
       rw [hl] at ht ⊢
       have HT114 := hide ht
       clear hb2 hl ht
       refine hK.out _ _ (HK3.out w114 HT114.out.be) ?_
       clear hK K hSd
       have hSd := HK3.out w114 HT114.out.be
       try simp only [tilS, Act.put]
       refine ja2 (rs := [5, 7]) (by kernel_rfl) (by simp) ?_
       refine AllTil.cons rfl (fun K hK => ?_) ?_
       rotate_left
       focus
        refine AllTil.cons rfl (fun K hK => ?_) AllTil.nil
        rw [if_pos (by rfl)]
        go_simp
        have ht := HT114.out.new
        obtain ⟨Hb, hH⟩ := zl w114.heap.size
        obtain ⟨w115, hw⟩ := zr (w114.alloc (.cells #[.slice none 0 0, .int .i64 0, .int .i64 0, .int .i64 0] 35))
        rw [← hw, hH] at ht ⊢
        have HT115 := hide ht
        clear hw hH ht
        refine hK.out _ _ (HK3.out w115 HT115.out.be) ?_
        clear hK K hSd
        have hSd := HK3.out w115 HT115.out.be
        try simp only [tilS, Act.put]
        refine ja2 (rs := [5]) (by kernel_rfl) (by simp) ?_
        refine AllTil.cons rfl (fun K hK => ?_) AllTil.nil
        rw [if_pos (by rfl)]
        go_simp
        go_at_call 12
        refine (HR2.out w115 HT115.out.be).mono ?_
        rintro e w116 ⟨ve, rfl, hi2, hb2⟩
        have ht := HT115.out.call hb2 hi2
        obtain ⟨A2, c2, rfl, -⟩ := hi2
        obtain ⟨l2, hl⟩ := zl s2.ev.length
        rw [hl] at ht ⊢
        have HT116 := hide ht
        clear hb2 hl ht
        refine hK.out _ _ (HK3.out w116 HT116.out.be) ?_
        clear hK K hSd
        have hSd := HK3.out w116 HT116.out.be
        try simp only [tilS, Act.put]
        have HTz := hide (HT116.out.swap)
        obtain ⟨wz, hwz⟩ := zl w116
        rw [hwz] at HTz hSd ⊢
       rotate_left 1
       focus
        rw [if_pos (by rfl)]
        go_simp
        go_at_call 12
        refine (HR2.out w114 HT114.out.be).mono ?_
        rintro e w117 ⟨ve, rfl, hi2, hb2⟩
        have ht := HT114.out.call hb2 hi2
        obtain ⟨A2, c2, rfl, -⟩ := hi2
        obtain ⟨l2, hl⟩ := zl s2.ev.length
        rw [hl] at ht ⊢
        have HT117 := hide ht
        clear hb2 hl ht
        refine hK.out _ _ (HK3.out w117 HT117.out.be) ?_
        clear hK K hSd
        have hSd := HK3.out w117 HT117.out.be
        try simp only [tilS, Act.put]
        refine ja2 (rs := [7]) (by kernel_rfl) (by simp) ?_
        refine AllTil.cons rfl (fun K hK => ?_) AllTil.nil
        rw [if_pos (by rfl)]
        go_simp
        have ht := HT117.out.new
        obtain ⟨Hb, hH⟩ := zl w117.heap.size
        obtain ⟨w118, hw⟩ := zr (w117.alloc (.cells #[.slice none 0 0, .int .i64 0, .int .i64 0, .int .i64 0] 35))
        rw [← hw, hH] at ht ⊢
        have HT118 := hide ht
        clear hw hH ht
        refine hK.out _ _ (HK3.out w118 HT118.out.be) ?_
        clear hK K hSd
        have hSd := HK3.out w118 HT118.out.be
        try simp only [tilS, Act.put]
        have HTz := hide (HT118.out.swap)
        obtain ⟨wz, hwz⟩ := zl w118
        rw [hwz] at HTz hSd ⊢
    rotate_left 6
    focus
     rw [if_pos (by rfl)]
     go_simp
     go_at_call 12
     refine (HR1.out w100 HT100.out.be).mono ?_
     rintro e w119 ⟨ve, rfl, hi2, hb2⟩
     have ht := HT100.out.call hb2 hi2
     obtain ⟨A1, c1, rfl, -⟩ := hi2
     obtain ⟨l1, hl⟩ := zl s1.ev.length
     rw [hl] at ht ⊢
     have HT119 := hide ht
     clear hb2 hl ht
     refine hK.out _ _ (HK3.out w119 HT119.out.be) ?_
     clear hK K hSd
     have hSd := HK3.out w119 HT119.out.be
     try simp only [tilS, Act.put]
     refine ja2 (rs := [5, 6, 7]) (by kernel_rfl) (by simp) ?_
     refine AllTil.cons rfl (fun K hK => ?_) ?_
     rotate_left
     focus
      refine AllTil.cons rfl (fun K hK => ?_) ?_
      rotate_left
      focus
       refine AllTil.cons rfl (fun K hK => ?_) AllTil.nil
       rw [if_pos (by rfl)]
       go_simp
       have ht := HT119.out.new
       obtain ⟨Hb, hH⟩ := zl w119.heap.size
       obtain ⟨w120, hw⟩ := zr (w119.alloc (.cells #[.slice none 0 0, .int .i64 0, .int .i64 0, .int .i64 0] 35))
       rw [← hw, hH] at ht ⊢
       have HT120 := hide ht
       clear hw hH ht
       refine hK.out _ _ (HK3.out w120 HT120.out.be) ?_
       clear hK K hSd
       have hSd := HK3.out w120 HT120.out.be
       try simp only [tilS, Act.put]
       refine ja2 (rs := [5, 6]) (by kernel_rfl) (by simp) ?_
       refine AllTil.cons rfl (fun K hK => ?_) ?_
       rotate_left
       focus
        refine AllTil.cons rfl (fun K hK => ?_) AllTil.nil
        rw [if_pos (by rfl)]
        go_simp
        have ht := HT120.out.new
        obtain ⟨Ha, hH⟩ := zl w120.heap.size
        obtain ⟨w121, hw⟩ := zr (w120.alloc (.cells #[.slice none 0 0, .int .i64 0, .int .i64 0, .int .i64 0] 35))
        rw [← hw, hH] at ht ⊢
        have HT121 := hide ht
        clear hw hH ht
        refine hK.out _ _ (HK3.out w121 HT121.out.be) ?_
        clear hK K hSd
        have hSd := HK3.out w121 HT121.out.be
        try simp only [tilS, Act.put]
        refine ja2 (rs := [5]) (by kernel_rfl) (by simp) ?_
        refine AllTil.cons rfl (fun K hK => ?_) AllTil.nil
        rw [if_pos (by rfl)]
        go_simp
        go_at_call 12
        refine (HR2.out w121 HT121.out.be).mono ?_
        rintro e w122 ⟨ve, rfl, hi2, hb2⟩
        have ht := HT121.out.call hb2 hi2
        obtain ⟨A2, c2, rfl, -⟩ := hi2
        obtain ⟨l2, hl⟩ := zl s2.ev.length
        rw [hl] at ht ⊢
        have HT122 := hide ht
        clear hb2 hl ht
        refine hK.out _ _ (HK3.out w122 HT122.out.be) ?_
        clear hK K hSd
        have hSd := HK3.out w122 HT122.out.be
        try simp only [tilS, Act.put]
        have HTz := hide (HT122.out)
        obtain ⟨wz, hwz⟩ := zl w122
        rw [hwz] at HTz hSd ⊢
       rotate_left 1
       focus
        rw [if_pos (by rfl)]
        go_simp
        go_at_call 12
        refine (HR2.out w120 HT120.out.be).mono ?_
        rintro e w123 ⟨ve, rfl, hi2, hb2⟩
        have ht := HT120.out.call hb2 hi2
        obtain ⟨A2, c2, rfl, -⟩ := hi2
        obtain ⟨l2, hl⟩ := zl s2.ev.length
        rw [hl] at ht ⊢
        have HT123 := hide ht
        clear hb2 hl ht
        refine hK.out _ _ (HK3.out w123 HT123.out.be) ?_
        clear hK K hSd
        have hSd := HK3.out w123 HT123.out.be
        try simp only [tilS, Act.put]
        refine ja2 (rs := [6]) (by kernel_rfl) (by simp) ?_
        refine AllTil.cons rfl (fun K hK => ?_) AllTil.nil
        rw [if_pos (by rfl)]
        go_simp
        have ht := HT123.out.new
        obtain ⟨Ha, hH⟩ := zl w123.heap.size
        obtain ⟨w124, hw⟩ := zr (w123.alloc (.cells #[.slice none 0 0, .int .i64 0, .int .i64 0, .int .i64 0] 35))
        rw [← hw, hH] at ht ⊢
        have HT124 := hide ht
        clear hw hH ht
        refine hK.out _ _ (HK3.out w124 HT124.out.be) ?_
        clear hK K hSd
        have hSd := HK3.out w124 HT124.out.be
        try simp only [tilS, Act.put]
        have HTz := hide (HT124.out)
        obtain ⟨wz, hwz⟩ := zl w124
        rw [hwz] at HTz hSd ⊢
      rotate_left 2
      focus
       rw [if_pos (by rfl)]
       go_simp
       have ht := HT119.out.new
       obtain ⟨Ha, hH⟩ := zl w119.heap.size
       obtain ⟨w125, hw⟩ := zr (w119.alloc (.cells #[.slice none 0 0, .int .i64 0, .int .i64 0, .int .i64 0] 35))
       rw [← hw, hH] at ht ⊢
       have HT125 := hide ht
       clear hw hH ht
       refine hK.out _ _ (HK3.out w125 HT125.out.be) ?_
       clear hK K hSd
       have hSd := HK3.out w125 HT125.out.be
       try simp only [tilS, Act.put]
       refine ja2 (rs := [5, 7]) (by kernel_rfl) (by simp) ?_
       refine AllTil.cons rfl (fun K hK => ?_) ?_
       rotate_left
       focus
        refine AllTil.cons rfl (fun K hK => ?_) AllTil.nil
        rw [if_pos (by rfl)]
        go_simp
        have ht := HT125.out.new
        obtain ⟨Hb, hH⟩ := zl w125.heap.size
        obtain ⟨w126, hw⟩ := zr (w125.alloc (.cells #[.slice none 0 0, .int .i64 0, .int .i64 0, .int .i64 0] 35))
        rw [← hw, hH] at ht ⊢
        have HT126 := hide ht
        clear hw hH ht
        refine hK.out _ _ (HK3.out w126 HT126.out.be) ?_
        clear hK K hSd
        have hSd := HK3.out w126 HT126.out.be
        try simp only [tilS, Act.put]
        refine ja2 (rs := [5]) (by kernel_rfl) (by simp) ?_
        refine AllTil.cons rfl (fun K hK => ?_) AllTil.nil
        rw [if_pos (by rfl)]
        go_simp
        go_at_call 12
        refine (HR2.out w126 HT126.out.be).mono ?_
        rintro e w127 ⟨ve, rfl, hi2, hb2⟩
        have ht := HT126.out.call hb2 hi2
        obtain ⟨A2, c2, rfl, -⟩ := hi2
        obtain ⟨l2, hl⟩ := zl s2.ev.length
        rw [hl] at ht ⊢
        have HT127 := hide ht
        clear hb2 hl ht
        refine hK.out _ _ (HK3.out w127 HT127.out.be) ?_
        clear hK K hSd
        have hSd := HK3.out w127 HT127.out.be
        try simp only [tilS, Act.put]
        have HTz := hide (HT127.out.swap)
        obtain ⟨wz, hwz⟩ := zl w127
        rw [hwz] at HTz hSd ⊢
       rotate_left 1
       focus
        rw [if_pos (by rfl)]
        go_simp
        go_at_call 12
        refine (HR2.out w125 HT125.out.be).mono ?_
        rintro e w128 ⟨ve, rfl, hi2, hb2⟩
        have ht := HT125.out.call hb2 hi2
        obtain ⟨A2, c2, rfl, -⟩ := hi2
        obtain ⟨l2, hl⟩ := zl s2.ev.length
        rw [hl] at ht ⊢
        have HT128 := hide ht
        clear hb2 hl ht
        refine hK.out _ _ (HK3.out w128 HT128.out.be) ?_
        clear hK K hSd
        have hSd := HK3.out w128 HT128.out.be
        try simp only [tilS, Act.put]
        refine ja2 (rs := [7]) (by kernel_rfl) (by simp) ?_
        refine AllTil.cons rfl (fun K hK => ?_) AllTil.nil
        rw [if_pos (by rfl)]
        go_simp
        have ht := HT128.out.new
        obtain ⟨Hb, hH⟩ := zl w128.heap.size
        obtain ⟨w129, hw⟩ := zr (w128.alloc (.cells #[.slice none 0 0, .int .i64 0, .int .i64 0, .int .i64 0] 35))
        rw [← hw, hH] at ht ⊢
        have HT129 := hide ht
        clear hw hH ht
        refine hK.out _ _ (HK3.out w129 HT129.out.be) ?_
        clear hK K hSd
        have hSd := HK3.out w129 HT129.out.be
        try simp only [tilS, Act.put]
        have HTz := hide (HT129.out.swap)
        obtain ⟨wz, hwz⟩ := zl w129
        rw [hwz] at HTz hSd ⊢
     rotate_left 4
     focus
      rw [if_pos (by rfl)]
      go_simp
      go_at_call 12
      refine (HR2.out w119 HT119.out.be).mono ?_
      rintro e w130 ⟨ve, rfl, hi2, hb2⟩
      have ht := HT119.out.call hb2 hi2
      obtain ⟨A2, c2, rfl, -⟩ := hi2
      obtain ⟨l2, hl⟩ := zl s2.ev.length
      rw [hl] at ht ⊢
      have HT130 := hide ht
      clear hb2 hl ht
      refine hK.out _ _ (HK3.out w130 HT130.out.be) ?_
      clear hK K hSd
      have hSd := HK3.out w130 HT130.out.be
      try simp only [tilS, Act.put]
      refine ja2 (rs := [6, 7]) (by kernel_rfl) (by simp) ?_
      refine AllTil.cons rfl (fun K hK => ?_) ?_
      rotate_left
      focus
       refine AllTil.cons rfl (fun K hK => ?_) AllTil.nil
       rw [if_pos (by rfl)]
       go_simp
       have ht := HT130.out.new
       obtain ⟨Hb, hH⟩ := zl w130.heap.size
       obtain ⟨w131, hw⟩ := zr (w130.alloc (.cells #[.slice none 0 0, .int .i64 0, .int .i64 0, .int .i64 0] 35))
       rw [← hw, hH] at ht ⊢
       have HT131 := hide ht
       clear hw hH ht
       refine hK.out _ _ (HK3.out w131 HT131.out.be) ?_
       clear hK K hSd
       have hSd := HK3.out w131 HT131.out.be
       try simp only [tilS, Act.put]
       refine ja2 (rs := [6]) (by kernel_rfl) (by simp) ?_
       refine AllTil.cons rfl (fun K hK => ?_) AllTil.nil
       rw [if_pos (by rfl)]
       go_simp
       have ht := HT131.out.new
       obtain ⟨Ha, hH⟩ := zl w131.heap.size
       obtain ⟨w132, hw⟩ := zr (w131.alloc (.cells #[.slice none 0 0, .int .i64 0, .int .i64 0, .int .i64 0] 35))
       rw [← hw, hH] at ht ⊢
       have HT132 := hide ht
       clear hw hH ht
       refine hK.out _ _ (HK3.out w132 HT132.out.be) ?_
       clear hK K hSd
       have hSd := HK3.out w132 HT132.out.be
       try simp only [tilS, Act.put]
       have HTz := hide (HT132.out)
       obtain ⟨wz, hwz⟩ := zl w132
       rw [hwz] at HTz hSd ⊢
      rotate_left 1
      focus
       rw [if_pos (by rfl)]
       go_simp
       have ht := HT130.out.new
       obtain ⟨Ha, hH⟩ := zl w130.heap.size
       obtain ⟨w133, hw⟩ := zr (w130.alloc (.cells #[.slice none 0 0, .int .i64 0, .int .i64 0, .int .i64 0] 35))
       rw [← hw, hH] at ht ⊢
       have HT133 := hide ht
       clear hw hH ht
       refine hK.out _ _ (HK3.out w133 HT133.out.be) ?_
       clear hK K hSd
       have hSd := HK3.out w133 HT133.out.be
       try simp only [tilS, Act.put]
       refine ja2 (rs := [7]) (by kernel_rfl) (by simp) ?_
       refine AllTil.cons rfl (fun K hK => ?_) AllTil.nil
       rw [if_pos (by rfl)]
       go_simp
       have ht := HT133.out.new
       obtain ⟨Hb, hH⟩ := zl w133.heap.size
       obtain ⟨w134, hw⟩ := zr (w133.alloc (.cells #[.slice none 0 0, .int .i64 0, .int .i64 0, .int .i64 0] 35))
       rw [← hw, hH] at ht ⊢
       have HT134 := hide ht
       clear hw hH ht
       refine hK.out _ _ (HK3.out w134 HT134.out.be) ?_
       clear hK K hSd
       have hSd := HK3.out w134 HT134.out.be
       try simp only [tilS, Act.put]
       have HTz := hide (HT134.out.swap)
       obtain ⟨wz, hwz⟩ := zl w134
       rw [hwz] at HTz hSd ⊢
   all_goals
    clear hwz
    refine ja2 (rs := [8]) (by kernel_rfl) (by simp) ?_
    refine AllTil.cons rfl (fun K hK => ?_) AllTil.nil
    obtain ⟨z0, g0⟩ := HTz.out.hd.cell 0 (v := .slice none 0 0) rfl
    obtain ⟨z1, g1⟩ := HTz.out.hd.cell 1 (v := .int .i64 0) rfl
    obtain ⟨z2, g2⟩ := HTz.out.hd.cell 2 (v := .int .i64 0) rfl
    obtain ⟨z3, g3⟩ := HTz.out.hd.cell 3 (v := .int .i64 0) rfl
    have lz := HTz.out.hd.lt
    rw [if_pos (by rfl)]
    go_simp
    have ht := HTz.out.put (.slice A1 l1 c1) (.int .i64 (s1.en : Int)) (.int .i64 s1.val) (.int .i64 (s1.code : Int))
    obtain ⟨wy, hw⟩ := zl ((((wz.setCell ⟨Ha, 0, none⟩ (.slice A1 l1 c1)).setCell ⟨Ha, 1, none⟩ (.int .i64 (s1.en : Int))).setCell ⟨Ha, 2, none⟩ (.int .i64 s1.val)).setCell ⟨Ha, 3, none⟩ (.int .i64 (s1.code : Int)))
    rw [hw] at ht ⊢
    have HTwy := hide ht.swap
    clear hw ht z0 z1 z2 z3 g0 g1 g2 g3 lz
    refine hK.out _ _ (HK3.out wy HTwy.out.be) ?_
    clear hK K hSd
    have hSd := HK3.out wy HTwy.out.be
    try simp only [tilS, Act.put]
    refine ja2 (rs := [9]) (by kernel_rfl) (by simp) ?_
    refine AllTil.last rfl (by rfl) (fun K hK => ?_)
    obtain ⟨z0, g0⟩ := HTwy.out.hd.cell 0 (v := .slice none 0 0) rfl
    obtain ⟨z1, g1⟩ := HTwy.out.hd.cell 1 (v := .int .i64 0) rfl
    obtain ⟨z2, g2⟩ := HTwy.out.hd.cell 2 (v := .int .i64 0) rfl
    obtain ⟨z3, g3⟩ := HTwy.out.hd.cell 3 (v := .int .i64 0) rfl
    have lz := HTwy.out.hd.lt
    rw [if_pos (by rfl)]
    go_simp
    have ht := HTwy.out.put (.slice A2 l2 c2) (.int .i64 (s2.en : Int)) (.int .i64 s2.val) (.int .i64 (s2.code : Int))
    obtain ⟨wx, hw⟩ := zl ((((wy.setCell ⟨Hb, 0, none⟩ (.slice A2 l2 c2)).setCell ⟨Hb, 1, none⟩ (.int .i64 (s2.en : Int))).setCell ⟨Hb, 2, none⟩ (.int .i64 s2.val)).setCell ⟨Hb, 3, none⟩ (.int .i64 (s2.code : Int)))
    rw [hw] at ht ⊢
    have HTwx := hide ht.swap
    clear hw ht z0 z1 z2 z3 g0 g1 g2 g3 lz
    refine hK.out _ _ ?_
    clear hK K hSd
    try simp only [tilS, Act.put]
    refine jac (by kernel_rfl) ?_ _
    go_wp2_with fail
    go_meet
    case rel => exact ⟨Ha, Hb, _, _, _, _, _, _, rfl, rfl, HTwx.out.hd, HTwx.out.swap.hd, HTwx.out.ints (_, s1.ev) (by simp), HTwx.out.ints (_, s2.ev) (by simp), HTwx.out.be⟩
  case rest =>
   obtain ⟨Ha, Hb, A1, l1, c1, A2, l2, c2, rfl, rfl, ba, bb, i1, i2, hb⟩ := hcut
   obtain ⟨w4, rfl⟩ := zr wc
   have HBA := hide ba
   have HBB := hide bb
   have HB4 := hide hb
   have HI1 := hide i1
   have HI2 := hide i2
   clear ba bb i1 i2 hb
   obtain ⟨t, hev⟩ := HMO.out.1
   have HBG := hide (rbegins_yes (.slice A1 l1 c1) (.slice A2 l2 c2) s1.ev t w4 w4.heap.size HI1.out (by have h := HI2.out; rw [hev] at h; exact h))
   clear hev
   have HRI := hide (fun (W : World) (vh : Value) (h : ObjsV W (· < W.heap.size) vh s1.heap) => jd7 vh s1.heap W W.heap.size (Nat.le_refl _) h)
   rw [HI.out.hp] at HRI
   have HU4 := hide (fun (W : World) (hW : Below w4.heap.size w4 W) => HB4.out.trans (hW.mono HB4.out.size))
   have HKA := hide (fun (W : World) (hW : Below w4.heap.size w4 W) => And.intro (And.intro ((HBA.out.below hW).cell 0 (v := .slice A1 l1 c1) rfl).1 (And.intro ((HBA.out.below hW).cell 1 (v := .int .i64 (s1.en : Int)) rfl).1 (And.intro ((HBA.out.below hW).cell 2 (v := .int .i64 s1.val) rfl).1 (And.intro ((HBA.out.below hW).cell 3 (v := .int .i64 (s1.code : Int)) rfl).1 (HBA.out.below hW).lt)))) (And.intro ((HBB.out.below hW).cell 0 (v := .slice A2 l2 c2) rfl).1 (And.intro ((HBB.out.below hW).cell 1 (v := .int .i64 (s2.en : Int)) rfl).1 (And.intro ((HBB.out.below hW).cell 2 (v := .int .i64 s2.val) rfl).1 (And.intro ((HBB.out.below hW).cell 3 (v := .int .i64 (s2.code : Int)) rfl).1 (HBB.out.below hW).lt)))))
   obtain ⟨⟨x0, -, -, -, lxa⟩, y0, -, -, -, lxb⟩ := HKA.out w4 (Below.refl _ _)
   go_upto_region 11 with (first
    | (go_at_call 17; (with_reducible refine (HRI.out w6 _ HO6.out).mono ?_); rintro e w7 ⟨rfl, hb⟩; have HB7 := hide (HB6.out.trans (hb.mono HB6.out.size)); clear hb)
    | (go_at_call 15; (with_reducible refine (HH1.out w5 (HU4.out w5 HB5.out)).mono ?_); rintro e w6 ⟨vh, rfl, ho, hb⟩; have HO6 := hide (ho.keep (w' := w6) (S' := (· < w6.heap.size)) (fun _ _ _ => rfl) (fun b hb => hb.2)); have HB6 := hide (HB5.out.trans (hb.mono HB5.out.size)); obtain ⟨Av, cv, rfl, -⟩ := ho; clear hb)
    | (go_at_call 16; refine HBG.out.mono ?_; rintro e w5 ⟨rfl, q, hq⟩; have hb : Below w4.heap.size w4 w5 := (by rw [hq]; exact ja0 (Below.refl _ _) q); have HB5 := hide hb; have xp := HK3.out w5 (HU4.out w5 hb); have lp5 := HL3.out w5 (HU4.out w5 hb); clear hb hq x0 y0 lxa lxb))
   clear xp lp5
   obtain ⟨⟨x0, x1, x2, x3, lxa⟩, y0, y1, y2, y3, lxb⟩ := HKA.out w7 HB7.out
   have xp := HK3.out w7 (HU4.out w7 HB7.out)
   have lp7 := HL3.out w7 (HU4.out w7 HB7.out)
   by_cases hen : s1.en = 0
   ·have hz : ((s1.en : Nat) : Int) = 0 := by omega
    have k1 : s1.steps = n := HST.out.2 hen
    have k2 : (n : Int) ≤ (s2.steps : Int) := by have := HMO.out.2.2; omega
    rw [k1] at HT1
    rw [hz] at x1
    clear x0 x2 x3 y0 y1 y2 y3
    go_wp2_with (first
     | (go_at_call 13; (with_reducible refine (HT2.out w8 (HU4.out w8 HB8.out)).mono ?_); rintro e w9 ⟨rfl, hb⟩; have HB9 := hide (HB8.out.trans (hb.mono HB8.out.size)); clear hb)
     | (go_at_call 13; (with_reducible refine (HT1.out w7 (HU4.out w7 HB7.out)).mono ?_); rintro e w8 ⟨rfl, hb⟩; have HB8 := hide (HB7.out.trans (hb.mono HB7.out.size)); have xp8 := HK3.out w8 (HU4.out w8 HB8.out); have lp8 := HL3.out w8 (HU4.out w8 HB8.out); clear hb))
    go_ret
    exact ⟨rfl, HB3.out.trans ((HB4.out.trans (HB9.out.mono HB4.out.size)).mono HB3.out.size)⟩
   ·have hz : ¬ ((s1.en : Nat) : Int) = 0 := by omega
    obtain rfl := HMO.out.2.1 hen
    have HSM := hide (fun (W : World) (hW : Below w4.heap.size w4 W) => rsame_yes (.slice A1 l1 c1) (.slice A2 l2 c2) s2.ev (s2.en : Int) s2.val (s2.code : Int) W (IntsV.keep HI1.out (up hW (Nat.le_refl _)) (fun b hb => Nat.lt_of_lt_of_le hb hW.size)) (IntsV.keep HI2.out (up hW (Nat.le_refl _)) (fun b hb => Nat.lt_of_lt_of_le hb hW.size)))
    go_upto_region 12 with (fail)
    have HKB := hide (fun (W : World) (hW : Below w4.heap.size w4 W) => (show (W.cell? ⟨h0, 0, none⟩ = some (.slice A lp c)) ∧ W.cell? ⟨Ha, 0, none⟩ = some (.slice A1 l1 c1) ∧ W.cell? ⟨Ha, 1, none⟩ = some (.int .i64 (s2.en : Int)) ∧ W.cell? ⟨Ha, 2, none⟩ = some (.int .i64 s2.val) ∧ W.cell? ⟨Ha, 3, none⟩ = some (.int .i64 (s2.code : Int)) ∧ W.cell? ⟨Hb, 0, none⟩ = some (.slice A2 l2 c2) ∧ W.cell? ⟨Hb, 1, none⟩ = some (.int .i64 (s2.en : Int)) ∧ W.cell? ⟨Hb, 2, none⟩ = some (.int .i64 s2.val) ∧ W.cell? ⟨Hb, 3, none⟩ = some (.int .i64 (s2.code : Int)) from ⟨HK3.out W (HU4.out W hW), (HKA.out W hW).1.1, (HKA.out W hW).1.2.1, (HKA.out W hW).1.2.2.1, (HKA.out W hW).1.2.2.2.1, (HKA.out W hW).2.1, (HKA.out W hW).2.2.1, (HKA.out W hW).2.2.2.1, (HKA.out W hW).2.2.2.2.1⟩))
    have BF0 := hide (show Below w4.heap.size w4 w7.drew from ja7 HB7.out)
    clear x0 x1 x2 x3 y0 y1 y2 y3 xp
    refine jaa (fun w' => (w'.cell? ⟨h0, 0, none⟩ = some (.slice A lp c)) ∧ w'.cell? ⟨Ha, 0, none⟩ = some (.slice A1 l1 c1) ∧ w'.cell? ⟨Ha, 1, none⟩ = some (.int .i64 (s2.en : Int)) ∧ w'.cell? ⟨Ha, 2, none⟩ = some (.int .i64 s2.val) ∧ w'.cell? ⟨Ha, 3, none⟩ = some (.int .i64 (s2.code : Int)) ∧ w'.cell? ⟨Hb, 0, none⟩ = some (.slice A2 l2 c2) ∧ w'.cell? ⟨Hb, 1, none⟩ = some (.int .i64 (s2.en : Int)) ∧ w'.cell? ⟨Hb, 2, none⟩ = some (.int .i64 s2.val) ∧ w'.cell? ⟨Hb, 3, none⟩ = some (.int .i64 (s2.code : Int))) 9 (by kernel_rfl) (HKB.out _ BF0.out) ?_
    obtain ⟨w200, hw200⟩ := zr w7.drew
    have BF200 := hide (show Below w4.heap.size w4 w200 by rw [hw200]; exact BF0.out)
    rw [← hw200]
    have hSd := HKB.out w200 BF200.out
    clear hw200
    refine tilD 0 [9, 3, 2] hSd ?_
    refine tilD 1 [9, 3, 2] hSd ?_
    refine ja2 (rs := [2]) (by kernel_rfl) (by simp) ?_
    refine AllTil.cons rfl (fun K hK => ?_) ?_
    ·skip
     rw [if_pos (by rfl)]
     go_simp
     go_at_call 11
     refine (HSM.out w200 BF200.out).mono ?_
     rintro e w201 ⟨rfl, hb2⟩
     have BF201 := hide (BF200.out.trans (hb2.mono BF200.out.size))
     clear hb2
     refine hK.out _ _ (HKB.out w201 BF201.out) ?_
     clear hK K
     try clear hSd
     have hSd := HKB.out w201 BF201.out
     try simp only [tilS, Act.put]
     refine tilM 3 (Or.inr hSd) ?_
     refine tilM 5 (Or.inr hSd) ?_
     refine tilM 8 (Or.inr hSd) ?_
     refine tilD 4 [9, 6] hSd ?_
     refine tilT 7 hSd ?_
     refine ja2 (rs := [6]) (by kernel_rfl) (by simp) ?_
     refine AllTil.cons rfl (fun K hK => ?_) ?_
     ·skip
      rw [if_pos (by rfl)]
      go_simp
      go_at_call 13
      refine (HT1.out w201 (HU4.out w201 BF201.out)).mono ?_
      rintro e w202 ⟨rfl, hb2⟩
      have BF202 := hide (BF201.out.trans (hb2.mono BF201.out.size))
      clear hb2
      refine hK.out _ _ (HKB.out w202 BF202.out) ?_
      clear hK K
      try clear hSd
      have hSd := HKB.out w202 BF202.out
      try simp only [tilS, Act.put]
      refine ja2 (rs := [9]) (by kernel_rfl) (by simp) ?_
      refine AllTil.last rfl (by rfl) (fun K hK => ?_)
      rw [if_pos (by rfl)]
      go_simp
      go_at_call 13
      refine (HT2.out w202 (HU4.out w202 BF202.out)).mono ?_
      rintro e w203 ⟨rfl, hb2⟩
      have BF203 := hide (BF202.out.trans (hb2.mono BF202.out.size))
      clear hb2
      refine hK.out _ _ ?_
      clear hK K hSd
      try simp only [tilS, Act.put]
      refine tilM 10 (Or.inl (by rfl)) ?_
      refine tilM 11 (Or.inl (by rfl)) ?_
      refine tilM 12 (Or.inl (by rfl)) ?_
      refine jac (by kernel_rfl) ?_ _
      go_wp2_with fail
      go_ret
      exact ⟨by simp, HB3.out.trans ((HB4.out.trans (BF203.out.mono HB4.out.size)).mono HB3.out.size)⟩
     exact AllTil.nil
    exact AllTil.nil
end Go.Proofs.YthbnbaikdcfbmaaGreatDoor
