/- The statement RunHeap, walked: it answers true. Conditions: the tables of parts and of rows read as listed; no slice of the program is .. -/
import Derived.Test.YthbnbaikdcfbmaaGreatDoorPmUT
set_option linter.unusedSimpArgs false
set_option linter.unusedVariables false
set_option maxHeartbeats 4000000
set_option maxRecDepth 100000
namespace Go.Proofs.YthbnbaikdcfbmaaGreatDoor
open Go.RowKit
theorem jow (vp : Value) (p : List FunV) (n : Nat) (hn : n < 65536) (w : World) (hT : TabP w) (hR : RowP w) (hp : FunsV w (· < w.heap.size) vp p) (hsz : jg8 p) :
  Calls Tryz.prog 6 #[.agg #[vp], .int .u16 (n : Int)] w fun e w' => e = .returned (.bool true) /\ Below w.heap.size w w' := by
 have HAL := hide (fun (W : World) (hW : Below w.heap.size w W) => jhg W (hT.below hW hT.1) (hR.below hW hR.1))
 have HOUT := hide (fun (W : World) (hW : Below w.heap.size w W) => jkh vp p W w.heap.size hW.size (hp.keep (up hW (Nat.le_refl _)) (fun _ h => h)) hsz)
 obtain ⟨m, hm⟩ := zl (n % 1000)
 have hm4 : m <= 4000 := by omega
 obtain ⟨s, hs⟩ := zl (runS p (m : Int))
 have HRUN := hide (fun (h : ChkR p 0 /\ jaz p) (W : World) (hW : Below w.heap.size w W) => jg7 vp p (m : Int) W w.heap.size hW.size (hp.keep (up hW (Nat.le_refl _)) (fun _ h => h)) (hT.below hW hT.1) (hR.below hW hR.1) h.2 (fun n hn => hn.one h.1) (jcw h.1) (jcj hp))
 have HSTP := hide (fun (h : ChkR p 0 /\ jaz p) (W : World) (hW : Below w.heap.size w W) => jht vp p (m : Int) W w.heap.size hW.size (hp.keep (up hW (Nat.le_refl _)) (fun _ h => h)) (hT.below hW hT.1) (hR.below hW hR.1) h.2 (fun n hn => hn.one h.1) (jcw h.1) (jcj hp))
 have HHEP := hide (fun (h : ChkR p 0 /\ jaz p) (W : World) (hW : Below w.heap.size w W) => jjo vp p (m : Int) W w.heap.size hW.size (hp.keep (up hW (Nat.le_refl _)) (fun _ h => h)) (hT.below hW hT.1) (hR.below hW hR.1) h.2 (fun n hn => hn.one h.1) (jcw h.1) (jcj hp))
 have HINV := hide (fun (h : ChkR p 0 /\ jaz p) => And.intro (run_inv (jcw h.1) (jcj hp) (m : Int)) (jq7 (jcw h.1) (jcj hp) m hm4).1)
 rw [hs] at HRUN HSTP HHEP HINV
 have t1 : (n : Int).tmod 1000 = (m : Int) := by rw [<- hm]; exact (Int.ofNat_tmod n 1000).symm
 have t3 : (n : Int) % 1000 = (m : Int) := by rw [<- hm]; exact (Int.natCast_emod n 1000).symm
 have n0 : (0 : Int) <= (n : Int) := by omega
 have n1 : (n : Int) <= 65535 := by omega
 obtain ⟨A, c, rfl, hpc, hpm⟩ := hp.open'
 obtain ⟨lp, hlp⟩ := zl p.length
 rw [hlp] at HOUT HRUN HSTP HHEP ⊢
 clear hp hsz hlp hT hR hs hm hm4 hpc hpm hn
 go_enter Tryz.func6, Tryz.ntmps6
 go_upto_region 1 with (fail)
 obtain ⟨w0, hw0⟩ := zr (w.alloc (.cells #[.slice A lp c] 24))
 obtain ⟨h0, hh0⟩ := zl w.heap.size
 have HX0 := zx1 hw0 hh0
 have HB0 := zb1 hw0
 rw [<- hw0, hh0]
 clear hw0 hh0
 go_upto_region 3 with (go_at_call 8; refine (HAL.out w0 HB0.out).mono ?_; rintro e w1 ⟨rfl, hb1⟩; have HX1 := hide (HX0.out.below hb1); have HC1 := hide (HB0.out.trans (hb1.mono HB0.out.size)); clear hb1)
 have x1 := (HX1.out.cell 0 (v := .slice A lp c) rfl).1
 have l1 := HX1.out.lt
 go_upto_region 5 with (go_at_call 9; refine (HOUT.out w1 HC1.out).mono ?_; rintro e w2 ⟨b1, rfl, hs2, hb2⟩; have HB2 := hide (HC1.out.trans (hb2.mono HC1.out.size)); have HX2 := hide (HX1.out.below hb2); have HS2 := hide hs2; clear hb2 hs2; cases b1)
 all_goals try (go_ret; exact ⟨rfl, HB2.out⟩)
 have HOK := hide (HS2.out.out (by simp))
 have HINV2 := hide (HINV.out HOK.out)
 have HRUN2 := hide (fun (W : World) (hW : Below w2.heap.size w2 W) => HRUN.out HOK.out W (HB2.out.trans (hW.mono HB2.out.size)))
 have HSP := hide (fun (W : World) (hW : Below w2.heap.size w2 W) => HSTP.out HOK.out W (HB2.out.trans (hW.mono HB2.out.size)))
 have HHP := hide (fun (W : World) (hW : Below w2.heap.size w2 W) => HHEP.out HOK.out W (HB2.out.trans (hW.mono HB2.out.size)))
 have HKS := hide (fun (W : World) (hW : Below w2.heap.size w2 W) => ((HX2.out.below hW).cell 0 (v := .slice A lp c) rfl).1)
 have l2 := HX2.out.lt
 have h0w := HX0.out.lt
 clear HOUT HS2 HC1 HX1 l1 x1 HOK HINV HRUN HSTP HHEP HAL HX0
 go_upto_region 6 with (fail)
 clear t1 t3 n0 n1
 go_cut [6, 7] from 7 (fun q k wx => ∃ H A2 c2, q = .pointer (some ⟨H, 0, none⟩) /\ k = .int .i64 (s.steps : Int) /\ Box wx H #[.slice A2 s.heap.length c2] 31 /\ ObjsV wx (· < wx.heap.size) (.slice A2 s.heap.length c2) s.heap /\ Below w2.heap.size w2 wx)
 case first =>
  have BE0 := hide (show Below w2.heap.size w2 w2.drew from ja7 (Below.refl _ _))
  refine jaa (fun w' => w'.cell? ⟨h0, 0, none⟩ = some (.slice A lp c)) 7 (by kernel_rfl) (HKS.out _ BE0.out) ?_
  obtain ⟨w100, hw100⟩ := zr w2.drew
  have BE100 := hide (show Below w2.heap.size w2 w100 by rw [hw100]; exact BE0.out)
  rw [<- hw100]
  have hSd := HKS.out w100 BE100.out
  clear hw100
  refine tilM 1 (Or.inr hSd) ?_
  refine tilM 4 (Or.inr hSd) ?_
  refine tilT 0 hSd ?_
  refine tilD 3 [7, 5] hSd ?_
  refine ja2 (rs := [2, 6]) (by kernel_rfl) (by simp) ?_
  refine AllTil.cons rfl (fun K hK => ?_) ?_
  ·skip
   rw [if_pos (by rfl)]
   go_simp
   go_at_call 15
   refine (HHP.out w100 BE100.out).mono ?_
   rintro e w101 ⟨v2, rfl, ho2, hb2⟩
   obtain ⟨A2, c2, rfl, o1, o2, o3⟩ := ho2
   have BE101 := hide (BE100.out.trans (hb2.mono BE100.out.size))
   have HO101 := hide (show ObjsV w101 (fun b => w100.heap.size <= b /\ b < w101.heap.size) (.slice A2 s.heap.length c2) s.heap from ⟨A2, c2, rfl, o1, o2, o3⟩)
   have HS101 := hide (Nat.le_refl w101.heap.size)
   clear o1 o2 o3 hb2
   refine hK.out _ _ (HKS.out w101 BE101.out) ?_
   clear hK K
   try clear hSd
   have hSd := HKS.out w101 BE101.out
   try simp only [tilS, Act.put]
   refine ja2 (rs := [5, 6]) (by kernel_rfl) (by simp) ?_
   refine AllTil.cons rfl (fun K hK => ?_) ?_
   ·skip
    rw [if_pos (by rfl)]
    go_simp
    go_at_call 13
    refine (HSP.out w101 BE101.out).mono ?_
    rintro e w102 ⟨rfl, hb2⟩
    have BE102 := hide (BE101.out.trans (hb2.mono BE101.out.size))
    have HO102 := hide (show ObjsV w102 (fun b => w100.heap.size <= b /\ b < w101.heap.size) (.slice A2 s.heap.length c2) s.heap from HO101.out.keep (fun b o hb => (hb2).cell (p := ⟨b, o, none⟩) (by have s3 := HS101.out; have h2 := hb.2; (show b < w101.heap.size); omega)) (fun b hb => hb))
    have HS101 := hide (show w101.heap.size <= w102.heap.size from Nat.le_trans HS101.out (hb2).size)
    clear hb2
    refine hK.out _ _ (HKS.out w102 BE102.out) ?_
    clear hK K
    try clear hSd
    have hSd := HKS.out w102 BE102.out
    try simp only [tilS, Act.put]
    refine ja2 (rs := [6]) (by kernel_rfl) (by simp) ?_
    refine AllTil.cons rfl (fun K hK => ?_) ?_
    ·skip
     rw [if_pos (by rfl)]
     go_simp
     obtain ⟨Hg, hHg⟩ := zl w102.heap.size
     obtain ⟨w103, hw103⟩ := zr (w102.alloc (.cells #[.slice none 0 0] 31))
     have DE103 := zb1 hw103
     have BE103 := hide (BE102.out.trans (DE103.out.mono BE102.out.size))
     have BX103 := zx1 hw103 hHg
     have HHg := hide (show w2.heap.size <= Hg by rw [<- hHg]; exact BE102.out.size)
     have HHC101 := hide (show Hg < w100.heap.size \/ w101.heap.size <= Hg from .inr (by rw [<- hHg]; exact HS101.out))
     have HO103 := hide (show ObjsV w103 (fun b => w100.heap.size <= b /\ b < w101.heap.size) (.slice A2 s.heap.length c2) s.heap from HO102.out.keep (fun b o hb => (DE103.out).cell (p := ⟨b, o, none⟩) (by have s3 := HS101.out; have h2 := hb.2; (show b < w102.heap.size); omega)) (fun b hb => hb))
     have HS101 := hide (show w101.heap.size <= w103.heap.size from Nat.le_trans HS101.out (DE103.out).size)
     rw [<- hw103, hHg]
     clear hw103 hHg
     refine hK.out _ _ (HKS.out w103 BE103.out) ?_
     clear hK K
     try clear hSd
     have hSd := HKS.out w103 BE103.out
     try simp only [tilS, Act.put]
     refine ja2 (rs := [7]) (by kernel_rfl) (by simp) ?_
     refine AllTil.last rfl (by rfl) (fun K hK => ?_)
     obtain ⟨z0, g0⟩ := BX103.out.cell 0 (v := .slice none 0 0) rfl
     rw [if_pos (by rfl)]
     go_simp
     obtain ⟨w104, hw104⟩ := zr (w103.setCell ⟨Hg, 0, none⟩ (.slice A2 s.heap.length c2))
     have BX104 := hide (show Box w104 Hg #[.slice A2 s.heap.length c2] 31 by rw [hw104]; have t := BX103.out.set 0 (.slice A2 s.heap.length c2); simpa using t)
     have BE104 := hide (show Below w2.heap.size w2 w104 by rw [hw104]; exact BE103.out.setCell (p := ⟨Hg, 0, none⟩) HHg.out _)
     have HO104 := hide (show ObjsV w104 (· < w104.heap.size) (.slice A2 s.heap.length c2) s.heap from HO103.out.keep (fun b o hb => by have hne : b ≠ Hg := (by have s3 := HHC101.out; have h1 := hb.1; have h2 := hb.2; omega); rw [hw104]; exact ja8 (by rw [heap_setCell_other _ _ _ _ hne]) o) (fun b h => by rw [hw104, World.size_setCell]; exact Nat.lt_of_lt_of_le h.2 HS101.out))
     rw [<- hw104]
     clear hw104 z0 g0
     refine hK.out _ _ ?_
     clear hK K hSd
     try simp only [tilS, Act.put]
     refine tilM 8 (Or.inl (by rfl)) ?_
     refine jac (by kernel_rfl) ?_ _
     go_wp2_with fail
     go_meet
     case rel => exact ⟨Hg, _, _, rfl, rfl, BX104.out, HO104.out, BE104.out⟩
    exact AllTil.nil
   refine AllTil.cons rfl (fun K hK => ?_) ?_
   ·skip
    rw [if_pos (by rfl)]
    go_simp
    obtain ⟨Hg, hHg⟩ := zl w101.heap.size
    obtain ⟨w105, hw105⟩ := zr (w101.alloc (.cells #[.slice none 0 0] 31))
    have DE105 := zb1 hw105
    have BE105 := hide (BE101.out.trans (DE105.out.mono BE101.out.size))
    have BX105 := zx1 hw105 hHg
    have HHg := hide (show w2.heap.size <= Hg by rw [<- hHg]; exact BE101.out.size)
    have HHC101 := hide (show Hg < w100.heap.size \/ w101.heap.size <= Hg from .inr (by rw [<- hHg]; exact HS101.out))
    have HO105 := hide (show ObjsV w105 (fun b => w100.heap.size <= b /\ b < w101.heap.size) (.slice A2 s.heap.length c2) s.heap from HO101.out.keep (fun b o hb => (DE105.out).cell (p := ⟨b, o, none⟩) (by have s3 := HS101.out; have h2 := hb.2; (show b < w101.heap.size); omega)) (fun b hb => hb))
    have HS101 := hide (show w101.heap.size <= w105.heap.size from Nat.le_trans HS101.out (DE105.out).size)
    rw [<- hw105, hHg]
    clear hw105 hHg
    refine hK.out _ _ (HKS.out w105 BE105.out) ?_
    clear hK K
    try clear hSd
    have hSd := HKS.out w105 BE105.out
    try simp only [tilS, Act.put]
    refine ja2 (rs := [5]) (by kernel_rfl) (by simp) ?_
    refine AllTil.cons rfl (fun K hK => ?_) ?_
    ·skip
     rw [if_pos (by rfl)]
     go_simp
     go_at_call 13
     refine (HSP.out w105 BE105.out).mono ?_
     rintro e w106 ⟨rfl, hb2⟩
     have BE106 := hide (BE105.out.trans (hb2.mono BE105.out.size))
     have BX106 := hide (BX105.out.below hb2)
     have HO106 := hide (show ObjsV w106 (fun b => w100.heap.size <= b /\ b < w101.heap.size) (.slice A2 s.heap.length c2) s.heap from HO105.out.keep (fun b o hb => (hb2).cell (p := ⟨b, o, none⟩) (by have s3 := HS101.out; have h2 := hb.2; (show b < w105.heap.size); omega)) (fun b hb => hb))
     have HS101 := hide (show w101.heap.size <= w106.heap.size from Nat.le_trans HS101.out (hb2).size)
     clear hb2
     refine hK.out _ _ (HKS.out w106 BE106.out) ?_
     clear hK K
     try clear hSd
     have hSd := HKS.out w106 BE106.out
     try simp only [tilS, Act.put]
     refine ja2 (rs := [7]) (by kernel_rfl) (by simp) ?_
     refine AllTil.last rfl (by rfl) (fun K hK => ?_)
     obtain ⟨z0, g0⟩ := BX106.out.cell 0 (v := .slice none 0 0) rfl
     rw [if_pos (by rfl)]
     go_simp
     obtain ⟨w107, hw107⟩ := zr (w106.setCell ⟨Hg, 0, none⟩ (.slice A2 s.heap.length c2))
     have BX107 := hide (show Box w107 Hg #[.slice A2 s.heap.length c2] 31 by rw [hw107]; have t := BX106.out.set 0 (.slice A2 s.heap.length c2); simpa using t)
     have BE107 := hide (show Below w2.heap.size w2 w107 by rw [hw107]; exact BE106.out.setCell (p := ⟨Hg, 0, none⟩) HHg.out _)
     have HO107 := hide (show ObjsV w107 (· < w107.heap.size) (.slice A2 s.heap.length c2) s.heap from HO106.out.keep (fun b o hb => by have hne : b ≠ Hg := (by have s3 := HHC101.out; have h1 := hb.1; have h2 := hb.2; omega); rw [hw107]; exact ja8 (by rw [heap_setCell_other _ _ _ _ hne]) o) (fun b h => by rw [hw107, World.size_setCell]; exact Nat.lt_of_lt_of_le h.2 HS101.out))
     rw [<- hw107]
     clear hw107 z0 g0
     refine hK.out _ _ ?_
     clear hK K hSd
     try simp only [tilS, Act.put]
     refine tilM 8 (Or.inl (by rfl)) ?_
     refine jac (by kernel_rfl) ?_ _
     go_wp2_with fail
     go_meet
     case rel => exact ⟨Hg, _, _, rfl, rfl, BX107.out, HO107.out, BE107.out⟩
    exact AllTil.nil
   exact AllTil.nil
  refine AllTil.cons rfl (fun K hK => ?_) ?_
  ·skip
   rw [if_pos (by rfl)]
   go_simp
   obtain ⟨Hg, hHg⟩ := zl w100.heap.size
   obtain ⟨w108, hw108⟩ := zr (w100.alloc (.cells #[.slice none 0 0] 31))
   have DE108 := zb1 hw108
   have BE108 := hide (BE100.out.trans (DE108.out.mono BE100.out.size))
   have BX108 := zx1 hw108 hHg
   have HHg := hide (show w2.heap.size <= Hg by rw [<- hHg]; exact BE100.out.size)
   rw [<- hw108, hHg]
   clear hw108 hHg
   refine hK.out _ _ (HKS.out w108 BE108.out) ?_
   clear hK K
   try clear hSd
   have hSd := HKS.out w108 BE108.out
   try simp only [tilS, Act.put]
   refine ja2 (rs := [2]) (by kernel_rfl) (by simp) ?_
   refine AllTil.cons rfl (fun K hK => ?_) ?_
   ·skip
    rw [if_pos (by rfl)]
    go_simp
    go_at_call 15
    refine (HHP.out w108 BE108.out).mono ?_
    rintro e w109 ⟨v2, rfl, ho2, hb2⟩
    obtain ⟨A2, c2, rfl, o1, o2, o3⟩ := ho2
    have BE109 := hide (BE108.out.trans (hb2.mono BE108.out.size))
    have HO109 := hide (show ObjsV w109 (fun b => w108.heap.size <= b /\ b < w109.heap.size) (.slice A2 s.heap.length c2) s.heap from ⟨A2, c2, rfl, o1, o2, o3⟩)
    have HS109 := hide (Nat.le_refl w109.heap.size)
    have BX109 := hide (BX108.out.below hb2)
    have HHC109 := hide (show Hg < w108.heap.size \/ w109.heap.size <= Hg from .inl BX108.out.lt)
    clear o1 o2 o3 hb2
    refine hK.out _ _ (HKS.out w109 BE109.out) ?_
    clear hK K
    try clear hSd
    have hSd := HKS.out w109 BE109.out
    try simp only [tilS, Act.put]
    refine ja2 (rs := [5]) (by kernel_rfl) (by simp) ?_
    refine AllTil.cons rfl (fun K hK => ?_) ?_
    ·skip
     rw [if_pos (by rfl)]
     go_simp
     go_at_call 13
     refine (HSP.out w109 BE109.out).mono ?_
     rintro e w110 ⟨rfl, hb2⟩
     have BE110 := hide (BE109.out.trans (hb2.mono BE109.out.size))
     have BX110 := hide (BX109.out.below hb2)
     have HO110 := hide (show ObjsV w110 (fun b => w108.heap.size <= b /\ b < w109.heap.size) (.slice A2 s.heap.length c2) s.heap from HO109.out.keep (fun b o hb => (hb2).cell (p := ⟨b, o, none⟩) (by have s3 := HS109.out; have h2 := hb.2; (show b < w109.heap.size); omega)) (fun b hb => hb))
     have HS109 := hide (show w109.heap.size <= w110.heap.size from Nat.le_trans HS109.out (hb2).size)
     clear hb2
     refine hK.out _ _ (HKS.out w110 BE110.out) ?_
     clear hK K
     try clear hSd
     have hSd := HKS.out w110 BE110.out
     try simp only [tilS, Act.put]
     refine ja2 (rs := [7]) (by kernel_rfl) (by simp) ?_
     refine AllTil.last rfl (by rfl) (fun K hK => ?_)
     obtain ⟨z0, g0⟩ := BX110.out.cell 0 (v := .slice none 0 0) rfl
     rw [if_pos (by rfl)]
     go_simp
     obtain ⟨w111, hw111⟩ := zr (w110.setCell ⟨Hg, 0, none⟩ (.slice A2 s.heap.length c2))
     have BX111 := hide (show Box w111 Hg #[.slice A2 s.heap.length c2] 31 by rw [hw111]; have t := BX110.out.set 0 (.slice A2 s.heap.length c2); simpa using t)
     have BE111 := hide (show Below w2.heap.size w2 w111 by rw [hw111]; exact BE110.out.setCell (p := ⟨Hg, 0, none⟩) HHg.out _)
     have HO111 := hide (show ObjsV w111 (· < w111.heap.size) (.slice A2 s.heap.length c2) s.heap from HO110.out.keep (fun b o hb => by have hne : b ≠ Hg := (by have s3 := HHC109.out; have h1 := hb.1; have h2 := hb.2; omega); rw [hw111]; exact ja8 (by rw [heap_setCell_other _ _ _ _ hne]) o) (fun b h => by rw [hw111, World.size_setCell]; exact Nat.lt_of_lt_of_le h.2 HS109.out))
     rw [<- hw111]
     clear hw111 z0 g0
     refine hK.out _ _ ?_
     clear hK K hSd
     try simp only [tilS, Act.put]
     refine tilM 8 (Or.inl (by rfl)) ?_
     refine jac (by kernel_rfl) ?_ _
     go_wp2_with fail
     go_meet
     case rel => exact ⟨Hg, _, _, rfl, rfl, BX111.out, HO111.out, BE111.out⟩
    exact AllTil.nil
   exact AllTil.nil
  exact AllTil.nil
 case rest =>
  obtain ⟨H, A2, c2, rfl, rfl, hbx, ho, hb⟩ := hcut
  have HX := hide hbx
  have HO := hide ho
  have HBC := hide hb
  have p0 := HKS.out wc hb
  have l0 := (HX2.out.below hb).lt
  clear hbx ho hb
  go_upto_region 8 with (go_at_call 12; (with_reducible refine (HRUN2.out wc HBC.out).mono ?_); rintro e w4 ⟨ve, rfl, hi, hb⟩; obtain ⟨Ae, ce, rfl, -⟩ := hi; have HD4 := hide hb; clear hb)
  obtain ⟨w5, hw5⟩ := zr (w4.alloc (.cells #[.slice Ae s.ev.length ce, .int .i64 (s.en : Int), .int .i64 s.val, .int .i64 (s.code : Int)] 35))
  obtain ⟨h5, hh5⟩ := zl w4.heap.size
  have HX5 := zx1 hw5 hh5
  have HD5 := zb1 hw5
  have HE5 := hide (HD4.out.trans (HD5.out.mono HD4.out.size))
  have HO5 := hide (HO.out.keep (w' := w5) (S' := (· < w5.heap.size)) (up HE5.out (Nat.le_refl _)) (fun b hb => Nat.lt_of_lt_of_le hb HE5.out.size))
  have HRI := hide (jd7 (.slice A2 s.heap.length c2) s.heap w5 w5.heap.size (Nat.le_refl _) HO5.out)
  have HX9 := hide (HX.out.below HE5.out)
  have HW5 := hide (HB2.out.trans ((HBC.out.trans (HE5.out.mono HBC.out.size)).mono HB2.out.size))
  have x0 := (HX9.out.cell 0 (v := .slice A2 s.heap.length c2) rfl).1
  have lx := HX9.out.lt
  have HK5 := hide (fun (W : World) (hW : Below w5.heap.size w5 W) => And.intro ((HX9.out.below hW).cell 0 (v := .slice A2 s.heap.length c2) rfl).1 (And.intro ((HX5.out.below hW).cell 0 (v := .slice Ae s.ev.length ce) rfl).1 (And.intro ((HX5.out.below hW).cell 1 (v := .int .i64 (s.en : Int)) rfl).1 (And.intro ((HX5.out.below hW).cell 2 (v := .int .i64 s.val) rfl).1 ((HX5.out.below hW).cell 3 (v := .int .i64 (s.code : Int)) rfl).1))))
  have HL5 := hide (fun (W : World) (hW : Below w5.heap.size w5 W) => And.intro (HX9.out.below hW).lt (HX5.out.below hW).lt)
  rw [<- hw5, hh5]
  clear hw5 hh5 p0 l0
  obtain ⟨hI, hst⟩ := HINV2.out
  have HRB := hide hI.hp
  rw [hI.hp] at HRI
  have a1 : (s.heap.length : Int) <= (s.steps : Int) := by have := hI.hl; omega
  have a2 : (s.ev.length : Int) <= (s.steps : Int) := by have := hI.el; omega
  have a3 : (s.steps : Int) <= (m : Int) := by omega
  obtain ⟨en, hen⟩ : ∃ en : Int, (s.en : Int) = en := ⟨_, rfl⟩
  obtain ⟨co, hco⟩ : ∃ co : Int, (s.code : Int) = co := ⟨_, rfl⟩
  obtain ⟨va, hva⟩ : ∃ va : Int, s.val = va := ⟨_, rfl⟩
  rw [hen, hco, hva] at HK5
  rw [hen, hco, hva]
  have a4 : (en = 2 /\ va = 0 /\ ¬ co = 0) \/ (en = 1 /\ co = 0) \/ (en = 0 /\ co = 0 /\ va = 0) := by have := hI.ec; have := hI.vv; have := hI.en; omega
  clear hI hst hen hco hva HX5
  rcases a4 with ⟨rfl, rfl, a5⟩ | ⟨rfl, rfl⟩ | ⟨rfl, rfl, rfl⟩
  all_goals
   go_wp2_with (go_at_call 17; (with_reducible refine HRI.out.mono ?_); rintro e w6 ⟨rfl, hb⟩; obtain ⟨z0, y0, y1, y2, y3⟩ := HK5.out w6 hb; obtain ⟨lz, ly⟩ := HL5.out w6 hb; have HB6 := hide (HW5.out.trans (hb.mono HW5.out.size)); clear hb)
   all_goals
    go_ret
    first
     | exact ⟨rfl, HB6.out⟩
     | exact ⟨by simp_all, HB6.out⟩
end Go.Proofs.YthbnbaikdcfbmaaGreatDoor
