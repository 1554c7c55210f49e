/- Layer 10, the program: contracts of alloc and store: the heap in a run. No condition but on lengths. -/
import Derived.Test.YthbnbaikdcfbmaaGreatDoorPmUG
set_option linter.unusedSimpArgs false
set_option linter.unusedVariables false
set_option maxHeartbeats 2000000
set_option maxRecDepth 100000
namespace Go.Proofs.YthbnbaikdcfbmaaGreatDoor
open Go.RowKit
structure KeptR (w w1 w2 : World) (hc : Nat) (vh' : Value) (wF : World) : Prop where
 blk : ∀ b, (b < w.heap.size /\ b ≠ hc) \/ (w1.heap.size <= b /\ b < w2.heap.size) -> wF.heap[b]? = w2.heap[b]?
 box : wF.heap[hc]? = (w2.setCell ⟨hc, 2, none⟩ vh').heap[hc]?
 size : w2.heap.size <= wF.heap.size
theorem KeptR.start {w w1 w2 : World} {hc : Nat} {vh' : Value} (h1 : hc < w.heap.size) (h2 : w.heap.size <= w1.heap.size) : KeptR w w1 w2 hc vh' (w2.setCell ⟨hc, 2, none⟩ vh') :=
 ⟨fun b hb => heap_setCell_other _ _ _ _ (show b ≠ hc by omega), rfl, by rw [World.size_setCell]; exact Nat.le_refl _⟩
theorem KeptR.set {w w1 w2 wF : World} {hc r j : Nat} {vh' v : Value} (h : KeptR w w1 w2 hc vh' wF) (h0 : hc < w.heap.size) (h1 : w.heap.size <= r) (h2 : r < w1.heap.size) : KeptR w w1 w2 hc vh' (wF.setCell ⟨r, j, none⟩ v) :=
 ⟨fun b hb => (heap_setCell_other _ _ _ _ (show b ≠ r by omega)).trans (h.blk b hb), (heap_setCell_other _ _ _ _ (show hc ≠ r by omega)).trans h.box, by rw [World.size_setCell]; exact h.size⟩
section
variable {w w1 w2 wF : World} {base hc : Nat} {vp va vh vh' ve : Value} {P : List FunV} {s : StV} {L : List (FrV × ActW)} {H : List ObjV} {S : Nat -> Prop}
theorem RunP.heapAt (h : RunP w base hc vp P s va vh ve L S) (hb1 : Below w.heap.size w w1) (hb2 : Below w1.heap.size w1 w2) (ho : ObjsV w2 (fun b => S b \/ Made w1 w2 b) vh' H) (hk : KeptR w w1 w2 hc vh' wF) :
  RunP wF base hc vp P { s with heap := H } va vh' ve L (fun b => S b \/ Made w1 w2 b) := by
 have hb : Below w.heap.size w w2 := hb1.trans (hb2.mono hb1.size)
 have h2 := h.below hb
 have hn := h.ne
 have hbb := h.hb
 have hwl := h.box.lt
 have kS : ∀ b, b < w.heap.size -> b ≠ hc -> wF.heap[b]? = w2.heap[b]? := fun b h1 h2 => hk.blk b (.inl ⟨h1, h2⟩)
 have hmn : ∀ b, MutR hc va ve L b -> b < w.heap.size := fun b hm => by
  rcases hm with rfl | hm | hm | ⟨p, hp, hm⟩
  ·exact h.box.lt
  ·exact (h.acts.lt b hm).2
  ·exact (h.evs.row' b hm).2.1
  ·exact ((h.all p hp).vars.lt b hm).2
 have hs1 := hb1.size
 refine ⟨hk.box.trans (show Box (w2.setCell ⟨hc, 2, none⟩ vh') hc _ _ by have := h2.box.set 2 vh'; simpa using this), h.stk, h2.acts.kept fun g hg => kS g (h.acts.lt g hg).2 (fun e => hn.a (by rw [hg, e])), fun p hp => ?_, h.dis, ?_, ?_, h2.evs.kept' fun g hg => kS g (h.evs.row' g hg).2.1 (fun e => hn.e (by rw [hg, e])), h.hb⟩
 ·have ha := h2.all p hp
  obtain ⟨F, h1, h2, h3, h4⟩ := ha.fn
  exact ⟨⟨F, h1, h2.blk (fun b hb' => kS b (by omega) (by omega)), h3, h4⟩, ha.vars.kept fun g hg => kS g ((h.all p hp).vars.lt g hg).2 (fun e => hn.v p hp (by rw [hg, e]))⟩
 ·refine ho.keep (fun b o hb' => ja8 (hk.blk b ?_) o) (fun _ h => h)
  rcases hb' with hb' | hb'
  ·exact .inl ⟨(h.sin b hb').1, fun e => (h.sin b hb').2 (.inl e)⟩
  ·exact .inr hb'
 ·intro b hb'
  rcases hb' with hb' | hb'
  ·exact ⟨by have := (h.sin b hb').1; have := hb.size; have := hk.size; omega, (h.sin b hb').2⟩
  ·exact ⟨by have := hb'.2; have := hk.size; omega, fun hm => by have := hmn b hm; have := hb'.1; omega⟩
end
theorem jkd (base hc : Nat) (vp va vh ve : Value) (P : List FunV) (s : StV) (L : List (FrV × ActW)) (S : Nat -> Prop) (x : InsV) (A : Option Addr) (l c : Nat) (w : World) (hR : RunP w base hc vp P s va vh ve L S) (hl : s.heap.length <= 10000) (hbase : base <= w.heap.size) :
  Calls Tryz.prog 109 #[.pointer (some ⟨hc, 0, none⟩), .agg #[.int .i64 x.op, .int .i64 x.d, .int .i64 x.a, .int .i64 x.b, .int .i64 x.n, .int .i64 x.m, .slice A l c]] w fun e w' => e = .returned (.tuple #[.agg #[.int .i64 0, .int .i64 (jb7 s.heap x.n x.m).2.1, .int .i64 0], .int .i64 (((jb7 s.heap x.n x.m).2.2 : Nat) : Int)]) /\ (∃ vh' S', RunP w' base hc vp P { s with heap := (jb7 s.heap x.n x.m).1 } va vh' ve L S' /\ ∀ b, S' b -> S b \/ w.heap.size <= b) /\ Below base w w' /\ ∀ b, b < w.heap.size -> b ≠ hc -> w'.heap[b]? = w.heap[b]? := by
 have hlt := hR.box.lt
 have HAL := hide (fun (W : World) (hW : Below w.heap.size w W) => jmj vh s.heap x.n x.m W S (fun b hb => Nat.lt_of_lt_of_le (hR.sin b hb).1 hW.size) (hR.objs.keep (fun b o hb => hW.cell (p := ⟨b, o, none⟩) (hR.sin b hb).1) (fun _ h => h)) hl)
 have HKB := hide (fun (W : World) (hW : Below w.heap.size w W) => (hR.box.below hW).cell 2 (v := vh) rfl)
 have HRA := hide (fun (vh' : Value) (w1 w2 wF : World) => hR.heapAt (w1 := w1) (w2 := w2) (wF := wF) (vh' := vh') (H := (jb7 s.heap x.n x.m).1))
 obtain ⟨Ao, co, rfl, hco, hm⟩ := hR.objs.open'
 have c2 := (hR.box.cell 2 (v := .slice Ao s.heap.length co) rfl).1
 have hbh := hR.hb
 have HSN := hide (fun b (hb : S b) => (hR.sin b hb).1)
 obtain ⟨op, d, a, b, xn, xm, args⟩ := x
 generalize jb7 s.heap xn xm = r at *
 obtain ⟨r1, r2, r3⟩ := r
 show Calls Tryz.prog 109 #[.pointer (some ⟨hc, 0, none⟩), .agg #[.int .i64 op, .int .i64 d, .int .i64 a, .int .i64 b, .int .i64 xn, .int .i64 xm, .slice A l c]] w fun e w' => e = .returned (.tuple #[.agg #[.int .i64 0, .int .i64 r2, .int .i64 0], .int .i64 ((r3 : Nat) : Int)]) /\ (∃ vh' S', RunP w' base hc vp P { s with heap := r1 } va vh' ve L S' /\ ∀ b, S' b -> S b \/ w.heap.size <= b) /\ Below base w w' /\ ∀ b, b < w.heap.size -> b ≠ hc -> w'.heap[b]? = w.heap[b]?
 generalize s.heap.length = hn at *
 clear hR hco hm hl
 go_enter Tryz.func109, Tryz.ntmps109
 go_upto_region 1 with (fail)
 obtain ⟨w1, hw1⟩ := zr ((w.alloc (.cells #[.int .i64 op, .int .i64 d, .int .i64 a, .int .i64 b, .int .i64 xn, .int .i64 xm, .slice A l c] 57)).alloc (.cells #[.int .i64 0, .int .i64 0, .int .i64 0] 87))
 obtain ⟨h5, hh5⟩ := zl w.heap.size
 have HX0 := zy2 hw1 hh5
 have HX1 := zx2 hw1 hh5
 have HB1 := zb2 hw1
 have h5g : w.heap.size <= h5 := by omega
 have lX1 := HX1.out.lt
 have p2 : w1.cell? ⟨hc, 2, none⟩ = some (.slice Ao hn co) := (HB1.out.cell (p := ⟨hc, 2, none⟩) hlt).trans c2
 obtain ⟨q4, -⟩ := HX0.out.cell 4 (v := .int .i64 xn) rfl
 obtain ⟨q5, -⟩ := HX0.out.cell 5 (v := .int .i64 xm) rfl
 have lX0 := HX0.out.lt
 have hhc1 : hc < w1.heap.size := Nat.lt_of_lt_of_le hlt HB1.out.size
 rw [<- hw1, hh5]
 clear hw1 hh5 c2
 go_cut [6, 7, 8] from 9 to 22 (fun p m e wx => ∃ H vh', p = .pointer (some ⟨H, 0, none⟩) /\ m = .int .i64 r2 /\ e = .int .i64 ((r3 : Nat) : Int) /\ Box wx H #[vh'] 31 /\ w1.heap.size <= H /\ ObjsV wx (fun b => S b \/ Made w1 wx b) vh' r1 /\ Below w1.heap.size w1 wx)
 case first =>
  have HKS := hide (fun (W : World) (hW : Below w1.heap.size w1 W) => And.intro ((hW.cell (p := ⟨hc, 2, none⟩) hhc1).trans p2) (And.intro ((hW.cell (p := ⟨h5, 4, none⟩) lX0).trans q4) ((hW.cell (p := ⟨h5, 5, none⟩) lX0).trans q5)))
  have BE0 := hide (show Below w1.heap.size w1 w1.drew from ja7 (Below.refl _ _))
  clear p2 q4 q5
  refine jaa (fun w' => w'.cell? ⟨hc, 2, none⟩ = some (.slice Ao hn co) /\ w'.cell? ⟨h5, 4, none⟩ = some (.int .i64 xn) /\ w'.cell? ⟨h5, 5, none⟩ = some (.int .i64 xm)) 14 (by kernel_rfl) (HKS.out _ BE0.out) ?_
  obtain ⟨w100, hw100⟩ := zr w1.drew
  have BE100 := hide (show Below w1.heap.size w1 w100 by rw [hw100]; exact BE0.out)
  rw [<- hw100]
  have hSd := HKS.out w100 BE100.out
  clear hw100
  refine tilM 0 (Or.inr hSd) ?_
  refine tilM 1 (Or.inr hSd) ?_
  refine tilM 2 (Or.inr hSd) ?_
  refine tilM 4 (Or.inr hSd) ?_
  refine tilM 6 (Or.inr hSd) ?_
  refine tilT 3 hSd ?_
  refine tilT 5 hSd ?_
  refine tilT 7 hSd ?_
  refine ja2 (rs := [8, 13]) (by kernel_rfl) (by simp) ?_
  refine AllTil.cons rfl (fun K hK => ?_) ?_
  ·skip
   rw [if_pos (by rfl)]
   go_simp
   go_at_call 143
   refine (HAL.out w100 (HB1.out.trans (BE100.out.mono HB1.out.size))).mono ?_
   rintro e w101 ⟨v2, rfl, ho2, hb2⟩
   have BE101 := hide (BE100.out.trans (hb2.mono BE100.out.size))
   have HO101 := hide ho2
   have HS101 := hide (Nat.le_refl w101.heap.size)
   obtain ⟨A2, c2, rfl, -, -⟩ := ho2.open'
   clear ho2 hb2
   refine hK.out _ _ (HKS.out w101 BE101.out) ?_
   clear hK K
   try clear hSd
   have hSd := HKS.out w101 BE101.out
   try simp only [tilS, Act.put]
   refine tilM 9 (Or.inr hSd) ?_
   refine tilM 10 (Or.inr hSd) ?_
   refine tilM 11 (Or.inr hSd) ?_
   refine tilM 12 (Or.inr hSd) ?_
   refine ja2 (rs := [13]) (by kernel_rfl) (by simp) ?_
   refine AllTil.cons rfl (fun K hK => ?_) ?_
   ·skip
    rw [if_pos (by rfl)]
    go_simp
    obtain ⟨Hg, hHg⟩ := zl w101.heap.size
    obtain ⟨w102, hw102⟩ := zr (w101.alloc (.cells #[.slice none 0 0] 31))
    have DE102 := zb1 hw102
    have BE102 := hide (BE101.out.trans (DE102.out.mono BE101.out.size))
    have BX102 := zx1 hw102 hHg
    have HHg := hide (show w1.heap.size <= Hg by rw [<- hHg]; exact BE101.out.size)
    have HHC101 := hide (show Hg < w100.heap.size \/ w101.heap.size <= Hg from .inr (by rw [<- hHg]; exact HS101.out))
    have HO102 := hide (HO101.out.keep (w' := w102) (S' := (fun b => S b \/ Made w100 w101 b)) (fun b o hb => (DE102.out).cell (p := ⟨b, o, none⟩) (by have s1 := HB1.out.size; have s2 := BE101.out.size; have s3 := HS101.out; rcases hb with hb | hb; have := HSN.out b hb; (show b < w101.heap.size); omega; have := hb.2; (show b < w101.heap.size); omega)) (fun b hb => hb))
    have HS101 := hide (show w101.heap.size <= w102.heap.size from Nat.le_trans HS101.out (DE102.out).size)
    rw [<- hw102, hHg]
    clear hw102 hHg
    refine hK.out _ _ (HKS.out w102 BE102.out) ?_
    clear hK K
    try clear hSd
    have hSd := HKS.out w102 BE102.out
    try simp only [tilS, Act.put]
    refine ja2 (rs := [14]) (by kernel_rfl) (by simp) ?_
    refine AllTil.last rfl (by rfl) (fun K hK => ?_)
    obtain ⟨z0, g0⟩ := BX102.out.cell 0 (v := .slice none 0 0) rfl
    rw [if_pos (by rfl)]
    go_simp
    obtain ⟨w103, hw103⟩ := zr (w102.setCell ⟨Hg, 0, none⟩ (.slice A2 r1.length c2))
    have BX103 := hide (show Box w103 Hg #[.slice A2 r1.length c2] 31 by rw [hw103]; have t := BX102.out.set 0 (.slice A2 r1.length c2); simpa using t)
    have BE103 := hide (show Below w1.heap.size w1 w103 by rw [hw103]; exact BE102.out.setCell (p := ⟨Hg, 0, none⟩) HHg.out _)
    have HO103 := hide (show ObjsV w103 (fun b => S b \/ Made w1 w103 b) (.slice A2 r1.length c2) r1 from HO102.out.keep (fun b o hb => by have hne : Hg ≠ b := (by have s1 := HB1.out.size; have s2 := HHg.out; have s3 := HHC101.out; rcases hb with hb | hb; have := HSN.out b hb; omega; have h1 := hb.1; have h2 := hb.2; omega); rw [hw103]; exact World.cell?_setCell_far _ _ _ _ (by simpa using hne)) (fun b hb => hb.imp id (fun h => ⟨Nat.le_trans BE100.out.size h.1, by rw [hw103, World.size_setCell]; exact Nat.lt_of_lt_of_le h.2 HS101.out⟩)))
    rw [<- hw103]
    clear hw103 z0 g0
    refine hK.out _ _ ?_
    clear hK K hSd
    try simp only [tilS, Act.put]
    refine tilM 15 (Or.inl (by rfl)) ?_
    refine tilM 16 (Or.inl (by rfl)) ?_
    refine jac (by kernel_rfl) ?_ _
    go_wp2_with fail
    go_meet
    case rel => exact ⟨Hg, _, rfl, rfl, rfl, BX103.out, HHg.out, HO103.out, BE103.out⟩
   exact AllTil.nil
  refine AllTil.cons rfl (fun K hK => ?_) ?_
  ·skip
   rw [if_pos (by rfl)]
   go_simp
   obtain ⟨Hg, hHg⟩ := zl w100.heap.size
   obtain ⟨w104, hw104⟩ := zr (w100.alloc (.cells #[.slice none 0 0] 31))
   have DE104 := zb1 hw104
   have BE104 := hide (BE100.out.trans (DE104.out.mono BE100.out.size))
   have BX104 := zx1 hw104 hHg
   have HHg := hide (show w1.heap.size <= Hg by rw [<- hHg]; exact BE100.out.size)
   rw [<- hw104, hHg]
   clear hw104 hHg
   refine hK.out _ _ (HKS.out w104 BE104.out) ?_
   clear hK K
   try clear hSd
   have hSd := HKS.out w104 BE104.out
   try simp only [tilS, Act.put]
   refine ja2 (rs := [8]) (by kernel_rfl) (by simp) ?_
   refine AllTil.cons rfl (fun K hK => ?_) ?_
   ·skip
    rw [if_pos (by rfl)]
    go_simp
    go_at_call 143
    refine (HAL.out w104 (HB1.out.trans (BE104.out.mono HB1.out.size))).mono ?_
    rintro e w105 ⟨v2, rfl, ho2, hb2⟩
    have BE105 := hide (BE104.out.trans (hb2.mono BE104.out.size))
    have HO105 := hide ho2
    have HS105 := hide (Nat.le_refl w105.heap.size)
    obtain ⟨A2, c2, rfl, -, -⟩ := ho2.open'
    have BX105 := hide (BX104.out.below hb2)
    have HHC105 := hide (show Hg < w104.heap.size \/ w105.heap.size <= Hg from .inl BX104.out.lt)
    clear ho2 hb2
    refine hK.out _ _ (HKS.out w105 BE105.out) ?_
    clear hK K
    try clear hSd
    have hSd := HKS.out w105 BE105.out
    try simp only [tilS, Act.put]
    refine tilM 9 (Or.inr hSd) ?_
    refine tilM 10 (Or.inr hSd) ?_
    refine tilM 11 (Or.inr hSd) ?_
    refine tilM 12 (Or.inr hSd) ?_
    refine ja2 (rs := [14]) (by kernel_rfl) (by simp) ?_
    refine AllTil.last rfl (by rfl) (fun K hK => ?_)
    obtain ⟨z0, g0⟩ := BX105.out.cell 0 (v := .slice none 0 0) rfl
    rw [if_pos (by rfl)]
    go_simp
    obtain ⟨w106, hw106⟩ := zr (w105.setCell ⟨Hg, 0, none⟩ (.slice A2 r1.length c2))
    have BX106 := hide (show Box w106 Hg #[.slice A2 r1.length c2] 31 by rw [hw106]; have t := BX105.out.set 0 (.slice A2 r1.length c2); simpa using t)
    have BE106 := hide (show Below w1.heap.size w1 w106 by rw [hw106]; exact BE105.out.setCell (p := ⟨Hg, 0, none⟩) HHg.out _)
    have HO106 := hide (show ObjsV w106 (fun b => S b \/ Made w1 w106 b) (.slice A2 r1.length c2) r1 from HO105.out.keep (fun b o hb => by have hne : Hg ≠ b := (by have s1 := HB1.out.size; have s2 := HHg.out; have s3 := HHC105.out; rcases hb with hb | hb; have := HSN.out b hb; omega; have h1 := hb.1; have h2 := hb.2; omega); rw [hw106]; exact World.cell?_setCell_far _ _ _ _ (by simpa using hne)) (fun b hb => hb.imp id (fun h => ⟨Nat.le_trans BE104.out.size h.1, by rw [hw106, World.size_setCell]; exact Nat.lt_of_lt_of_le h.2 HS105.out⟩)))
    rw [<- hw106]
    clear hw106 z0 g0
    refine hK.out _ _ ?_
    clear hK K hSd
    try simp only [tilS, Act.put]
    refine tilM 15 (Or.inl (by rfl)) ?_
    refine tilM 16 (Or.inl (by rfl)) ?_
    refine jac (by kernel_rfl) ?_ _
    go_wp2_with fail
    go_meet
    case rel => exact ⟨Hg, _, rfl, rfl, rfl, BX106.out, HHg.out, HO106.out, BE106.out⟩
   exact AllTil.nil
  exact AllTil.nil
 case rest =>
  obtain ⟨H, vh', rfl, rfl, rfl, hbx, hH, ho, hb⟩ := hcut
  obtain ⟨A2, c2, rfl, -, -⟩ := ho.open'
  have HX1c := hide (HX1.out.below hb)
  have HRB := hide (fun (wF : World) (hk : KeptR w w1 wc hc (.slice A2 r1.length c2) wF) => HRA.out (.slice A2 r1.length c2) w1 wc wF HB1.out hb ho hk)
  have HBC := hide (HB1.out.trans (hb.mono HB1.out.size))
  obtain ⟨k2, f2⟩ := HKB.out wc HBC.out
  obtain ⟨u0, -⟩ := hbx.cell 0 (v := .slice A2 r1.length c2) rfl
  obtain ⟨z0, g0⟩ := HX1c.out.cell 0 (v := .int .i64 0) rfl
  obtain ⟨z1, g1⟩ := HX1c.out.cell 1 (v := .int .i64 0) rfl
  obtain ⟨z2, g2⟩ := HX1c.out.cell 2 (v := .int .i64 0) rfl
  have hne : h5 + 1 ≠ hc := by omega
  have hne2 : hc ≠ h5 + 1 := by omega
  clear hbx hH ho hb
  go_wp2
  have HZ := hide ((((HX1c.out.other (g := hc) (j := 2) (v := .slice A2 r1.length c2) hne).set 0 (.int .i64 0)).set 1 (.int .i64 r2)).set 2 (.int .i64 0))
  have y0 := (HZ.out.cell 0 (v := .int .i64 0) rfl).1
  have y1 := (HZ.out.cell 1 (v := .int .i64 r2) rfl).1
  have y2 := (HZ.out.cell 2 (v := .int .i64 0) rfl).1
  have HKF := hide ((((KeptR.start (w := w) (w1 := w1) (w2 := wc) (hc := hc) (vh' := .slice A2 r1.length c2) hlt HB1.out.size).set (r := h5 + 1) (j := 0) (v := .int .i64 0) hlt (by omega) lX1).set (r := h5 + 1) (j := 1) (v := .int .i64 r2) hlt (by omega) lX1).set (r := h5 + 1) (j := 2) (v := .int .i64 0) hlt (by omega) lX1)
  refine bodyPost_ret (v := .tuple #[.agg #[.int .i64 0, .int .i64 r2, .int .i64 0], .int .i64 (r3 : Nat)]) (by simp [results, Tryz.results109, go_sem, y0, y1, y2]) rfl ⟨rfl, ⟨_, _, HRB.out _ HKF.out, fun b hb => hb.imp id (fun h => Nat.le_trans HB1.out.size h.1)⟩, ?_, fun b hb hne => (HKF.out.blk b (.inl ⟨hb, hne⟩)).trans (HBC.out.block b hb)⟩
  exact ((((HBC.out.mono hbase).setCell (p := ⟨hc, 2, none⟩) hbh _).setCell (p := ⟨h5 + 1, 0, none⟩) (by show base <= h5 + 1; omega) _).setCell (p := ⟨h5 + 1, 1, none⟩) (by show base <= h5 + 1; omega) _).setCell (p := ⟨h5 + 1, 2, none⟩) (by show base <= h5 + 1; omega) _
end Go.Proofs.YthbnbaikdcfbmaaGreatDoor
