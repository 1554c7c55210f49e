/- The statement RunPrints, walked: it answers true. Conditions: the tables of parts and of rows read as listed; no slice of the program is .. -/
import Derived.Test.YthbnbaikdcfbmaaGreatDoorPmUT
set_option linter.unusedSimpArgs false
set_option linter.unusedVariables false
set_option maxHeartbeats 4000000
set_option maxRecDepth 50000
namespace Go.Proofs.YthbnbaikdcfbmaaGreatDoor
open Go.RowKit
def qI (op : Int) (l : List InsV) : Bool := l.any fun x => x.op == op
def qB (op : Int) (bs : List (List InsV)) : Bool := bs.any (qI op)
theorem any_op (p : List FunV) (op : Int) (h : p.any (fun f => qB op f.blocks) = false) : jhn p op = false := by
 unfold jhn
 rw [<- h]
 congr 1
theorem jcz {α : Type} {f : α -> Bool} {l : List α} {q : Nat} {x : α} (hx : l[q]? = some x) (h : (l.take q).any f = false) (h1 : f x = false) : (l.take (q + 1)).any f = false := by
 rw [List.take_add_one, hx, Option.toList_some, List.any_append, h]
 simp [h1]
theorem jde {α : Type} {f : α -> Bool} {l : List α} {q : Nat} (hq : l.length <= q) (h : (l.take q).any f = false) : l.any f = false := by
 rwa [List.take_of_length_le hq] at h
theorem jke (vp : Value) (p : List FunV) (n : Nat) (hn : n < 65536) (w : World) (hT : TabP w) (hR : RowP w) (hp : FunsV w (· < w.heap.size) vp p) (hsz : jg8 p) :
  Calls Tryz.prog 7 #[.agg #[vp], .int .u16 (n : Int)] w fun e w' => e = .returned (.bool true) /\ Below w.heap.size w w' := by
 have HAL := hide (fun (W : World) (hW : Below w.heap.size w W) => jhg W (hT.below hW hT.1) (hR.below hW hR.1))
 have HOUT := hide (fun (W : World) (hW : Below w.heap.size w W) => jkh vp p W w.heap.size hW.size (hp.keep (up hW (Nat.le_refl _)) (fun _ h => h)) hsz)
 obtain ⟨m, hm⟩ := zl (n % 500)
 have hm4 : m <= 4000 := by omega
 obtain ⟨s, hs⟩ := zl (runS p (m : Int))
 have HRUN := hide (fun (h : ChkR p 0 /\ jaz p) (W : World) (hW : Below w.heap.size w W) => jg7 vp p (m : Int) W w.heap.size hW.size (hp.keep (up hW (Nat.le_refl _)) (fun _ h => h)) (hT.below hW hT.1) (hR.below hW hR.1) h.2 (fun n hn => hn.one h.1) (jcw h.1) (jcj hp))
 have HHEP := hide (fun (h : ChkR p 0 /\ jaz p) (W : World) (hW : Below w.heap.size w W) => jjo vp p (m : Int) W w.heap.size hW.size (hp.keep (up hW (Nat.le_refl _)) (fun _ h => h)) (hT.below hW hT.1) (hR.below hW hR.1) h.2 (fun n hn => hn.one h.1) (jcw h.1) (jcj hp))
 have HINV := hide (fun (h : ChkR p 0 /\ jaz p) => jq6 (jcw h.1) (jcj hp) (m : Int))
 rw [hs] at HRUN HHEP HINV
 have t1 : (n : Int).tmod 500 = (m : Int) := by rw [<- hm]; exact (Int.ofNat_tmod n 500).symm
 have t3 : (n : Int) % 500 = (m : Int) := by rw [<- hm]; exact (Int.natCast_emod n 500).symm
 have n0 : (0 : Int) <= (n : Int) := by omega
 have n1 : (n : Int) <= 65535 := by omega
 obtain ⟨A, c, rfl, hpc, hpm⟩ := hp.open'
 obtain ⟨lp, hlp⟩ := zl p.length
 have HLP := hide hlp
 have HPK := hide (fun (W : World) (hW : Below w.heap.size w W) => hp.keep (up hW (Nat.le_refl _)) (fun _ h => h))
 rw [hlp] at HOUT HRUN HHEP HPK hpc ⊢
 clear hp hsz hlp hT hR hs hm hm4 hn
 go_enter Tryz.func7, Tryz.ntmps7
 go_upto_region 1 with (fail)
 obtain ⟨w0, hw0⟩ := zr (w.alloc (.cells #[.slice A lp c] 24))
 obtain ⟨h0, hh0⟩ := zl w.heap.size
 have HX0 := zx1 hw0 hh0
 have HB0 := zb1 hw0
 rw [<- hw0, hh0]
 clear hw0 hh0
 go_upto_region 3 with (go_at_call 8; refine (HAL.out w0 HB0.out).mono ?_; rintro e w1 ⟨rfl, hb1⟩; have HX1 := hide (HX0.out.below hb1); have HC1 := hide (HB0.out.trans (hb1.mono HB0.out.size)); clear hb1)
 have x1 := (HX1.out.cell 0 (v := .slice A lp c) rfl).1
 have l1 := HX1.out.lt
 go_upto_region 5 with (go_at_call 9; refine (HOUT.out w1 HC1.out).mono ?_; rintro e w2 ⟨b1, rfl, hs2, hb2⟩; have HB2 := hide (HC1.out.trans (hb2.mono HC1.out.size)); have HX2 := hide (HX1.out.below hb2); have HS2 := hide hs2; clear hb2 hs2; cases b1)
 all_goals try (go_ret; exact ⟨rfl, HB2.out⟩)
 have HOK := hide (HS2.out.out (by simp))
 have HINV2 := hide (HINV.out HOK.out)
 have HRUN2 := hide (fun (W : World) (hW : Below w2.heap.size w2 W) => HRUN.out HOK.out W (HB2.out.trans (hW.mono HB2.out.size)))
 have HHP := hide (fun (W : World) (hW : Below w2.heap.size w2 W) => HHEP.out HOK.out W (HB2.out.trans (hW.mono HB2.out.size)))
 have HKS := hide (fun (W : World) (hW : Below w2.heap.size w2 W) => ((HX2.out.below hW).cell 0 (v := .slice A lp c) rfl).1)
 have l2 := HX2.out.lt
 have h0w := HX0.out.lt
 have HTM := hide (And.intro t1 (And.intro t3 (And.intro n0 n1)))
 clear HOUT HS2 HC1 HX1 l1 x1 HOK HINV HRUN HHEP HAL HX0 t1 t3 n0 n1
 go_wp2
 go_loopw [5, 6, 7] (fun a b i wr => ∃ (pr al : Bool) (q : Nat), q <= lp /\ a = .bool pr /\ b = .bool al /\ i = .int .i64 (q : Int) /\ Below w2.heap.size w2 wr /\ Hid (pr = false -> (p.take q).any (fun f => qB 20 f.blocks) = false) /\ Hid (al = false -> (p.take q).any (fun f => qB 10 f.blocks) = false)) (fun _ _ i _ => lp - (intOf i).toNat)
 case atStart => exact ⟨false, false, 0, Nat.zero_le _, rfl, rfl, rfl, Below.refl _ _, hide (fun _ => rfl), hide (fun _ => rfl)⟩
 case round =>
  obtain ⟨pr, al, k, hk, rfl, rfl, rfl, hb, h20, h10⟩ := hrel
  obtain ⟨wo, rfl⟩ := zr wr
  have HBW := hide hb
  have HBEL := hide (HB2.out.trans (hb.mono HB2.out.size))
  have xp := HKS.out wo hb
  have lxp : h0 < wo.heap.size := Nat.lt_of_lt_of_le l2 hb.size
  have hszo := hb.size
  clear hb
  by_cases hlt : k < lp
  case neg =>
   have HQ := hide (And.intro (fun e => HINV2.out.1 (any_op _ _ (jde (by have := HLP.out; omega) (h20.out e)))) (fun e => HINV2.out.2 (any_op _ _ (jde (by have := HLP.out; omega) (h10.out e)))))
   have HRN := hide (fun (e : pr = false) (W : World) (hW : Below wo.heap.size wo W) => (HRUN2.out W (HBW.out.trans (hW.mono hszo))).mono (R' := fun e w' => ∃ A c x y z, e = .returned (.agg #[.slice A 0 c, .int .i64 x, .int .i64 y, .int .i64 z]) /\ Below W.heap.size W w') (fun e' w' ⟨ve, h1, h2, h3⟩ => by
    rw [HQ.out.1 e] at h2
    obtain ⟨A, c, rfl, -⟩ := h2
    exact ⟨A, c, _, _, _, h1, h3⟩))
   have HHN := hide (fun (e : al = false) (W : World) (hW : Below wo.heap.size wo W) => (HHP.out W (HBW.out.trans (hW.mono hszo))).mono (R' := fun e w' => ∃ A c, e = .returned (.agg #[.slice A 0 c]) /\ Below W.heap.size W w') (fun e' w' ⟨ve, h1, h2, h3⟩ => by
    rw [HQ.out.2 e] at h2
    obtain ⟨A, c, rfl, -⟩ := h2
    exact ⟨A, c, h1, h3⟩))
   have HKO := hide (fun (W : World) (hW : Below wo.heap.size wo W) => And.intro (HKS.out W (HBW.out.trans (hW.mono hszo))) (Nat.lt_of_lt_of_le lxp hW.size))
   obtain ⟨t1, t3, n0, n1⟩ := HTM.out
   clear h20 h10 HQ HINV2 HRUN2 HHP
   go_upto_region 18 with (fail)
   clear t1 t3 n0 n1
   have fd1 : ∀ (A : Option Addr) (c : Nat) (x y z : Int) (W : World), (Instr.field 35 (.agg #[.slice A 0 c, .int .i64 x, .int .i64 y, .int .i64 z]) 0).run Tryz.prog W = .ok (.slice A 0 c) W := (fun _ _ _ _ _ _ => by kernel_rfl)
   have fd2 : ∀ (A : Option Addr) (c : Nat) (W : World), (Instr.field 31 (.agg #[.slice A 0 c]) 0).run Tryz.prog W = .ok (.slice A 0 c) W := (fun _ _ _ => by kernel_rfl)
   cases pr
   ·cases al
    ·go_wp2_with (first
      | (go_at_call 15; refine (HHN.out (by simp) w5 HB5.out).mono ?_; rintro e w6 ⟨A6, c6, rfl, hb⟩; have HB6 := hide (HB5.out.trans (hb.mono HB5.out.size)); clear hb)
      | (go_at_call 12; refine (HRN.out (by simp) wo (Below.refl _ _)).mono ?_; rintro e w5 ⟨A5, c5, x5, y5, z5, rfl, hb⟩; obtain ⟨xq, lq⟩ := HKO.out w5 hb; have HB5 := hide hb; clear hb))
     go_ret
     exact ⟨rfl, HBEL.out.trans (HB6.out.mono HBEL.out.size)⟩
    ·go_wp2_with (go_at_call 12; refine (HRN.out (by simp) wo (Below.refl _ _)).mono ?_; rintro e w5 ⟨A5, c5, x5, y5, z5, rfl, hb⟩; obtain ⟨xq, lq⟩ := HKO.out w5 hb; have HB5 := hide hb; clear hb)
     go_ret
     exact ⟨rfl, HBEL.out.trans (HB5.out.mono HBEL.out.size)⟩
   ·cases al
    ·go_wp2_with (go_at_call 15; refine (HHN.out (by simp) wo (Below.refl _ _)).mono ?_; rintro e w5 ⟨A5, c5, rfl, hb⟩; have HB5 := hide hb; clear hb)
     go_ret
     exact ⟨rfl, HBEL.out.trans (HB5.out.mono HBEL.out.size)⟩
    ·go_wp2
     go_ret
     exact ⟨rfl, HBEL.out⟩
  have HKLT := hide hlt
  obtain ⟨f, hf⟩ : ∃ f, p[k]? = some f := ⟨_, List.getElem?_eq_getElem (by have := HLP.out; omega)⟩
  obtain ⟨bg, og, Ak, ck, Ab, cb, As, cs, hA, hbb, ⟨e0, e1, e2, e3, e4⟩, hi⟩ := (HPK.out wo HBEL.out).get hf
  subst hA
  have hbs : bg < wo.heap.size := by have := HBEL.out.size; omega
  have HBV := hide (fun (W : World) (hW : Below wo.heap.size wo W) => (hi.keep (w := wo) (S := (· < w.heap.size)) (up hW HBEL.out.size) (fun _ h => h)).2.2.1)
  have HC4 := hide (fun (W : World) (hW : Below wo.heap.size wo W) => And.intro (And.intro (HKS.out W (HBW.out.trans (hW.mono hszo))) (Nat.lt_of_lt_of_le lxp hW.size)) (And.intro ((World.cell?_of_block (a := ⟨bg, og + k * 5 + 4, none⟩) (hW.block bg hbs)).trans e4) (Nat.lt_of_lt_of_le hbs hW.size)))
  have HFK := hide hf
  have H20 := hide h20.out
  have H10 := hide h10.out
  clear hi hf e0 e1 e2 e3 e4 h20 h10
  obtain ⟨ls, hls⟩ := zl f.blocks.length
  have HLS := hide hls
  rw [hls] at HC4 HBV
  obtain ⟨A9, c9, -, hls9, hls8⟩ := (HBV.out wo (Below.refl _ _)).open'
  rw [HLS.out] at hls9
  clear hls hlt
  have hki : (0 : Int) <= (k : Int) := by have := HKLT.out; omega
  have hkl : (k : Int) < (lp : Int) := by have := HKLT.out; omega
  go_wp2
  go_loopw [5, 6, 8] (fun a b i wr => ∃ (pr al : Bool) (q : Nat), q <= ls /\ a = .bool pr /\ b = .bool al /\ i = .int .i64 (q : Int) /\ Below wo.heap.size wo wr /\ Hid (pr = false -> (p.take k).any (fun f => qB 20 f.blocks) = false /\ (f.blocks.take q).any (qI 20) = false) /\ Hid (al = false -> (p.take k).any (fun f => qB 10 f.blocks) = false /\ (f.blocks.take q).any (qI 10) = false)) (fun _ _ i _ => ls - (intOf i).toNat)
  case atStart => exact ⟨pr, al, 0, Nat.zero_le _, rfl, rfl, rfl, Below.refl _ _, hide (fun e => ⟨H20.out e, rfl⟩), hide (fun e => ⟨H10.out e, rfl⟩)⟩
  case round =>
   obtain ⟨pr1, al1, j, hj, rfl, rfl, rfl, hb, h20, h10⟩ := hrel
   obtain ⟨wi, rfl⟩ := zr wr
   have HBI := hide hb
   obtain ⟨⟨xi, lxi⟩, ei, lbi⟩ := HC4.out wi hb
   have hszi := hb.size
   clear hb xp lxp hbs
   by_cases hjl : j < ls
   case neg =>
    go_wp2
    go_roundw
    case rel => exact ⟨pr1, al1, k + 1, by have := HKLT.out; omega, rfl, rfl, by go_num, HBW.out.trans (HBI.out.mono hszo), hide (fun e => jcz HFK.out (h20.out e).1 (jde (by have := HLS.out; omega) (h20.out e).2)), hide (fun e => jcz HFK.out (h10.out e).1 (jde (by have := HLS.out; omega) (h10.out e).2))⟩
    case measure => have := HKLT.out; simp [intOf]; omega
   have HJL := hide hjl
   obtain ⟨l, hl⟩ : ∃ l, f.blocks[j]? = some l := ⟨_, List.getElem?_eq_getElem (by have := HLS.out; omega)⟩
   obtain ⟨bh, oh, Al, cl, hA, hbh, d0, hli⟩ := (HBV.out wi HBI.out).get hl
   subst hA
   have hbhs : bh < wi.heap.size := by have := HBEL.out.size; omega
   have HLV := hide (fun (W : World) (hW : Below wi.heap.size wi W) => hli.keep (w := wi) (S := (· < w.heap.size)) (S' := (· < w.heap.size)) (up hW (by have := HBEL.out.size; omega)) (fun _ h => h))
   have HC5 := hide (fun (W : World) (hW : Below wi.heap.size wi W) => And.intro (HC4.out W (HBI.out.trans (hW.mono hszi))) (And.intro ((World.cell?_of_block (a := ⟨bh, oh + j, none⟩) (hW.block bh hbhs)).trans d0) (Nat.lt_of_lt_of_le hbhs hW.size)))
   have HLK := hide hl
   have H20b := hide h20.out
   have H10b := hide h10.out
   obtain ⟨ll, hll⟩ := zl l.length
   have HLL := hide hll
   rw [hll] at HC5 HLV
   obtain ⟨A7, c7, -, hll9, hll8⟩ := (HLV.out wi (Below.refl _ _)).open'
   rw [hll] at hll9
   clear hl hli d0 h20 h10 hll hjl
   have hji : (0 : Int) <= (j : Int) := by have := HJL.out; omega
   have hjl2 : (j : Int) < (ls : Int) := by have := HJL.out; omega
   go_wp2
   go_loopw [5, 6, 9] (fun a b i wr => ∃ (pr al : Bool) (q : Nat), q <= ll /\ a = .bool pr /\ b = .bool al /\ i = .int .i64 (q : Int) /\ Below wi.heap.size wi wr /\ Hid (pr = false -> (p.take k).any (fun f => qB 20 f.blocks) = false /\ (f.blocks.take j).any (qI 20) = false /\ (l.take q).any (fun x => x.op == 20) = false) /\ Hid (al = false -> (p.take k).any (fun f => qB 10 f.blocks) = false /\ (f.blocks.take j).any (qI 10) = false /\ (l.take q).any (fun x => x.op == 10) = false)) (fun _ _ i _ => ll - (intOf i).toNat)
   case atStart => exact ⟨pr1, al1, 0, Nat.zero_le _, rfl, rfl, rfl, Below.refl _ _, hide (fun e => ⟨(H20b.out e).1, (H20b.out e).2, rfl⟩), hide (fun e => ⟨(H10b.out e).1, (H10b.out e).2, rfl⟩)⟩
   case round =>
    obtain ⟨pr2, al2, r, hr, rfl, rfl, rfl, hb, h20, h10⟩ := hrel
    obtain ⟨wz, rfl⟩ := zr wr
    have HBZ := hide hb
    obtain ⟨⟨⟨xz, lxz⟩, ez, lbz⟩, dz, ldz⟩ := HC5.out wz hb
    have hszz := hb.size
    clear hb xi lxi ei lbi hbhs
    by_cases hrl : r < ll
    case neg =>
     go_wp2
     go_roundw
     case rel => exact ⟨pr2, al2, j + 1, by have := HJL.out; omega, rfl, rfl, by go_num, HBI.out.trans (HBZ.out.mono hszi), hide (fun e => ⟨(h20.out e).1, jcz HLK.out (h20.out e).2.1 (jde (by have := HLL.out; omega) (h20.out e).2.2)⟩), hide (fun e => ⟨(h10.out e).1, jcz HLK.out (h10.out e).2.1 (jde (by have := HLL.out; omega) (h10.out e).2.2)⟩)⟩
     case measure => have := HJL.out; simp [intOf]; omega
    obtain ⟨x, hx⟩ : ∃ x, l[r]? = some x := ⟨_, List.getElem?_eq_getElem (by have := HLL.out; omega)⟩
    obtain ⟨bq, oq, Ax, cx, hA, hbq, ⟨g0, -⟩, -⟩ := (HLV.out wz HBZ.out).get hx
    subst hA
    have hbqz : bq < wz.heap.size := by have := HBEL.out.size; omega
    have HXK := hide hx
    have HRL := hide hrl
    have hri : (0 : Int) <= (r : Int) := by omega
    have hrl2 : (r : Int) < (ll : Int) := by omega
    clear hx hrl
    have H20c := hide h20.out
    have H10c := hide h10.out
    clear h20 h10
    cases pr2
    ·cases al2
     ·go_wp2
      go_roundw
      case rel => exact ⟨_, _, r + 1, by have := HRL.out; omega, rfl, rfl, by go_num, HBZ.out, hide (fun e => ⟨(H20c.out (by simp)).1, (H20c.out (by simp)).2.1, jcz HXK.out (H20c.out (by simp)).2.2 e⟩), hide (fun e => ⟨(H10c.out (by simp)).1, (H10c.out (by simp)).2.1, jcz HXK.out (H10c.out (by simp)).2.2 e⟩)⟩
      case measure => have := HRL.out; simp [intOf]; omega
     ·go_wp2
      go_roundw
      case rel => exact ⟨_, true, r + 1, by have := HRL.out; omega, rfl, rfl, by go_num, HBZ.out, hide (fun e => ⟨(H20c.out (by simp)).1, (H20c.out (by simp)).2.1, jcz HXK.out (H20c.out (by simp)).2.2 e⟩), hide (fun e => by cases e)⟩
      case measure => have := HRL.out; simp [intOf]; omega
    ·cases al2
     ·go_wp2
      go_roundw
      case rel => exact ⟨true, _, r + 1, by have := HRL.out; omega, rfl, rfl, by go_num, HBZ.out, hide (fun e => by cases e), hide (fun e => ⟨(H10c.out (by simp)).1, (H10c.out (by simp)).2.1, jcz HXK.out (H10c.out (by simp)).2.2 e⟩)⟩
      case measure => have := HRL.out; simp [intOf]; omega
     ·go_wp2
      go_roundw
      case rel => exact ⟨true, true, r + 1, by have := HRL.out; omega, rfl, rfl, by go_num, HBZ.out, hide (fun e => by cases e), hide (fun e => by cases e)⟩
      case measure => have := HRL.out; simp [intOf]; omega
end Go.Proofs.YthbnbaikdcfbmaaGreatDoor
