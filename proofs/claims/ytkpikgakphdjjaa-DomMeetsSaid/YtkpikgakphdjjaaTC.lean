/- The contract of the reference's Check of layer 4. Condition: no instruction has more arguments than any machine's memory holds. -/
import Derived.Test.YtkpikgakphdjjaaTJ
import Derived.StillTailTactics
set_option linter.unusedSimpArgs false
set_option linter.unusedVariables false
namespace Go.Proofs.Ytkpikgakphdjjaa
open Go.RowKit

theorem ret_nat {a b : Nat} (h : a = b) : Ending.returned (.int .i64 (a : Int)) = .returned (.int .i64 (b : Int)) := by rw [h]
set_option maxHeartbeats 2000000 in
set_option maxRecDepth 100000 in
theorem check4_any (vp : Value) (p : List FunV) (w : World) (B : Nat) (hB : B ≤ w.heap.size) (hp : FunsV w (· < B) vp p) (hfew : progFew p) :
    Calls Try.prog 32 #[.agg #[vp]] w fun e w' => e = .returned (.int .i64 (chkN4 p : Nat)) ∧ Below w.heap.size w w' := by
  have kp := hide (fun (W : World) (hW : Below w.heap.size w W) => hp.keep (up hW hB) (fun _ h => h))
  have HIN := hide (fun (W : World) (hW : Below w.heap.size w W) (k : Nat) (f : FunV) (x : InsV) (va : Value) (hf : p[k]? = some f) (hx : InsI W (· < B) va x) (hl : x.args.length ≤ 1099511627000) => ins4_any vp p k f x va W B (by have := hW.size; omega) (hp.keep (up hW hB) (fun _ h => h)) hf hx hl)
  obtain ⟨A, c, rfl, hc, hm⟩ := hp.open'
  have HBAD := hide (fun h : progB4 p = false => (show chkN4 p = 5 by unfold chkN4; rw [h]; rfl))
  have HGOOD := hide (fun h : progB4 p = true => (show chkN4 p = 0 by unfold chkN4; rw [h]; rfl))
  generalize chkN4 p = R at *
  obtain ⟨n, hn⟩ : ∃ n, p.length = n := ⟨_, rfl⟩
  rw [hn] at hc kp HIN ⊢
  have HN := hide hn
  have HFEW := hide hfew
  have HW := hide (fun W => within4_any (n : Int) 1 8 W)
  clear hn hp hfew
  go_enter Try.func32, Try.ntmps32
  go_upto_region 1 with (fail)
  obtain ⟨w1, hw1⟩ : ∃ w1, w1 = w.alloc (.cells #[.slice A n c] 24) := ⟨_, rfl⟩
  have HXP := hide (show Box w1 w.heap.size #[.slice A n c] 24 by rw [hw1]; exact Box.new w _ _)
  have HB1 := hide (show Below w.heap.size w w1 by rw [hw1]; exact alloc1 w _)
  have l1 := HXP.out.lt
  have x0 := (HXP.out.cell 0 (v := .slice A n c) rfl).1
  rw [← hw1]
  clear hw1
  by_cases hin : inB 1 8 (n : Int) = true
  case neg =>
    have hin' := Bool.eq_false_iff.2 hin
    rw [hin'] at HW
    have HR := hide (HBAD.out (by unfold progB4; rw [HN.out, hin']; rfl))
    clear hin hin'
    go_wp2_with (go_at_call 44; refine (HW.out _).mono ?_; rintro e w' ⟨rfl, rfl⟩)
    go_ret
    exact ⟨ret_nat HR.out.symm, HB1.out⟩
  rw [hin] at HW
  obtain ⟨hn1, hn8⟩ : 1 ≤ n ∧ n ≤ 8 := by have := inB4_iff.1 hin; omega
  obtain ⟨f0, hf0⟩ : ∃ f, p[0]? = some f := ⟨_, List.getElem?_eq_getElem (by have := HN.out; omega)⟩
  have hbg : beginOk p = beginB f0 := by unfold beginOk; rw [hf0]
  have HPB := hide (show progB4 p = (beginB f0 && p.all (funOkB p)) by unfold progB4; rw [HN.out, hin, hbg]; rfl)
  clear hin hbg
  obtain ⟨b, o, Ak, ck, Ab, cb, As, cs, hA, hbb, ⟨e0, e1, e2, e3, e4⟩, -⟩ := (kp.out w1 HB1.out).get hf0
  cases hA
  rw [Nat.zero_mul, Nat.add_zero] at e2 e3
  have hbs : b < w1.heap.size := by omega
  clear e0 e1 e4 hf0
  have hn0 : 0 < n := by omega
  have hn0i : (0 : Int) < (n : Int) := by omega
  by_cases hfp : f0.params = 0
  case neg =>
    have hq : (f0.params != 0) = true := by simpa using hfp
    have HR := hide (HBAD.out (by rw [HPB.out]; unfold beginB; simp [hfp]))
    clear hfp
    generalize f0.params = fp at *
    go_wp2_with (go_at_call 44; refine (HW.out _).mono ?_; rintro e w' ⟨rfl, rfl⟩)
    go_ret
    exact ⟨ret_nat HR.out.symm, HB1.out⟩
  by_cases hfr : f0.result = 0
  case neg =>
    have hq : (f0.result != 0) = true := by simpa using hfr
    have HR := hide (HBAD.out (by rw [HPB.out]; unfold beginB; simp [hfr]))
    rw [hfp] at e2
    clear hfr hfp
    generalize f0.result = fr at *
    go_wp2_with (go_at_call 44; refine (HW.out _).mono ?_; rintro e w' ⟨rfl, rfl⟩)
    go_ret
    exact ⟨ret_nat HR.out.symm, HB1.out⟩
  have HPA := hide (show progB4 p = p.all (funOkB p) by rw [HPB.out]; unfold beginB; rw [hfp, hfr]; rfl)
  rw [hfp] at e2
  rw [hfr] at e3
  clear hfp hfr HPB
  go_wp2_with (go_at_call 44; refine (HW.out _).mono ?_; rintro e w' ⟨rfl, rfl⟩)
  clear e2 e3 hbs HW
  go_loopw [3] (fun i wr => ∃ k : Nat, k ≤ n ∧ i = .int .i64 k ∧ Below w1.heap.size w1 wr ∧ Hid ((p.take k).all (funOkB p) = true)) (fun i _ => n - (intOf i).toNat)
  case atStart => exact ⟨0, Nat.zero_le _, rfl, Below.refl _ _, hide (by simp)⟩
  case round =>
    obtain ⟨k, hk, rfl, hb, hall⟩ := hrel
    obtain ⟨wo, rfl⟩ : ∃ wo, wo = wr := ⟨_, rfl⟩
    have hsz := hb.size
    have HBEL := hide (HB1.out.trans (hb.mono HB1.out.size))
    have HXO := hide (HXP.out.below hb)
    have xp := (HXO.out.cell 0 (v := .slice (some ⟨b, o, none⟩) n c) rfl).1
    have HBW := hide hb
    clear hb x0
    by_cases hlt : k < n
    case neg =>
      have HR := hide (HGOOD.out (by rw [HPA.out]; exact allB_end hall.out HN.out (by omega)))
      go_wp2
      go_ret
      exact ⟨ret_nat HR.out.symm, HBEL.out⟩
    obtain ⟨f, hf⟩ : ∃ f, p[k]? = some f := ⟨_, List.getElem?_eq_getElem (by have := HN.out; omega)⟩
    obtain ⟨b0, o0, Ak, ck, Ab, cb, As, cs, hA, hbb, ⟨e0, e1, e2, e3, e4⟩, hi⟩ := (kp.out wo HBEL.out).get hf
    cases hA
    have hbs : b < wo.heap.size := by omega
    have HF := hide hf
    have HAF := hide (HFEW.out f (List.mem_of_getElem? hf))
    have HBK := hide (fun (W : World) (hW : Below w.heap.size w W) => (show BlksV W (· < B) (.slice As f.blocks.length cs) f.blocks from hi.2.2.1.keep (fun bb oo hbb => by
      have q1 := hW.cell (p := ⟨bb, oo, none⟩) (by show bb < _; omega)
      have q2 := HBEL.out.cell (p := ⟨bb, oo, none⟩) (by show bb < _; omega)
      rw [q1, q2]) (fun _ h => h)))
    have hFn := fun (W : World) (hW : Below w.heap.size w W) => func4_any (.slice Ak f.kinds.length ck) (.slice Ab f.base.length cb) (.slice As f.blocks.length cs) f W B (by have := hW.size; omega) (hi.keep (w := wo) (S := (· < B)) (fun bb oo hbb => by
      have q1 := hW.cell (p := ⟨bb, oo, none⟩) (by show bb < _; omega)
      have q2 := HBEL.out.cell (p := ⟨bb, oo, none⟩) (by show bb < _; omega)
      rw [q1, q2]) (fun _ h => h))
    have HFn := hide hFn
    obtain ⟨fb, hfb⟩ : ∃ fb, funB4 f = fb := ⟨_, rfl⟩
    rw [hfb] at HFn
    have HFB := hide hfb
    obtain ⟨lk, hlk⟩ : ∃ lk, f.kinds.length = lk := ⟨_, rfl⟩
    obtain ⟨lb, hlb⟩ : ∃ lb, f.base.length = lb := ⟨_, rfl⟩
    obtain ⟨ls, hls⟩ : ∃ ls, f.blocks.length = ls := ⟨_, rfl⟩
    obtain ⟨fp, hfp⟩ : ∃ fp, f.params = fp := ⟨_, rfl⟩
    obtain ⟨fr, hfr⟩ : ∃ fr, f.result = fr := ⟨_, rfl⟩
    rw [hlk] at e0 HFn
    rw [hlb] at e1 HFn
    rw [hls] at e4 HFn HBK
    rw [hfp] at e2 HFn
    rw [hfr] at e3 HFn
    have HLS := hide hls
    clear hi hf hFn hfb hlk hlb hls hfp hfr
    go_upto_region 7 with (fail)
    obtain ⟨w5, hw5⟩ : ∃ w5, w5 = wo.alloc (.cells #[.slice Ak lk ck, .slice Ab lb cb, .int .i64 fp, .int .i64 fr, .slice As ls cs] 30) := ⟨_, rfl⟩
    obtain ⟨h5, hh5⟩ : ∃ h5, wo.heap.size = h5 := ⟨_, rfl⟩
    have HX5 := hide (show Box w5 h5 #[.slice Ak lk ck, .slice Ab lb cb, .int .i64 fp, .int .i64 fr, .slice As ls cs] 30 by rw [hw5, ← hh5]; exact Box.new wo _ _)
    have HP5 := hide (show Box w5 w.heap.size #[.slice (some ⟨b, o, none⟩) n c] 24 by rw [hw5]; exact HXO.out.alloc _)
    have HB5 := hide (show Below w.heap.size w w5 by rw [hw5]; exact HBEL.out.alloc (by omega) _)
    have HC5 := hide (show Below w1.heap.size w1 w5 by rw [hw5]; exact HBW.out.alloc hsz _)
    rw [← hw5, hh5]
    clear hw5 hh5 e0 e1 e2 e3 e4 hbs xp
    have c0 := (HX5.out.cell 0 (v := .slice Ak lk ck) rfl).1
    have c1 := (HX5.out.cell 1 (v := .slice Ab lb cb) rfl).1
    have c2 := (HX5.out.cell 2 (v := .int .i64 fp) rfl).1
    have c3 := (HX5.out.cell 3 (v := .int .i64 fr) rfl).1
    have c4 := (HX5.out.cell 4 (v := .slice As ls cs) rfl).1
    have l5 := HX5.out.lt
    cases fb with
    | false =>
      have HR := hide (HBAD.out (by rw [HPA.out]; exact allB_not HF.out (by unfold funOkB; rw [HFB.out]; rfl)))
      go_wp2_with (go_at_call 45; refine (HFn.out _ HB5.out).mono ?_; rintro e w6 ⟨rfl, hb6⟩)
      go_ret
      exact ⟨ret_nat HR.out.symm, HB5.out.trans (hb6.mono HB5.out.size)⟩
    | true =>
      have hls40 : ls ≤ 40 := by have h := inB4_iff.1 (fun_all HFB.out).2.2.2.2.1; rw [HLS.out] at h; omega
      have HOK := hide (show funOkB p f = f.blocks.all (fun b => b.all (mayB4 p f)) by unfold funOkB; rw [HFB.out]; rfl)
      go_wp2_with (go_at_call 45; refine (HFn.out _ HB5.out).mono ?_; rintro e w6 ⟨rfl, hb6⟩; have hz6 := hb6.size; have HB6 := hide (HB5.out.trans (hb6.mono HB5.out.size)); have HC6 := hide (HC5.out.trans (hb6.mono HC5.out.size)); have HX6 := hide (HX5.out.below hb6); have HP6 := hide (HP5.out.below hb6); clear hb6)
      clear c0 c1 c2 c3 c4
      go_loopw [5] (fun i wr => ∃ j : Nat, j ≤ ls ∧ i = .int .i64 j ∧ Below w6.heap.size w6 wr ∧ Hid ((f.blocks.take j).all (fun b => b.all (mayB4 p f)) = true)) (fun i _ => ls - (intOf i).toNat)
      case atStart => exact ⟨0, Nat.zero_le _, rfl, Below.refl _ _, hide (by simp)⟩
      case round =>
        obtain ⟨j, hj, rfl, hbj, hallj⟩ := hrel
        obtain ⟨wp, rfl⟩ : ∃ wp, wp = wr := ⟨_, rfl⟩
        have hsj := hbj.size
        have HBJ := hide (HB6.out.trans (hbj.mono HB6.out.size))
        have HCJ := hide (HC6.out.trans (hbj.mono HC6.out.size))
        have HXJ := hide (HX6.out.below hbj)
        have HPJ := hide (HP6.out.below hbj)
        have HBJ6 := hide hbj
        have c4 := (HXJ.out.cell 4 (v := .slice As ls cs) rfl).1
        have lj := HXJ.out.lt
        clear hbj
        by_cases hlj : j < ls
        case neg =>
          have hn := hide (allB_take hall.out HF.out (by rw [HOK.out]; exact allB_end hallj.out HLS.out (by omega)))
          go_wp2
          go_roundw
          case rel => exact ⟨k + 1, by omega, by go_num, HCJ.out, hn⟩
          case measure => simp [intOf]; omega
        obtain ⟨x, hx⟩ : ∃ x, f.blocks[j]? = some x := ⟨_, List.getElem?_eq_getElem (by have := HLS.out; omega)⟩
        obtain ⟨b1, o1, A1, c1, hA1, hbb1, g0, hx1⟩ := (HBK.out wp HBJ.out).get hx
        have HXX := hide hx
        have HIS := hide (fun (W : World) (hW : Below wp.heap.size wp W) => hx1.keep (up hW (by have := HBJ.out.size; omega)) (fun _ h => h))
        obtain ⟨m, hm'⟩ : ∃ m, x.length = m := ⟨_, rfl⟩
        rw [hm'] at g0 HIS
        have HMM := hide hm'
        have HXF := hide (HAF.out x (List.mem_of_getElem? hx))
        have hbs1 : b1 < wp.heap.size := by have := HBJ.out.size; omega
        subst hA1
        have hji : (0 : Int) ≤ (j : Int) := by omega
        have hjl : (j : Int) < (ls : Int) := by omega
        obtain ⟨A1', c1', heq1, hm1, hm2⟩ := hx1.open'
        injection heq1 with hA1 _ hcs1
        subst hA1
        subst hcs1
        rw [hm'] at hm1
        clear hx hx1 hm'
        go_wp2
        go_loopw [6] (fun i wr => ∃ q : Nat, q ≤ m ∧ i = .int .i64 q ∧ Below wp.heap.size wp wr ∧ Hid ((x.take q).all (mayB4 p f) = true)) (fun i _ => m - (intOf i).toNat)
        case atStart => exact ⟨0, Nat.zero_le _, rfl, Below.refl _ _, hide (by simp)⟩
        case round =>
          obtain ⟨q, hq, rfl, hbq, hallq⟩ := hrel
          obtain ⟨ws, rfl⟩ : ∃ ws, ws = wr := ⟨_, rfl⟩
          have hsq := hbq.size
          have HBQ := hide (HBJ.out.trans (hbq.mono HBJ.out.size))
          have HXQ := hide (HXJ.out.below hbq)
          have HPQ := hide (HPJ.out.below hbq)
          have HBQJ := hide hbq
          have d4 := (HXQ.out.cell 4 (v := .slice (some ⟨b1, o1, none⟩) ls cs) rfl).1
          have lq := HXQ.out.lt
          have k0 := (hbq.cell (p := ⟨b1, o1 + j, none⟩) hbs1).trans g0
          have hbs1q : b1 < ws.heap.size := by omega
          clear hbq c4 g0
          by_cases hlq : q < m
          case neg =>
            have hn := hide (allB_take hallj.out HXX.out (allB_end hallq.out HMM.out (by omega)))
            go_wp2
            go_roundw
            case rel => exact ⟨j + 1, by omega, by go_num, HBJ6.out.trans (HBQJ.out.mono hsj), hn⟩
            case measure => simp [intOf]; omega
          obtain ⟨u, hu⟩ : ∃ u, x[q]? = some u := ⟨_, List.getElem?_eq_getElem (by have := HMM.out; omega)⟩
          obtain ⟨b2, o2, A2, c2, hA2, hbb2, ⟨i0, i1, i2, i3, i4, i5, i6⟩, hui⟩ := (HIS.out ws HBQJ.out).get hu
          subst hA2
          have hbs2 : b2 < ws.heap.size := by have := HBQ.out.size; omega
          have HU := hide hu
          have hMu := fun (W : World) (hW : Below ws.heap.size ws W) => HIN.out W (HBQ.out.trans (hW.mono HBQ.out.size)) k f u _ HF.out (hui.keep (up hW (by have := HBQ.out.size; omega)) (fun _ h => h)) (HXF.out u (List.mem_of_getElem? hu))
          have HMU := hide hMu
          obtain ⟨ub, hub⟩ : ∃ ub, mayB4 p f u = ub := ⟨_, rfl⟩
          rw [hub] at HMU
          have HUB := hide hub
          have p0 := (HPQ.out.cell 0 (v := .slice (some ⟨b, o, none⟩) n c) rfl).1
          have lp := HPQ.out.lt
          generalize u.args.length = la at *
          generalize u.op = xop, u.d = xd, u.a = xa, u.b = xb, u.n = xn, u.m = xm at *
          have hqi : (0 : Int) ≤ (q : Int) := by omega
          have hql : (q : Int) < (m : Int) := by omega
          clear hu hui hMu hub
          go_wp2_with fail
          go_still_tail 11, (by kernel_rfl)
          change wpList _ _ _ _ _ ws.drew
          cases ub with
          | false =>
            have HR := hide (HBAD.out (by rw [HPA.out]; exact allB_not HF.out (by rw [HOK.out]; exact allB_not (p := fun b : List InsV => b.all (mayB4 p f)) HXX.out (allB_not HU.out HUB.out))))
            go_wp2_with (go_at_call 46; refine (HMU.out _ ((Below.refl _ _).drew)).mono ?_; rintro e w9 ⟨rfl, hb9⟩)
            go_ret
            exact ⟨ret_nat HR.out.symm, HBQ.out.drew.trans (hb9.mono HBQ.out.size)⟩
          | true =>
            have hn := hide (allB_take hallq.out HU.out HUB.out)
            go_wp2_with (go_at_call 46; refine (HMU.out _ ((Below.refl _ _).drew)).mono ?_; rintro e w9 ⟨rfl, hb9⟩)
            go_roundw
            case rel => exact ⟨q + 1, by omega, by go_num, HBQJ.out.drew.trans (hb9.mono hsq), hn⟩
            case measure => simp [intOf]; omega
end Go.Proofs.Ytkpikgakphdjjaa
