/- Layer 7: Deep of the reference. Condition: the function is one of a program that may be. -/
import Derived.Test.YtlolgahaphmfoaaLT
import Derived.Test.YtlolgahaphmfoaaLJ
set_option linter.unusedSimpArgs false
set_option linter.unusedVariables false
namespace Go.Proofs.Ytlolgahaphmfoaa
open Go.RowKit

set_option maxHeartbeats 4000000 in
set_option maxRecDepth 100000 in
theorem rdeep_any (vk vb vs : Value) (f : FunV) (o : List Int) (ho : OrderOf f o) (A : List Int) (hAf : AbvOf f A) (p : Int → Int → Bool) (hp : ∀ a b, p a b = true ↔ domQ A a b) (BB : Int → List Int) (hBB : ∀ h, IsBody f (backN f o p) h (BB h)) (hs : List Int) (hhs : IsHeads (backN f o p) hs) (w : World) (B : Nat) (hB : B ≤ w.heap.size) (hi : FunI w (· < B) vk vb vs f) (hok : FlowOk f) (h1 : 1 ≤ f.blocks.length) :
    Calls Try.prog 23 #[.agg #[vk, vb, .int .i64 f.params, .int .i64 f.result, vs]] w fun e w' => ∃ g, e = .returned (.slice (some ⟨g, 0, none⟩) f.blocks.length f.blocks.length) ∧ TnW w' g f.blocks.length (dpT hs BB hs.length 0) ∧ w.heap.size ≤ g ∧ Below w.heap.size w w' := by
  have HHD := hide (fun (W : World) (hW : Below w.heap.size w W) => rheads_any vk vb vs f o ho A hAf p hp hs hhs W B (by have := hW.size; omega) (hi.keep (up hW hB) (fun _ h => h)) hok h1)
  have HBD := hide (fun (W : World) (hW : Below w.heap.size w W) (h : Int) => rbody_any vk vb vs f o ho A hAf p hp h (BB h) (hBB h) W B (by have := hW.size; omega) (hi.keep (up hW hB) (fun _ h => h)) hok h1)
  have HBN := hide (fun h (y : Int) (hy : y ∈ BB h) => (hBB h).nat hy)
  have HND := hide (fun h => (hBB h).nod)
  have HLB := hide (fun h => (show (BB h).length ≤ f.blocks.length from (hBB h).len))
  have hhl := heads_len hok hhs
  have hls40 := hok.1
  have hmake : ∀ W : World, (Instr.makeSlice 27 (.int .i64 (f.blocks.length : Int)) (.int .i64 (f.blocks.length : Int))).run Try.prog W = .ok (.slice (some ⟨W.heap.size, 0, none⟩) f.blocks.length f.blocks.length) (W.alloc (.cells (madeCells (Value.int .i64 0).cells (f.blocks.length * 1)) 3)) := fun W => mk_run 27 3 Try.underlying27 info_i64 (by omega) f.blocks.length (by omega) W
  obtain ⟨mc, hmc⟩ : ∃ mc, madeCells (Value.int .i64 0).cells (f.blocks.length * 1) = mc := ⟨_, rfl⟩
  rw [hmc] at hmake
  have HMC := hide (show mc = ((List.replicate f.blocks.length (0 : Int)).map (Value.int .i64)).toArray by rw [← hmc]; exact madeCells_int _)
  obtain ⟨Ak, ck, rfl, hck, hmk⟩ := hi.1.open'
  obtain ⟨Ab, cb, rfl, hcb, hmb⟩ := hi.2.1.open'
  obtain ⟨As, cs, rfl, hcs, hms⟩ := hi.2.2.1.open'
  obtain ⟨nh, hnh⟩ : ∃ n, hs.length = n := ⟨_, rfl⟩
  have HNH := hide hnh
  rw [hnh] at hhl ⊢
  generalize f.kinds.length = lk, f.base.length = lb, f.blocks.length = ls, f.params = fp, f.result = fr at *
  clear hi hok hnh ho hAf hp hBB hhs h1 hmc
  go_enter Try.func23, Try.ntmps23
  go_upto_region 1 with (fail)
  obtain ⟨w1, hw1⟩ : ∃ w1, w1 = w.alloc (.cells #[.slice Ak lk ck, .slice Ab lb cb, .int .i64 fp, .int .i64 fr, .slice As ls cs] 30) := ⟨_, rfl⟩
  obtain ⟨h5, hh5⟩ : ∃ h5, w.heap.size = h5 := ⟨_, rfl⟩
  have HX1 := hide (show Box w1 h5 #[.slice Ak lk ck, .slice Ab lb cb, .int .i64 fp, .int .i64 fr, .slice As ls cs] 30 by rw [hw1, ← hh5]; exact Box.new w _ _)
  have HB1 := hide (show Below w.heap.size w w1 by rw [hw1]; exact alloc1 w _)
  have HK1 := hide (fun (W : World) (hW : Below w1.heap.size w1 W) => And.intro ((HX1.out.below hW).cell 0 (v := .slice Ak lk ck) rfl).1 (And.intro ((HX1.out.below hW).cell 1 (v := .slice Ab lb cb) rfl).1 (And.intro ((HX1.out.below hW).cell 2 (v := .int .i64 fp) rfl).1 (And.intro ((HX1.out.below hW).cell 3 (v := .int .i64 fr) rfl).1 ((HX1.out.below hW).cell 4 (v := .slice As ls cs) rfl).1))))
  have HUP := hide (fun (W : World) (hW : Below w1.heap.size w1 W) => HB1.out.trans (hW.mono HB1.out.size))
  have l1 := HX1.out.lt
  have hw1s := HB1.out.size
  rw [← hw1, hh5]
  clear hw1 hh5
  obtain ⟨c0, c1, c2, c3, c4⟩ := HK1.out w1 (Below.refl _ _)
  go_upto_region 2 with (fail)
  obtain ⟨w2, hw2⟩ : ∃ w2, w2 = w1.alloc (.cells mc 3) := ⟨_, rfl⟩
  obtain ⟨g, hg⟩ : ∃ g, w1.heap.size = g := ⟨_, rfl⟩
  have HM2 := hide (show TnW w2 g ls (fun _ => 0) by rw [hw2, ← hg]; exact TnW.zero (Box.new w1 _ _) HMC.out)
  have HC2 := hide (show Below w1.heap.size w1 w2 by rw [hw2]; exact alloc1 w1 _)
  have hwg : w.heap.size ≤ g := by rw [← hg]; exact hw1s
  have hgh : h5 ≠ g := by omega
  have hz2 : g < w2.heap.size ∧ w2.heap.size ≤ g + 1 := by rw [hw2, World.size_alloc, hg]; omega
  rw [← hw2, hg]
  clear hw2 hg hmake HMC c0 c1 c2 c3 c4
  obtain ⟨c0, c1, c2, c3, c4⟩ := HK1.out w2 HC2.out
  have l2 : h5 < w2.heap.size := by have := HC2.out.size; omega
  go_wp2_with (go_at_call 19; refine (HHD.out w2 (HUP.out w2 HC2.out)).mono ?_; rintro e w5 ⟨v5, rfl, ho5, hb5⟩; obtain ⟨A5, k5, hv5, hle5, hme5, hs5⟩ := ho5.sl; rw [HNH.out] at hv5 hle5; have HS5 := hide hs5; have HB5 := hide hb5; have HA5 := hide (show ∀ b o', A5 = some ⟨b, o', none⟩ → b ≠ g from fun b o' e => (by have h1 := (World.ownsRow.lt ho5 b (by rw [hv5, e]; rfl)).1; omega)); subst hv5; clear hb5 ho5 hs5)
  clear c0 c1 c2 c3 c4 l2
  have hz5 := HB5.out.size
  have HC5 := hide (HC2.out.trans (HB5.out.mono HC2.out.size))
  have HX5 := hide (HX1.out.below HC5.out)
  have HD0 := hide (show DpL w5 g ls hs BB 0 0 w5 from ⟨by rw [dpT_zero]; exact HM2.out.below HB5.out, But.refl _ _⟩)
  have HKB := hide (fun (wr : World) (hb : But g w5 wr) => (show Below w.heap.size w wr from hb.below (HUP.out w5 HC5.out) hwg (by omega)))
  go_loopw [5] (fun i wr => ∃ k : Nat, k ≤ nh ∧ i = .int .i64 (k : Int) ∧ Hid (DpL w5 g ls hs BB k 0 wr)) (fun i _ => nh - (intOf i).toNat)
  case atStart => exact ⟨0, Nat.zero_le _, rfl, HD0⟩
  case round =>
    obtain ⟨k, hk, rfl, hin⟩ := hrel
    obtain ⟨wo, rfl⟩ : ∃ wo, wo = wr := ⟨_, rfl⟩
    have HD := hide hin.out
    have hbut := hin.out.2
    have HBU := hide hbut
    have hzo := hbut.size
    have HXO := hide (hbut.box HX5.out hgh)
    have HBO := hide (HKB.out wo hbut)
    clear hin hbut
    by_cases hlt : k < nh
    case neg =>
      have hkn : k = nh := by omega
      have HF := hide (show TnW wo g ls (dpT hs BB nh 0) by rw [← hkn]; exact HD.out.1)
      clear hkn
      go_wp2
      go_ret
      exact ⟨g, rfl, HF.out, hwg, HBO.out⟩
    obtain ⟨h, hh⟩ : ∃ h, hs[k]? = some h := ⟨_, List.getElem?_eq_getElem (by have := HNH.out; omega)⟩
    obtain ⟨be, oe, rfl, hbe, hcc⟩ := (HBU.out.sl HS5.out (Nat.le_refl _) HA5.out) (by have := HNH.out; omega)
    have d1 := hcc k (by have := HNH.out; omega)
    rw [show hs.getD k 0 = h by simp [List.getD, hh]] at d1
    have hbs : be < wo.heap.size := by omega
    have HH := hide hh
    have lo := HXO.out.lt
    have HBC := hide (fun (W : World) (hW : Below wo.heap.size wo W) => HBD.out W (HBO.out.trans (hW.mono HBO.out.size)) h)
    obtain ⟨bl, hbl⟩ : ∃ bl, BB h = bl := ⟨_, rfl⟩
    rw [hbl] at HBC
    have HBL := hide hbl
    have HNB := hide (show ∀ y ∈ bl, ∃ x : Nat, y = x ∧ x < ls by rw [← hbl]; exact HBN.out h)
    have HNO := hide (show bl.Nodup by rw [← hbl]; exact HND.out h)
    obtain ⟨nb, hnb⟩ : ∃ n, bl.length = n := ⟨_, rfl⟩
    have HNBL := hide hnb
    have hnb40 : nb ≤ ls := by rw [← hnb, ← hbl]; exact HLB.out h
    have HK := hide (fun (W : World) (hW : Below wo.heap.size wo W) => And.intro ((HXO.out.below hW).cell 0 (v := .slice Ak lk ck) rfl).1 (And.intro ((HXO.out.below hW).cell 1 (v := .slice Ab lb cb) rfl).1 (And.intro ((HXO.out.below hW).cell 2 (v := .int .i64 fp) rfl).1 (And.intro ((HXO.out.below hW).cell 3 (v := .int .i64 fr) rfl).1 (And.intro ((HXO.out.below hW).cell 4 (v := .slice As ls cs) rfl).1 ((hW.cell (p := ⟨be, oe + k, none⟩) hbs).trans d1))))))
    obtain ⟨c0, c1, c2, c3, c4, -⟩ := HK.out wo (Below.refl _ _)
    have kk1 : (0 : Int) ≤ (k : Int) := by omega
    have kk2 : (k : Int) < (nh : Int) := by omega
    clear hcc hh hbe hbl hnb
    go_upto_region 6 with (fail)
    go_region_held3 (fun w' => w'.cell? ⟨h5, 0, none⟩ = some (.slice Ak lk ck) ∧ w'.cell? ⟨h5, 1, none⟩ = some (.slice Ab lb cb) ∧ w'.cell? ⟨h5, 2, none⟩ = some (.int .i64 fp) ∧ w'.cell? ⟨h5, 3, none⟩ = some (.int .i64 fr) ∧ w'.cell? ⟨h5, 4, none⟩ = some (.slice As ls cs) ∧ w'.cell? ⟨be, oe + k, none⟩ = some (.int .i64 h)) (first | go_keep | (exact q8))
      (first | (go_at_call 21; refine (HBC.out _ (below_drewN (Below.refl _ _) 1)).mono ?_; rintro e w7 ⟨v7, rfl, ho7, hb7⟩; obtain ⟨A7, k7, hv7, hle7, hme7, hs7⟩ := ho7.sl; rw [HNBL.out] at hv7 hle7; have hc8 : Below wo.heap.size wo w7 := ⟨hb7.os, hb7.tape, hb7.output, hb7.size, hb7.block⟩; have q8 := HK.out w7 hc8; have HS7 := hide hs7; have HB7 := hide hc8; have HA7 := hide (show ∀ b o', A7 = some ⟨b, o', none⟩ → b ≠ g from fun b o' e => (by have h1 := (World.ownsRow.lt ho7 b (by rw [hv7, e]; rfl)).1; have h2 : wo.heap.size ≤ b := h1; omega)); have hz7 := hc8.size; subst hv7; clear hb7 ho7 hs7 hc8))
    all_goals
      clear c0 c1 c2 c3 c4 lo d1 hbs q8
      have HD7 := hide (show DpL w7 g ls hs BB k 0 w7 from ⟨HD.out.1.below HB7.out, But.refl _ _⟩)
      have HB57 := hide (HBU.out.trans (But.of_below (g := g) HB7.out))
      go_wp2
      go_loopw [7] (fun i wr => ∃ j : Nat, j ≤ nb ∧ i = .int .i64 (j : Int) ∧ Hid (DpL w7 g ls hs BB k j wr)) (fun i _ => nb - (intOf i).toNat)
      case atStart => exact ⟨0, Nat.zero_le _, rfl, HD7⟩
      case round =>
        obtain ⟨j, hj, rfl, hin⟩ := hrel
        obtain ⟨wj, rfl⟩ : ∃ wj, wj = wr := ⟨_, rfl⟩
        have HKJ := hide hin.out
        have hzj := hin.out.2.size
        clear hin
        by_cases hlj : j < nb
        case neg =>
          have HN := hide (show DpL w5 g ls hs BB (k + 1) 0 wj from ⟨by rw [← dpT_row HH.out (by rw [HBL.out, HNBL.out]; omega : (BB h).length ≤ j)]; exact HKJ.out.1, HB57.out.trans HKJ.out.2⟩)
          go_wp2
          go_roundw
          case rel => exact ⟨k + 1, by omega, by go_num, HN⟩
          case measure => simp [intOf]; omega
        obtain ⟨y, hy⟩ : ∃ y, bl[j]? = some y := ⟨_, List.getElem?_eq_getElem (by have := HNBL.out; omega)⟩
        obtain ⟨x, rfl, hxl⟩ := HNB.out y (List.mem_of_getElem? hy)
        obtain ⟨b7, o7, rfl, hb7, hc7⟩ := (HKJ.out.2.sl HS7.out (Nat.le_refl _) HA7.out) (by have := HNBL.out; omega)
        have cj := hc7 j (by have := HNBL.out; omega)
        rw [show bl.getD j 0 = (x : Int) by simp [List.getD, hy]] at cj
        have hb7s : b7 < wj.heap.size := by omega
        have hbms : g < wj.heap.size := Box.lt HKJ.out.1
        obtain ⟨t1, t2⟩ := HKJ.out.1.cell hxl
        have s1 := dpT_step (h := h) (B := BB) (j := j) (x := x) (by rw [HBL.out]; exact HNO.out) HH.out (by rw [HBL.out]; exact hy)
        have hcn := dpT_le hs BB k j x
        obtain ⟨cn, hcn'⟩ : ∃ c, dpT hs BB k j x = c := ⟨_, rfl⟩
        rw [hcn'] at t1 s1 hcn
        have HST := hide (show DpL w7 g ls hs BB k (j + 1) (wj.setCell ⟨g, x, none⟩ (.int .i64 ((cn : Int) + 1))) from ⟨by rw [← s1]; exact HKJ.out.1.set (v := cn + 1), HKJ.out.2.set⟩)
        have e1 : IntKind.i64.wrap ((cn : Int) + 1) = (cn : Int) + 1 := IntWalk.i64_in _ ⟨by omega, by omega⟩
        have q3 : (0 : Int) ≤ (x : Int) := by omega
        have q4 : (x : Int) < (ls : Int) := by omega
        clear hc7 hy s1 hcn' hb7
        go_wp2
        go_roundw
        case rel => exact ⟨j + 1, by omega, by go_num, HST⟩
        case measure => simp [intOf]; omega
end Go.Proofs.Ytlolgahaphmfoaa
