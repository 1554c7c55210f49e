/- Layer 7: where blocks stand in the order, which edges turn back, which are back edges: what the program answers. Condition: the function is one of a program that may be. -/
import Derived.Test.YtnoknodijombpaaPgLA
import Derived.BigQuiet
set_option linter.unusedSimpArgs false
set_option linter.unusedVariables false
namespace Go.Proofs.Ytnoknodijombpaa
open Go.RowKit

theorem placesL_step {w8 wr : World} {bp n j : Nat} {l : List Int} {y : Nat} (hr : PlaceW wr bp n (l.take j)) (hb : But bp w8 wr) (hn : l.Nodup) (hy : l[j]? = some (y : Int)) (hyn : y < n) : PlaceW (wr.setCell ⟨bp, y, none⟩ (.int .i64 ((j : Int) + 1))) bp n (l.take (j + 1)) ∧ But bp w8 (wr.setCell ⟨bp, y, none⟩ (.int .i64 ((j : Int) + 1))) := by
  have hj := (List.getElem?_eq_some_iff.1 hy).1
  refine ⟨?_, hb.set⟩
  have h := hr.add hyn (nodup_take hn hy)
  rw [List.length_take, Nat.min_eq_left (by omega)] at h
  rw [take_snocI hy]
  simpa using h
def PlcL (w8 : World) (bp n : Nat) (l : List Int) (k : Nat) (wr : World) : Prop := PlaceW wr bp n (l.take k) ∧ But bp w8 wr
set_option maxHeartbeats 2000000 in
set_option maxRecDepth 100000 in
theorem lplaces_any (vk vb vs : Value) (f : FunV) (o : List Int) (ho : OrderOf f o) (w : World) (B : Nat) (hB : B ≤ w.heap.size) (hi : FunI w (· < B) vk vb vs f) (hok : FlowOk f) (h1 : 1 ≤ f.blocks.length) :
    Calls Try.prog 74 #[.agg #[vk, vb, .int .i64 f.params, .int .i64 f.result, vs]] w fun e w' => ∃ gp, e = .returned (.slice (some ⟨gp, 0, none⟩) f.blocks.length f.blocks.length) ∧ PlaceW w' gp f.blocks.length o ∧ w.heap.size ≤ gp ∧ Below w.heap.size w w' := by
  have HOX := hide (fun (W : World) (hW : Below w.heap.size w W) => (forder_any vk vb vs f W B (by have := hW.size; omega) (hi.keep (up hW hB) (fun _ h => h)) hok h1).mono (R' := fun e w' => ∃ v, e = .returned v ∧ Ow w' W.heap.size 3 .i64 v o ∧ Below W.heap.size W w') (fun e w' ⟨v, l, q1, q2, q3, q4⟩ => ⟨v, q1, by rw [ho.one q2]; exact q3, q4⟩))
  have HRD := hide (order_reach hok h1 ho)
  have hol := order_len hok h1 ho
  have hls40 := hok.1
  have hmake : ∀ W : World, (Instr.makeSlice 27 (.int .i64 (f.blocks.length : Int)) (.int .i64 (f.blocks.length : Int))).run Try.prog W = .ok (.slice (some ⟨W.heap.size, 0, none⟩) f.blocks.length f.blocks.length) (W.alloc (.cells (madeCells (Value.int .i64 0).cells (f.blocks.length * 1)) 3)) := fun W => mk_run 27 3 Try.underlying27 info_i64 (by omega) f.blocks.length (by omega) W
  obtain ⟨mc, hmc⟩ : ∃ mc, madeCells (Value.int .i64 0).cells (f.blocks.length * 1) = mc := ⟨_, rfl⟩
  rw [hmc] at hmake
  have HMC := hide (show mc = ((List.replicate f.blocks.length (0 : Int)).map (Value.int .i64)).toArray by rw [← hmc]; exact madeCells_int _)
  obtain ⟨Ak, ck, rfl, hck, hmk⟩ := hi.1.open'
  obtain ⟨Ab, cb, rfl, hcb, hmb⟩ := hi.2.1.open'
  obtain ⟨As, cs, rfl, hcs, hms⟩ := hi.2.2.1.open'
  obtain ⟨ls, hls⟩ : ∃ ls, f.blocks.length = ls := ⟨_, rfl⟩
  have HLS := hide hls
  rw [hls] at HOX hmake HMC hls40 hcs ⊢
  obtain ⟨nL, hnL⟩ : ∃ n, o.length = n := ⟨_, rfl⟩
  have HNL := hide hnL
  rw [hnL] at hol
  generalize f.kinds.length = lk, f.base.length = lb, f.params = fp, f.result = fr at *
  clear hi hok hmc hls hnL ho h1
  go_enter Try.func74, Try.ntmps74
  go_upto_region 1 with (fail)
  obtain ⟨w1, hw1⟩ : ∃ w1, w1 = w.alloc (.cells #[.slice Ak lk ck, .slice Ab lb cb, .int .i64 fp, .int .i64 fr, .slice As ls cs] 30) := ⟨_, rfl⟩
  obtain ⟨h5, hh5⟩ : ∃ h5, w.heap.size = h5 := ⟨_, rfl⟩
  have HX1 := hide (show Box w1 h5 #[.slice Ak lk ck, .slice Ab lb cb, .int .i64 fp, .int .i64 fr, .slice As ls cs] 30 by rw [hw1, ← hh5]; exact Box.new w _ _)
  have HB1 := hide (show Below w.heap.size w w1 by rw [hw1]; exact alloc1 w _)
  have HK1 := hide (fun (W : World) (hW : Below w1.heap.size w1 W) => And.intro ((HX1.out.below hW).cell 0 (v := .slice Ak lk ck) rfl).1 (And.intro ((HX1.out.below hW).cell 1 (v := .slice Ab lb cb) rfl).1 (And.intro ((HX1.out.below hW).cell 2 (v := .int .i64 fp) rfl).1 (And.intro ((HX1.out.below hW).cell 3 (v := .int .i64 fr) rfl).1 ((HX1.out.below hW).cell 4 (v := .slice As ls cs) rfl).1))))
  have HUP := hide (fun (W : World) (hW : Below w1.heap.size w1 W) => HB1.out.trans (hW.mono HB1.out.size))
  have l1 := HX1.out.lt
  have hw1s := HB1.out.size
  rw [← hw1, hh5]
  clear hw1 hh5
  obtain ⟨c0, c1, c2, c3, c4⟩ := HK1.out w1 (Below.refl _ _)
  go_upto_region 2 with (fail)
  obtain ⟨w2, hw2⟩ : ∃ w2, w2 = w1.alloc (.cells mc 3) := ⟨_, rfl⟩
  obtain ⟨bp, hbp⟩ : ∃ bp, w1.heap.size = bp := ⟨_, rfl⟩
  have HM2 := hide (show PlaceW w2 bp ls [] by unfold PlaceW; rw [hw2, ← hbp, placeOf_nil, ← HMC.out]; exact Box.new w1 _ _)
  have HC2 := hide (show Below w1.heap.size w1 w2 by rw [hw2]; exact alloc1 w1 _)
  have hbpw : w.heap.size ≤ bp := by rw [← hbp]; exact hw1s
  have hz2 : w2.heap.size = bp + 1 := by rw [hw2, World.size_alloc, hbp]
  have HZ2 := hide hz2
  rw [← hw2, hbp]
  clear hw2 hbp hz2 hmake HMC c0 c1 c2 c3 c4
  obtain ⟨c0, c1, c2, c3, c4⟩ := HK1.out w2 HC2.out
  have l2 : h5 < w2.heap.size := by have := HC2.out.size; omega
  go_upto_region 3 with (go_at_call 80; refine (HOX.out w2 (HUP.out w2 HC2.out)).mono ?_; rintro e w3 ⟨v3, rfl, ho3, hb3⟩; obtain ⟨A3, k3, hv3, hle3, hme3, hs3⟩ := ho3.sl; rw [HNL.out] at hv3 hle3; have HS3 := hide hs3; have HM3 := hide (show PlaceW w3 bp ls [] from Box.below HM2.out hb3); have HC3 := hide (HC2.out.trans (hb3.mono HC2.out.size)); have HA3 := hide (show ∀ b o', A3 = some ⟨b, o', none⟩ → b ≠ bp from fun b o' e => (by have h1 := (World.ownsRow.lt ho3 b (by rw [hv3, e]; rfl)).1; have h2 := HZ2.out; omega)); subst hv3; clear hb3 ho3 hs3)
  clear c0 c1 c2 c3 c4 l2
  have hz3 := HC3.out.size
  go_loopw [13] (fun i wr => ∃ j : Nat, j ≤ nL ∧ i = .int .i64 j ∧ Hid (PlcL w3 bp ls o j wr)) (fun i _ => nL - (intOf i).toNat)
  case atStart => exact ⟨0, Nat.zero_le _, rfl, hide ⟨by rw [List.take_zero]; exact HM3.out, But.refl _ _⟩⟩
  case round =>
    obtain ⟨j, hj, rfl, hin⟩ := hrel
    obtain ⟨hmk', hbut⟩ := hin.out
    have hsw := hbut.size
    by_cases hlj : j < nL
    · obtain ⟨y, hy⟩ : ∃ y, o[j]? = some y := ⟨_, List.getElem?_eq_getElem (by have := HNL.out; omega)⟩
      obtain ⟨hy0, hyn⟩ := HRD.out.rng y (List.mem_of_getElem? hy)
      rw [HLS.out] at hyn
      obtain ⟨yn, rfl⟩ : ∃ n : Nat, y = n := ⟨y.toNat, by omega⟩
      have hynl : yn < ls := by omega
      obtain ⟨b3, o3, rfl, hb3, hc3⟩ := (hbut.sl HS3.out (Nat.le_refl _) HA3.out) (by have := HNL.out; omega)
      have cj := hc3 j (by have := HNL.out; omega)
      rw [show o.getD j 0 = (yn : Int) by simp [List.getD, hy]] at cj
      have lb3r : b3 < wr.heap.size := by omega
      have lbpr : bp < wr.heap.size := Box.lt hmk'
      obtain ⟨mc1, mf1⟩ := hmk'.cell hynl
      have HST := hide (show PlcL w3 bp ls o (j + 1) (wr.setCell ⟨bp, yn, none⟩ (.int .i64 ((j : Int) + 1))) from placesL_step hmk' hbut HRD.out.nod hy hynl)
      have e1 : IntKind.i64.wrap ((j : Int) + 1) = (j : Int) + 1 := IntWalk.i64_in _ ⟨by omega, by omega⟩
      have q1 : ¬ (yn : Int) < 0 := by omega
      have q2 : ¬ ls ≤ yn := by omega
      have q3 : (0 : Int) ≤ (yn : Int) := by omega
      have q4 : (yn : Int) < (ls : Int) := by omega
      clear hy hmk' hbut hin hy0 hyn hc3 hb3
      go_wp2
      go_roundw
      case rel => exact ⟨j + 1, by omega, by go_num, HST⟩
      case measure => simp [intOf]; omega
    · have HE := hide (show PlaceW wr bp ls o by have h := hmk'; rwa [List.take_of_length_le (by have := HNL.out; omega)] at h)
      have HBE := hide (show Below w.heap.size w wr from hbut.below (HUP.out w3 HC3.out) hbpw (by have := HB1.out.size; omega))
      clear hmk' hbut hin
      go_wp2
      go_ret
      exact ⟨bp, rfl, HE.out, hbpw, HBE.out⟩
set_option maxHeartbeats 2000000 in
set_option maxRecDepth 100000 in
theorem turn1_any (hb gp n a b : Nat) (o : List Int) (w : World) (hx : Box w hb #[.slice (some ⟨gp, 0, none⟩) n n] 27) (hP : PlaceW w gp n o) (ha : a < n) (hbn : b < n) (hn40 : n ≤ 40) :
    Calls Try.prog 75 #[.agg #[.int .i64 (a : Int), .int .i64 (b : Int)], .pointer (some ⟨hb, 0, none⟩)] w fun e w' => e = .returned (.bool (turnB o ((a : Int), (b : Int)))) ∧ Below w.heap.size w w' := by
  have HX0 := hide hx
  have HP0 := hide hP
  obtain ⟨pa, hpa⟩ : ∃ x, placeN o (a : Int) = x := ⟨_, rfl⟩
  obtain ⟨pb, hpb⟩ : ∃ x, placeN o (b : Int) = x := ⟨_, rfl⟩
  have HT := hide (show turnB o ((a : Int), (b : Int)) = (decide (0 < pb) && decide (pb ≤ pa)) by unfold turnB; simp only [hpa, hpb])
  have hca := (hP.cell ha).1
  have hcb := (hP.cell hbn).1
  rw [hpa] at hca
  rw [hpb] at hcb
  have HCA := hide hca
  have HCB := hide hcb
  rw [HT.out]
  clear hx hP hpa hpb hca hcb
  go_enter Try.func75, Try.ntmps75
  go_upto_region 1 with (fail)
  obtain ⟨w1, hw1⟩ : ∃ w1, w1 = w.alloc (.cells #[.int .i64 (a : Int), .int .i64 (b : Int)] 55) := ⟨_, rfl⟩
  obtain ⟨h5, hh5⟩ : ∃ h5, w.heap.size = h5 := ⟨_, rfl⟩
  have HX1 := hide (show Box w1 h5 #[.int .i64 (a : Int), .int .i64 (b : Int)] 55 by rw [hw1, ← hh5]; exact Box.new w _ _)
  have HB1 := hide (show Below w.heap.size w w1 by rw [hw1]; exact alloc1 w _)
  rw [← hw1, hh5]
  clear hw1 hh5
  have l1 := HX1.out.lt
  have d0 := (HX1.out.cell 0 (v := .int .i64 (a : Int)) rfl).1
  have d1 := (HX1.out.cell 1 (v := .int .i64 (b : Int)) rfl).1
  have hx1 := HX0.out.below HB1.out
  have x0 := (hx1.cell 0 (v := .slice (some ⟨gp, 0, none⟩) n n) rfl).1
  have lx := hx1.lt
  have lp : gp < w1.heap.size := Box.lt (Box.below HP0.out HB1.out)
  have ca := (HB1.out.cell (p := ⟨gp, a, none⟩) (Box.lt HP0.out)).trans HCA.out
  have cb := (HB1.out.cell (p := ⟨gp, b, none⟩) (Box.lt HP0.out)).trans HCB.out
  have j1 : (0 : Int) ≤ (a : Int) := by omega
  have j2 : (a : Int) < (n : Int) := by omega
  have j3 : (0 : Int) ≤ (b : Int) := by omega
  have j4 : (b : Int) < (n : Int) := by omega
  clear hx1
  by_cases h : 0 < pb
  · have hd : decide (0 < pb) = true := by simpa using h
    go_quiet (fail)
    go_wp2
    go_ret
    exact ⟨by simp [hd], below_drewN HB1.out _⟩
  · have hd : decide (0 < pb) = false := by simpa using h
    go_quiet (fail)
    go_wp2
    go_ret
    exact ⟨by simp [hd], below_drewN HB1.out _⟩
end Go.Proofs.Ytnoknodijombpaa
