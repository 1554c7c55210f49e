/- The contract of the reader's function. Condition: the table of parts reads as listed. -/
import Derived.Test.YtpgljbjgbjjcnaaDoorCRBlk
import Derived.Deep.CutRange
set_option linter.unusedSimpArgs false
set_option linter.unusedVariables false
namespace Go.Proofs.YtpgljbjgbjjcnaaDoor
open Go.RowKit

theorem varT_R {s : St} (h : Byt s) : i64R (varT s).1.1 ∧ i64R (varT s).1.2 := by
  have h1 := onlyT_R (may := kindB) (er := 5) h
  have hb : Byt (onlyT kindB 5 s).2 := by
    unfold onlyT
    split
    · split
      · exact numT_byt h
      · exact numT_byt h
    · exact numT_byt h
  have h2 := numT_R hb
  unfold varT
  split
  · exact ⟨by unfold i64R; simp, by unfold i64R; simp only; omega⟩
  · exact ⟨by unfold i64R; simp only; omega, by unfold i64R; simp⟩
def BlkE (w : World) (S : Nat → Prop) (cur : Array Value) (o : Nat) (x : List InsV) : Prop := ∃ v, cur[o]? = some v ∧ InssV w S v x
theorem BlkE.keep {w w' : World} {S S' : Nat → Prop} {cur cur' : Array Value} {o : Nat} {x : List InsV} (h : BlkE w S cur o x) (hc : ∀ i, i < 1 → cur'[o + i]? = cur[o + i]?) (hk : Same' S w w') (hS : ∀ b, S b → S' b) : BlkE w' S' cur' o x := by
  obtain ⟨v, h0, hi⟩ := h
  exact ⟨v, (hc 0 (by omega)).trans h0, InssV.keep hi hk hS⟩
theorem FillE.blk {w : World} {h : Nat} {T : TypeId} {n k : Nat} {l : List (List InsV)} {x : List InsV} {v : Value} {S : Nat → Prop} (f : FillE w h T 1 n (BlkE w S) l) (hl : l.length = k) (hk : k < n) (hi : InssV w S v x) (hS : ∀ b, S b → b ≠ h) :
    FillE (w.setCell ⟨h, k, none⟩ v) h T 1 n (BlkE (w.setCell ⟨h, k, none⟩ v) S) (l ++ [x]) :=
  f.put hl (fun cur hb hs => ⟨cur.setIfInBounds k v, hb.set k v, by simp, fun i hi => by rw [Array.getElem?_setIfInBounds_ne (by omega)], v, by rw [Nat.mul_one, Array.getElem?_setIfInBounds_self, if_pos (by omega)], InssV.keep hi (same_set' hS) (fun _ h => h)⟩)
    (fun cur cur' o y hc hy => hy.keep hc (same_set' hS) (fun _ h => h))
abbrev fun0 : Array Value := #[.slice none 0 0, .slice none 0 0, .int .i64 0, .int .i64 0, .slice none 0 0]
abbrev funBox (hk hb n m : Nat) (p r : Int) (v : Value) : Array Value := #[.slice (some ⟨hk, 0, none⟩) n n, .slice (some ⟨hb, 0, none⟩) m m, .int .i64 p, .int .i64 r, v]

/-- Behind the two slices and the function are laid. -/
def RFun1 (w : World) (g B n h1 : Nat) (t : St) (f : Value) (wx : World) : Prop :=
  ∃ hk hb hf, f = .pointer (some ⟨hf, 0, none⟩) ∧ (hk ≠ hb ∧ hk ≠ hf ∧ hb ≠ hf) ∧ (h1 ≤ hk ∧ h1 ≤ hb ∧ h1 ≤ hf) ∧ ReadTo w g B t wx ∧ Box wx w.heap.size fun0 44 ∧ FillI wx hk 3 n [] ∧ FillI wx hb 3 n [] ∧ Box wx hf (funBox hk hb n n 0 0 (.slice none 0 0)) 44

theorem al3 (w : World) (o1 o2 o3 : Obj) : (((w.alloc o1).alloc o2).alloc o3).drew.heap[w.heap.size]? = some o1 ∧ (((w.alloc o1).alloc o2).alloc o3).drew.heap[w.heap.size + 1]? = some o2 ∧ (((w.alloc o1).alloc o2).alloc o3).drew.heap[w.heap.size + 1 + 1]? = some o3 := by
  have h1 := heap_alloc_new w o1
  have h2 := heap_alloc_new (w.alloc o1) o2
  have h3 := heap_alloc_new ((w.alloc o1).alloc o2) o3
  simp only [World.size_alloc] at h2 h3
  refine ⟨?_, ?_, h3⟩
  · exact (Below.heap_alloc _ _ _ (by simp only [World.size_alloc]; omega)).trans ((Below.heap_alloc _ _ _ (by simp only [World.size_alloc]; omega)).trans h1)
  · exact (Below.heap_alloc _ _ _ (by simp only [World.size_alloc]; omega)).trans h2
theorem rfun1_mk {w w0 w1 : World} {g B n hk hb hf : Nat} {t : St} {Z : Array Value} {o1 o2 o3 : Obj} (hr : ReadTo w0 g B t w1) (h0 : Read g w w0) (hres : Box w1 w.heap.size fun0 44) (hZ : Z.size = n)
    (hd : hk ≠ hb ∧ hk ≠ hf ∧ hb ≠ hf) (hge : w1.heap.size ≤ hk ∧ w1.heap.size ≤ hb ∧ w1.heap.size ≤ hf)
    (h1 : (((w1.alloc o1).alloc o2).alloc o3).drew.heap[hk]? = some (.cells Z 3)) (h2 : (((w1.alloc o1).alloc o2).alloc o3).drew.heap[hb]? = some (.cells Z 3)) (h3 : (((w1.alloc o1).alloc o2).alloc o3).drew.heap[hf]? = some (.cells (funBox hk hb n n 0 0 (.slice none 0 0)) 44)) :
    RFun1 w g B n w1.heap.size t (.pointer (some ⟨hf, 0, none⟩)) (((w1.alloc o1).alloc o2).alloc o3).drew :=
  ⟨hk, hb, hf, rfl, hd, hge, ⟨((hr.rs.alloc o1).alloc o2).alloc o3, ((((h0.trans hr.read).alloc o1).alloc o2).alloc o3).drewN 1⟩, ((hres.alloc o1).alloc o2).alloc o3,
    ⟨Z, h1, hZ, fun j x hj => by simp at hj⟩, ⟨Z, h2, hZ, fun j x hj => by simp at hj⟩, h3⟩

set_option maxHeartbeats 2000000 in
set_option maxRecDepth 100000 in
theorem rfun_any (g B : Nat) (s : St) (w : World) (hB0 : 0 < g) (hT : TabP w) (h : RS w g B s) :
    Calls Tryd.prog 84 #[.pointer (some ⟨g, 0, none⟩)] w fun e w' => ∃ vk vb vs, e = .returned (.agg #[vk, vb, .int .i64 (funT s).1.params, .int .i64 (funT s).1.result, vs]) ∧ FunI w' (Made w w') vk vb vs (funT s).1 ∧ ReadTo w g B (funT s).2 w' := by
  have hgw := h.lt
  have h0 := h
  obtain ⟨A, c, l0, l1, l2, l3, l4, hb, hs, hc, hm, hL, hby, hB⟩ := h
  have H := hide (fun o => count_any l1 0 48 g B s (w.alloc o) (h0.alloc o) (hL.2.1.keep (fun b' o' hb' => World.cell?_alloc_lt _ _ _ (by show b' < _; omega)) (fun _ h => h)))
  have hcR := cntT_R (lo := 0) (hi := 48) hby (by omega)
  obtain ⟨n, hn'⟩ : ∃ n : Nat, (cntT 0 48 s).1 = (n : Int) := ⟨(cntT 0 48 s).1.toNat, by omega⟩
  have hv := hide (show varsT s = manyT varT n (cntT 0 48 s).2 by unfold varsT; rw [hn']; rfl)
  rw [hn'] at H hcR
  have hmk := mk_run 41 3 Tryd.underlying41 info_i64 (by omega) n (by omega)
  have hZs : (madeCells (Value.cells (.int .i64 0)) (n * 1)).size = n := by rw [size_madeCells]; omega
  generalize madeCells (Value.cells (.int .i64 0)) (n * 1) = Z at *
  have HZ := hide hZs
  have x5 := (hb.cell 3 (v := l1) rfl).1
  obtain ⟨-, a1, -, -, -, -, c1, -, -, -, -, rfl, -, -, -⟩ := hL.open'
  have HFT := hide (show funT s = (⟨(varsT s).1.map (·.1), (varsT s).1.map (·.2), (numT (varsT s).2).1, (numT (numT (varsT s).2).2).1, (blksT (numT (numT (varsT s).2).2).2).1⟩, (blksT (numT (numT (varsT s).2).2).2).2) from rfl)
  rw [hv.out] at HFT
  obtain ⟨F, hF⟩ : ∃ F, funT s = F := ⟨_, rfl⟩
  rw [hF] at HFT ⊢
  generalize (cntT 0 48 s).2 = t at *
  have HT := hide hT
  clear hb hs hL hby h0 hZs hv hn' hT hF
  go_enter Tryd.func84, Tryd.ntmps84
  go_upto_region 2 with (go_at_call 83; refine (H.out _).mono ?_; rintro e w1 ⟨rfl, hr⟩; have hbr1 := hr.read.box (Box.new w _ _) (by omega); have HBR1 := hide hbr1; have HR1 := hide hr; have hz1 := hr.read.size; simp at hz1; clear hr hbr1)
  go_cut [4] from 14 to 18 (fun f wx => RFun1 w g B n w1.heap.size t f wx)
  case first =>
    go_region
    all_goals
      go_wp2_with fail
      go_meet
    · exact rfun1_mk HR1.out ((Read.refl g w).alloc _) HBR1.out HZ.out (by omega) (by omega) (al3 _ _ _ _).1 (al3 _ _ _ _).2.1 (al3 _ _ _ _).2.2
    · exact rfun1_mk HR1.out ((Read.refl g w).alloc _) HBR1.out HZ.out (by omega) (by omega) (al3 _ _ _ _).1 (al3 _ _ _ _).2.2 (al3 _ _ _ _).2.1
    · exact rfun1_mk HR1.out ((Read.refl g w).alloc _) HBR1.out HZ.out (by omega) (by omega) (al3 _ _ _ _).2.1 (al3 _ _ _ _).1 (al3 _ _ _ _).2.2
    · exact rfun1_mk HR1.out ((Read.refl g w).alloc _) HBR1.out HZ.out (by omega) (by omega) (al3 _ _ _ _).2.2 (al3 _ _ _ _).1 (al3 _ _ _ _).2.1
    · exact rfun1_mk HR1.out ((Read.refl g w).alloc _) HBR1.out HZ.out (by omega) (by omega) (al3 _ _ _ _).2.1 (al3 _ _ _ _).2.2 (al3 _ _ _ _).1
    · exact rfun1_mk HR1.out ((Read.refl g w).alloc _) HBR1.out HZ.out (by omega) (by omega) (al3 _ _ _ _).2.2 (al3 _ _ _ _).2.1 (al3 _ _ _ _).1
  case rest =>
    obtain ⟨hk, hb, hf, rfl, hd, hge, hrr, hres, hfk, hfb, hbf⟩ := hcut
    clear H HBR1 x5 hmk HZ
    have hz1' : w.heap.size < w1.heap.size := by omega
    obtain ⟨h1, hh1⟩ : ∃ h1, w1.heap.size = h1 := ⟨_, rfl⟩
    rw [hh1] at hge hz1'
    clear hh1 hz1 HR1
    have HRR := hide hrr; have HRES := hide hres; have HFK := hide hfk; have HFB := hide hfb; have HBF := hide hbf
    clear hrr hres hfk hfb hbf
    go_wp2
    go_loopw [20] (fun i wr => ∃ k : Nat, k ≤ n ∧ i = .int .i64 k ∧ ReadTo w g B (manyT varT k t).2 wr ∧ Box wr w.heap.size fun0 44 ∧ Box wr hf (funBox hk hb n n 0 0 (.slice none 0 0)) 44 ∧ FillI wr hk 3 n ((manyT varT k t).1.map (·.1)) ∧ FillI wr hb 3 n ((manyT varT k t).1.map (·.2))) (fun i _ => n - (intOf i).toNat)
    case atStart => exact ⟨0, Nat.zero_le _, rfl, HRR.out, HRES.out, HBF.out, HFK.out, HFB.out⟩
    case round =>
      obtain ⟨k, hkn, rfl, hrr, hres, hbf, hfk, hfb⟩ := hrel
      have hlk := hfk.lt
      have hlb := hfb.lt
      have hlf := hbf.lt
      have hlr := hres.lt
      have hrl := hrr.rs.lt
      by_cases hlt : k < n
      · have hst := hide (manyT_st varT k t)
        have hls := hide (manyT_ls varT k t)
        have hlen := manyT_len varT k t
        have hN := fun q => variable_any g B (manyT varT k t).2 (wr.drewN q) hrr.rs
        have hvR := varT_R hrr.rs.byt
        have HFK2 := hide (fun w3 (h3 : Read g wr w3) => hfk.keep (h3.block _ hlk (by omega)))
        have HFB2 := hide (fun w3 (h3 : Read g wr w3) => hfb.keep (h3.block _ hlb (by omega)))
        have HRR2 := hide hrr
        have HRES2 := hide hres
        have HBF2 := hide hbf
        have q0 := (hbf.cell 0 (v := .slice (some ⟨hk, 0, none⟩) n n) rfl).1
        have q1 := (hbf.cell 1 (v := .slice (some ⟨hb, 0, none⟩) n n) rfl).1
        have q2 : (0 : Int) ≤ (k : Int) := by omega
        have q3 : (k : Int) < (n : Int) := by omega
        obtain ⟨d1, d2, d3⟩ := hd
        have d4 := d1.symm
        have d5 := d2.symm
        have d6 := d3.symm
        generalize manyT varT k t = q at *
        generalize varT q.2 = u at *
        have HN := hide hN
        clear hN hfk hfb hrr hres hbf
        go_wp2
        go_region_held3 (fun w' => w'.cell? ⟨hf, 0, none⟩ = some (.slice (some ⟨hk, 0, none⟩) n n) ∧ w'.cell? ⟨hf, 1, none⟩ = some (.slice (some ⟨hb, 0, none⟩) n n)) (first | go_keep | (exact hb3))
          (first
            | (go_at_call 112; refine (HN.out 1).mono ?_; rintro e w3 ⟨rfl, hr3⟩; have hr3' : ReadTo wr g B u.2 w3 := ⟨hr3.rs, ((Read.refl g wr).drewN 1).trans hr3.read⟩; have hbx3 := hr3'.read.box HBF2.out (by omega); have hb3 := And.intro (hbx3.cell 0 (v := .slice (some ⟨hk, 0, none⟩) n n) rfl).1 (hbx3.cell 1 (v := .slice (some ⟨hb, 0, none⟩) n n) rfl).1; have hk3 := HFK2.out _ hr3'.read; have hv3 := HFB2.out _ hr3'.read; obtain ⟨v0, e0, f0⟩ := hk3.cell hlt; obtain ⟨v1, e1, f1⟩ := hv3.cell hlt; have HK3 := hide hk3; have HV3 := hide hv3; have HR3 := hide hr3'; have hw3 := hr3'.read.size; clear hk3 hv3 hr3 hr3' hbx3))
        go_wp2
        go_roundw
        case rel =>
          refine ⟨k + 1, by omega, by go_num, ?_, ?_, ?_, ?_, ?_⟩
          · rw [hst.out]; exact ((HRR2.out.trans HR3.out).set (by omega) (by omega)).set (by omega) (by omega)
          · exact ((HR3.out.read.box HRES2.out (by omega)).other (by omega)).other (by omega)
          · exact ((HR3.out.read.box HBF2.out (by omega)).other (by omega)).other (by omega)
          · rw [hls.out, List.map_append]
            exact (HK3.out.set hlt (by rw [List.length_map]; exact hlen) hvR.1).keep (heap_setCell_other _ ⟨hb, k, none⟩ _ _ d1)
          · rw [hls.out, List.map_append]
            exact (HV3.out.keep (heap_setCell_other _ ⟨hk, k, none⟩ _ _ d4)).set hlt (by rw [List.length_map]; exact hlen) hvR.2
        case measure => simp [intOf]; omega
      · have hkn' : k = n := by omega
        subst hkn'
        obtain ⟨wo, rfl⟩ : ∃ wo, wo = wr := ⟨_, rfl⟩
        have hK := hfk.ints (by rw [List.length_map]; exact manyT_len varT k t) (by omega) (S := fun b => b = hk) rfl
        have hV := hfb.ints (by rw [List.length_map]; exact manyT_len varT k t) (by omega) (S := fun b => b = hb) rfl
        have hN1 := number_any' g B (manyT varT k t).2 wo hrr.rs
        generalize manyT varT k t = q at *
        obtain ⟨vs, s1⟩ := q
        simp only at *
        have hby1 := hrr.rs.byt
        have hp1 := numT_i64 hby1
        have hp2 := numT_i64 (numT_byt hby1)
        have HN1 := hide hN1
        have HN2 := hide (fun w2 (h2 : RS w2 g B (numT s1).2) => number_any' g B (numT s1).2 w2 h2)
        have hby2 := numT_byt (numT_byt hby1)
        have HC4 := hide (fun w3 (h3 : RS w3 g B (numT (numT s1).2).2) (lv : Value) (hl : LimC w3 (· < B) lv 0 40) => count_any lv 0 40 g B (numT (numT s1).2).2 w3 h3 hl)
        have hcR2 := cntT_R (lo := 0) (hi := 40) hby2 (by omega)
        obtain ⟨m, hm'⟩ : ∃ m : Nat, (cntT 0 40 (numT (numT s1).2).2).1 = (m : Int) := ⟨(cntT 0 40 (numT (numT s1).2).2).1.toNat, by omega⟩
        rw [hm'] at HC4 hcR2
        have HBL := hide (show blksT (numT (numT s1).2).2 = manyT blkT m (cntT 0 40 (numT (numT s1).2).2).2 by unfold blksT; rw [hm']; rfl)
        rw [HBL.out] at HFT
        have hmk2 := mk_run 42 56 Tryd.underlying42 info_Block (by omega) m (by omega)
        have hZs2 := size_madeCells (Value.cells (.agg #[.slice none 0 0])) (m * 1)
        generalize madeCells (Value.cells (.agg #[.slice none 0 0])) (m * 1) = Z2 at *
        have HZ2 := hide hZs2
        generalize (cntT 0 40 (numT (numT s1).2).2).2 = s4 at *
        generalize numT (numT s1).2 = u2 at *
        generalize numT s1 = u1 at *
        have HKI := hide hK; have HVI := hide hV; have HRR2 := hide hrr; have HRES2 := hide hres; have HBF2 := hide hbf
        obtain ⟨d1, d2, d3⟩ := hd
        clear hN1 hfk hfb hrr hres hbf hK hV hby1 hby2 hm' hZs2
        go_upto_region 9 with (go_at_call 113; refine HN1.out.mono ?_; rintro e w2 ⟨rfl, hr2⟩; have hb2 := hr2.read.box HBF2.out (by omega); obtain ⟨e2, f2⟩ := hb2.cell 2 (v := .int .i64 0) rfl; have hl2 := hb2.lt; have HB2 := hide hb2; have HR2 := hide hr2; clear hb2 hr2)
        have hrsa := HR2.out.rs.set (b := hf) (j := 2) (v := .int .i64 u1.1) (by omega)
        have H9 := hide (HN2.out _ hrsa)
        have HBa := hide (HB2.out.set 2 (.int .i64 u1.1))
        have hza : w2.heap.size = (w2.setCell ⟨hf, 2, none⟩ (.int .i64 u1.1)).heap.size := (World.size_setCell ..).symm
        have HRa := hide (show ReadTo w g B u1.2 (w2.setCell ⟨hf, 2, none⟩ (.int .i64 u1.1)) from (HRR2.out.trans HR2.out).set (by omega) (by omega))
        have HKa := hide (HKI.out.keep (S' := fun b => b = hk) (Same'.trans (HR2.out.read.same (fun b hb => by omega)) (same_set' (g := hf) (j := 2) (v := .int .i64 u1.1) (fun b hb => by omega))) (fun _ h => h))
        have HVa := hide (HVI.out.keep (S' := fun b => b = hb) (Same'.trans (HR2.out.read.same (fun b hb => by omega)) (same_set' (g := hf) (j := 2) (v := .int .i64 u1.1) (fun b hb => by omega))) (fun _ h => h))
        have HRESa := hide ((HR2.out.read.box HRES2.out (by omega)).other (g := hf) (j := 2) (v := .int .i64 u1.1) (by omega))
        have hsz2 := HR2.out.read.size
        clear hrsa HB2 HR2 e2 f2 HKI HVI HRES2 HRR2 HBF2 HN1
        obtain ⟨wa, hwa⟩ : ∃ wa, w2.setCell ⟨hf, 2, none⟩ (.int .i64 u1.1) = wa := ⟨_, rfl⟩
        rw [hwa] at H9 HBa HRa HKa HVa HRESa hza ⊢
        clear hwa
        go_upto_region 10 with (go_at_call 113; refine H9.out.mono ?_; rintro e w3 ⟨rfl, hr3⟩; have hb3 := hr3.read.box HBa.out (by omega); obtain ⟨e3, f3⟩ := hb3.cell 3 (v := .int .i64 0) (by simp); have hl3 := hb3.lt; have HB3 := hide hb3; have HR3 := hide hr3; clear hb3 hr3)
        have hza3 := HR3.out.read.size
        have HBb := hide (HB3.out.set 3 (.int .i64 u2.1))
        have HRb := hide (show ReadTo w g B u2.2 (w3.setCell ⟨hf, 3, none⟩ (.int .i64 u2.1)) from (HRa.out.trans HR3.out).set (by omega) (by omega))
        have HKb := hide (HKa.out.keep (S' := fun b => b = hk) (Same'.trans (HR3.out.read.same (fun b hb => by omega)) (same_set' (g := hf) (j := 3) (v := .int .i64 u2.1) (fun b hb => by omega))) (fun _ h => h))
        have HVb := hide (HVa.out.keep (S' := fun b => b = hb) (Same'.trans (HR3.out.read.same (fun b hb => by omega)) (same_set' (g := hf) (j := 3) (v := .int .i64 u2.1) (fun b hb => by omega))) (fun _ h => h))
        have HRESb := hide ((HR3.out.read.box HRESa.out (by omega)).other (g := hf) (j := 3) (v := .int .i64 u2.1) (by omega))
        have hzb : w3.heap.size = (w3.setCell ⟨hf, 3, none⟩ (.int .i64 u2.1)).heap.size := (World.size_setCell ..).symm
        clear HB3 HR3 e3 f3 HKa HVa HRESa HRa HBa H9 HN2
        obtain ⟨wb, hwb⟩ : ∃ wb, w3.setCell ⟨hf, 3, none⟩ (.int .i64 u2.1) = wb := ⟨_, rfl⟩
        rw [hwb] at HBb HRb HKb HVb HRESb hzb ⊢
        clear hwb
        obtain ⟨A5, c5, k0, k1, k2, k3, k4, hb5, -, -, -, hL5, -, -⟩ := HRb.out.rs
        have H10 := hide (HC4.out _ HRb.out.rs k2 hL5.2.2.1)
        have y4 := (hb5.cell 4 (v := k2) rfl).1
        have ylt := hb5.lt
        obtain ⟨-, -, a2, -, -, -, -, c2, -, -, -, -, rfl, -, -⟩ := hL5.open'
        clear hb5 hL5 HC4
        go_upto_region 11 with (go_at_call 83; refine H10.out.mono ?_; rintro e w4 ⟨rfl, hr4⟩; have hb4 := hr4.read.box HBb.out (by omega); obtain ⟨e4, f4⟩ := hb4.cell 4 (v := .slice none 0 0) (by simp); have hl4 := hb4.lt; have HB4 := hide hb4; have HR4 := hide hr4; clear hb4 hr4)
        have hzc := HR4.out.read.size
        have hne4 : hf ≠ w4.heap.size := by omega
        obtain ⟨h4, hh4⟩ : ∃ h4, w4.heap.size = h4 := ⟨_, rfl⟩
        rw [hh4] at hne4 hzc hl4 ⊢
        have hBx := HB4.out.set 4 (.slice (some ⟨h4, 0, none⟩) m m)
        have hRx : ReadTo w g B s4 (w4.setCell ⟨hf, 4, none⟩ (.slice (some ⟨h4, 0, none⟩) m m)) := ReadTo.set (HRb.out.trans HR4.out) (by omega) (by omega)
        have hsd : Same' (fun b => b = hk ∨ b = hb) wb (w4.setCell ⟨hf, 4, none⟩ (.slice (some ⟨h4, 0, none⟩) m m)) := Same'.trans (HR4.out.read.same (fun b hb => by omega)) (same_set' (fun b hb => by omega))
        have hRESx := (HR4.out.read.box HRESb.out (by omega)).other (g := hf) (j := 4) (v := .slice (some ⟨h4, 0, none⟩) m m) (by omega)
        have hzx : (w4.setCell ⟨hf, 4, none⟩ (.slice (some ⟨h4, 0, none⟩) m m)).heap.size = h4 := by rw [World.size_setCell]; exact hh4
        obtain ⟨wx, hwx⟩ : ∃ wx, w4.setCell ⟨hf, 4, none⟩ (.slice (some ⟨h4, 0, none⟩) m m) = wx := ⟨_, rfl⟩
        rw [hwx] at hBx hRx hsd hRESx hzx ⊢
        have HBd := hide (hBx.alloc (.cells Z2 56))
        have HRd := hide (show ReadTo w g B s4 (wx.alloc (.cells Z2 56)) from ⟨hRx.rs.alloc _, hRx.read.alloc _⟩)
        have hsd2 : Same' (fun b => b = hk ∨ b = hb) wb (wx.alloc (.cells Z2 56)) := Same'.trans hsd (fun b o hb => World.cell?_alloc_lt _ _ _ (by show b < _; omega))
        have HKd := hide (HKb.out.keep (S' := fun b => b = hk) (fun b o hb => hsd2 b o (Or.inl hb)) (fun _ h => h))
        have HVd := hide (HVb.out.keep (S' := fun b => b = hb) (fun b o hb => hsd2 b o (Or.inr hb)) (fun _ h => h))
        have HRESd := hide (hRESx.alloc (.cells Z2 56))
        have hfn := FillE.new (s := 1) (n := m) (E := BlkE (wx.alloc (.cells Z2 56)) (fun b => h4 < b ∧ b < (wx.alloc (.cells Z2 56)).heap.size)) wx Z2 56 HZ2.out
        rw [hzx] at hfn
        have HFd := hide hfn
        have hzd : (wx.alloc (.cells Z2 56)).heap.size = h4 + 1 := by rw [World.size_alloc, hzx]
        clear HB4 HR4 e4 f4 HKb HVb HRESb HRb HBb H10 hsd hsd2 hfn y4 hmk2 HZ2 hBx hRx hRESx hwx
        obtain ⟨wd, hwd⟩ : ∃ wd, wx.alloc (.cells Z2 56) = wd := ⟨_, rfl⟩
        rw [hwd] at HBd HRd HKd HVd HRESd HFd hzd ⊢
        clear hwd
        have hFB : Box wd hf (funBox hk hb k k u1.1 u2.1 (.slice (some ⟨h4, 0, none⟩) m m)) 44 := by simpa using HBd.out
        have x4 := (hFB.cell 4 (v := .slice (some ⟨h4, 0, none⟩) m m) rfl).1
        have xl := hFB.lt
        have HFB2 := hide hFB
        clear hFB HBd
        go_wp2
        go_loopw [55] (fun i wr => ∃ j : Nat, j ≤ m ∧ i = .int .i64 j ∧ ReadTo w g B (manyT blkT j s4).2 wr ∧ Box wr w.heap.size fun0 44 ∧ Box wr hf (funBox hk hb k k u1.1 u2.1 (.slice (some ⟨h4, 0, none⟩) m m)) 44 ∧ IntsV wr (fun b => b = hk) (.slice (some ⟨hk, 0, none⟩) k k) (vs.map (·.1)) ∧ IntsV wr (fun b => b = hb) (.slice (some ⟨hb, 0, none⟩) k k) (vs.map (·.2)) ∧
          FillE wr h4 56 1 m (BlkE wr (fun b => h4 < b ∧ b < wr.heap.size)) (manyT blkT j s4).1) (fun i _ => m - (intOf i).toNat)
        case atStart => exact ⟨0, Nat.zero_le _, rfl, HRd.out, HRESd.out, HFB2.out, HKd.out, HVd.out, HFd.out⟩
        case round =>
          obtain ⟨j, hj, rfl, hrr, hres, hbf, hK, hV, hf4⟩ := hrel
          have hfl := hf4.lt
          have hlf := hbf.lt
          have hlr := hres.lt
          have hrl := hrr.rs.lt
          have hrsz := hrr.read.size
          by_cases hltj : j < m
          · have hst := hide (manyT_st blkT j s4)
            have hls := hide (manyT_ls blkT j s4)
            have hlen := manyT_len blkT j s4
            have hN := fun q => rblk_any g B (manyT blkT j s4).2 (wr.drewN q) hB0 (HT.out.below ((hrr.read.drewN q).below (by omega)) hB0) hrr.rs
            have HF := hide (fun w3 (h3 : Read g wr w3) => hf4.keep (w' := w3) (E' := BlkE w3 (fun b => h4 < b ∧ b < w3.heap.size)) (h3.block _ hfl (by omega)) (fun cur o x hx => hx.keep (fun _ _ => rfl) (h3.same (fun b hb => by omega)) (fun b hb => by have := h3.size; omega)))
            have HRR := hide hrr
            have HBX := hide hbf
            have HBR := hide hres
            have HK4 := hide hK
            have HV4 := hide hV
            have q0 := (hbf.cell 4 (v := .slice (some ⟨h4, 0, none⟩) m m) rfl).1
            have q1 : (0 : Int) ≤ (j : Int) := by omega
            have q2 : (j : Int) < (m : Int) := by omega
            have q4 := hne4.symm
            have hkb : hk < h4 ∧ hb < h4 := ⟨by omega, by omega⟩
            generalize manyT blkT j s4 = q at *
            generalize blkT q.2 = u at *
            have HN := hide hN
            clear hN hf4 hrr hbf hres hK hV
            go_wp2
            go_region_held3 (fun w' => w'.cell? ⟨hf, 4, none⟩ = some (.slice (some ⟨h4, 0, none⟩) m m)) (first | go_keep | (exact hb3))
              (first
                | (go_at_call 114; refine (HN.out 1).mono ?_; rintro e w9 ⟨v9, rfl, hi3, hr3⟩; obtain ⟨A3, c3', rfl, -, -⟩ := hi3.open'; have hr3' : ReadTo wr g B u.2 w9 := ⟨hr3.rs, ((Read.refl g wr).drewN 1).trans hr3.read⟩; have hb3 := ((hr3'.read.box HBX.out (by omega)).cell 4 (v := .slice (some ⟨h4, 0, none⟩) m m) rfl).1; have hf3 := HF.out _ hr3'.read; obtain ⟨v0, e0, f0⟩ := hf3.cell (i := 0) hltj (by omega); rw [Nat.add_zero, Nat.mul_one] at e0 f0; have HF3 := hide hf3; have HR3 := hide hr3'; have HI3 := hide hi3; have hl3 := hf3.lt; clear hf3 hr3 hr3' hi3))
            have hw3 := HR3.out.read.size
            go_wp2
            go_roundw
            case rel =>
              refine ⟨j + 1, by omega, by go_num, ?_, ?_, ?_, ?_, ?_, ?_⟩
              · rw [hst.out]; exact (HRR.out.trans HR3.out).set (by omega) (by omega)
              · exact (HR3.out.read.box HBR.out (by omega)).other (by omega)
              · exact (HR3.out.read.box HBX.out (by omega)).other (by omega)
              · exact HK4.out.keep (Same'.trans (HR3.out.read.same (fun b hb => by omega)) (same_set' (fun b hb => by omega))) (fun _ h => h)
              · exact HV4.out.keep (Same'.trans (HR3.out.read.same (fun b hb => by omega)) (same_set' (fun b hb => by omega))) (fun _ h => h)
              · rw [hls.out]
                exact (FillE.blk HF3.out hlen hltj (HI3.out.keep (fun _ _ _ => rfl) (fun b hb => ⟨by have : wr.heap.size ≤ b := hb.1; omega, hb.2⟩)) (fun b hb => by omega)).keep rfl (fun cur o x hx => hx.keep (fun _ _ => rfl) (fun _ _ _ => rfl) (fun b hb => by rw [World.size_setCell]; exact hb))
            case measure => simp [intOf]; omega
          · have hjm : j = m := by omega
            subst hjm
            have z0 := (hbf.cell 0 (v := .slice (some ⟨hk, 0, none⟩) k k) rfl).1
            have z1 := (hbf.cell 1 (v := .slice (some ⟨hb, 0, none⟩) k k) rfl).1
            have z2 := (hbf.cell 2 (v := .int .i64 u1.1) rfl).1
            have z3 := (hbf.cell 3 (v := .int .i64 u2.1) rfl).1
            have z4 := (hbf.cell 4 (v := .slice (some ⟨h4, 0, none⟩) j j) rfl).1
            obtain ⟨y0, t0⟩ := hres.cell 0 (v := .slice none 0 0) rfl
            obtain ⟨y1, t1⟩ := hres.cell 1 (v := .slice none 0 0) rfl
            obtain ⟨y2, t2⟩ := hres.cell 2 (v := .int .i64 0) rfl
            obtain ⟨y3, t3⟩ := hres.cell 3 (v := .int .i64 0) rfl
            obtain ⟨y4, t4⟩ := hres.cell 4 (v := .slice none 0 0) rfl
            have hend : BlksV wr (fun b => h4 ≤ b ∧ b < wr.heap.size) (.slice (some ⟨h4, 0, none⟩) j j) (manyT blkT j s4).1 := hf4.vec (manyT_len blkT j s4) (by omega) ⟨Nat.le_refl _, hfl⟩ (fun cur o x hb hx => by
              obtain ⟨v, g0, g1⟩ := hx
              exact ⟨v, (hb.cell _ g0).1, InssV.keep g1 (fun _ _ _ => rfl) (fun b hb => by omega)⟩)
            have hkb : hk < h4 ∧ hb < h4 := ⟨by omega, by omega⟩
            have HEND := hide hend
            have HRR := hide hrr
            have HBR := hide hres
            have HK4 := hide hK
            have HV4 := hide hV
            clear hf4 hrr hbf hres hend hK hV
            go_wp2
            have hB := ((((HBR.out.set 0 (.slice (some ⟨hk, 0, none⟩) k k)).set 1 (.slice (some ⟨hb, 0, none⟩) k k)).set 2 (.int .i64 u1.1)).set 3 (.int .i64 u2.1)).set 4 (.slice (some ⟨h4, 0, none⟩) j j)
            have c0 := (hB.cell 0 (v := .slice (some ⟨hk, 0, none⟩) k k) (by simp)).1
            have c1 := (hB.cell 1 (v := .slice (some ⟨hb, 0, none⟩) k k) (by simp)).1
            have c2 := (hB.cell 2 (v := .int .i64 u1.1) (by simp)).1
            have c3 := (hB.cell 3 (v := .int .i64 u2.1) (by simp)).1
            have c4 := (hB.cell 4 (v := .slice (some ⟨h4, 0, none⟩) j j) (by simp)).1
            have hFe := HFT.out
            refine bodyPost_ret (v := .agg #[.slice (some ⟨hk, 0, none⟩) k k, .slice (some ⟨hb, 0, none⟩) k k, .int .i64 u1.1, .int .i64 u2.1, .slice (some ⟨h4, 0, none⟩) j j]) (by simp [results, Tryd.results84, go_sem, c0, c1, c2, c3, c4]) rfl ⟨_, _, _, by rw [hFe], ?_, ?_⟩
            · rw [hFe]
              exact ⟨HK4.out.keep (same_st5 (fun b hb => by omega)) (fun b hb => by unfold Made; rw [size_st5]; omega), HV4.out.keep (same_st5 (fun b hb => by omega)) (fun b hb => by unfold Made; rw [size_st5]; omega), BlksV.keep HEND.out (same_st5 (fun b hb => by omega)) (fun b hb => by unfold Made; rw [size_st5]; omega), hp1, hp2⟩
            · rw [hFe]
              exact HRR.out.apart5 (by omega) (Nat.le_refl _)
end Go.Proofs.YtpgljbjgbjjcnaaDoor
