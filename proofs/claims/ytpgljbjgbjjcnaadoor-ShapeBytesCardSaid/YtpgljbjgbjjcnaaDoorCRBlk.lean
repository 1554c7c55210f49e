/- The contract of the reader's block. Condition: the table of parts reads as listed. -/
import Derived.Test.YtpgljbjgbjjcnaaDoorCFill
import Derived.Deep.RegionHeld3
set_option linter.unusedSimpArgs false
set_option linter.unusedVariables false
namespace Go.Proofs.YtpgljbjgbjjcnaaDoor
open Go.RowKit

set_option maxHeartbeats 1000000 in
set_option maxRecDepth 100000 in
theorem rblk_any (g B : Nat) (s : St) (w : World) (hB0 : 0 < g) (hT : TabP w) (h : RS w g B s) :
    Calls Tryd.prog 114 #[.pointer (some ⟨g, 0, none⟩)] w fun e w' => ∃ v, e = .returned (.agg #[v]) ∧ InssV w' (Made w w') v (blkT s).1 ∧ ReadTo w g B (blkT s).2 w' := by
  have hgw := h.lt
  have h0 := h
  obtain ⟨A, c, l0, l1, l2, l3, l4, hb, hs, hc, hm, hL, hby, hB⟩ := h
  have H := hide (fun o => count_any l3 0 40 g B s (w.alloc o) (h0.alloc o) (hL.2.2.2.1.keep (fun b' o' hb' => World.cell?_alloc_lt _ _ _ (by show b' < _; omega)) (fun _ h => h)))
  have hcR := cntT_R (lo := 0) (hi := 40) hby (by omega)
  obtain ⟨m, hm'⟩ : ∃ m : Nat, (cntT 0 40 s).1 = (m : Int) := ⟨(cntT 0 40 s).1.toNat, by omega⟩
  have hv := hide (show blkT s = manyT insT m (cntT 0 40 s).2 by unfold blkT; rw [hm']; rfl)
  rw [hv.out]
  rw [hm'] at H hcR
  have hmk := mk_run 54 47 Tryd.underlying54 info_Ins (by omega) m (by omega)
  have hZs := size_madeCells (Value.cells (.agg (insBox (bare 0) (.slice none 0 0)))) (m * 7)
  generalize madeCells (Value.cells (.agg (insBox (bare 0) (.slice none 0 0)))) (m * 7) = Z at *
  have HZ := hide hZs
  have x5 := (hb.cell 5 (v := l3) rfl).1
  obtain ⟨-, -, -, a3, -, -, -, -, c3, -, -, -, -, rfl, -⟩ := hL.open'
  generalize (cntT 0 40 s).2 = t at *
  have HT := hide hT
  clear hb hs hL hby h0 hZs hv hm' hT
  go_enter Tryd.func114, Tryd.ntmps114
  go_wp2_with (go_at_call 83; refine (H.out _).mono ?_; rintro e w1 ⟨rfl, hr⟩; have hbr1 := hr.read.box (Box.new w _ _) (by omega); have HBR1 := hide hbr1; have HR1 := hide hr; have hz1 := hr.read.size; simp at hz1; clear hr hbr1)
  obtain ⟨h1, hh1⟩ : ∃ h1, w1.heap.size = h1 := ⟨_, rfl⟩
  go_loopw [17] (fun i wr => ∃ k : Nat, k ≤ m ∧ i = .int .i64 k ∧ ReadTo w g B (manyT insT k t).2 wr ∧ Box wr w.heap.size #[.slice none 0 0] 56 ∧ Box wr (w1.heap.size + 1) #[.slice (some ⟨w1.heap.size, 0, none⟩) m m] 56 ∧
    FillE wr w1.heap.size 47 7 m (InsE wr (fun b => w1.heap.size < b ∧ b < wr.heap.size)) (manyT insT k t).1) (fun i _ => m - (intOf i).toNat)
  case atStart =>
    refine ⟨0, Nat.zero_le _, rfl, ⟨(HR1.out.rs.alloc _).alloc _, ((((Read.refl g w).alloc _).trans HR1.out.read).alloc _).alloc _⟩, (HBR1.out.alloc _).alloc _, ?_, ?_⟩
    · have := Box.new (w1.alloc (.cells Z 47)) #[.slice (some ⟨w1.heap.size, 0, none⟩) m m] 56
      rw [World.size_alloc] at this
      exact this
    · exact (FillE.new (E := InsE (w1.alloc (.cells Z 47)) (fun b => w1.heap.size < b ∧ b < w1.heap.size)) w1 Z _ HZ.out).keep (Below.heap_alloc _ _ _ (by simp)) (fun cur o x hx => hx.keep (fun _ _ => rfl) (fun b o hb => by omega) (fun b hb => by omega))
  case round =>
    rw [hh1] at hrel ⊢
    obtain ⟨k, hk, rfl, hrr, hbr, hbx, hf⟩ := hrel
    have hfl := hf.lt
    have hbl := hbx.lt
    have hrl := hrr.rs.lt
    by_cases hlt : k < m
    · have hst := hide (manyT_st insT k t)
      have hls := hide (manyT_ls insT k t)
      have hlen := manyT_len insT k t
      have hN := fun q => rins_any g B (manyT insT k t).2 (wr.drewN q) hB0 (HT.out.below ((hrr.read.drewN q).below (by omega)) hB0) hrr.rs
      have HF := hide (fun w3 (h3 : Read g wr w3) => hf.keep (w' := w3) (E' := InsE w3 (fun b => h1 < b ∧ b < w3.heap.size)) (h3.block _ hfl (by omega)) (fun cur o x hx => hx.keep (fun _ _ => rfl) (h3.same (fun b hb => by omega)) (fun b hb => by have := h3.size; omega)))
      have HRR := hide hrr
      have HBX := hide hbx
      have HBR := hide hbr
      have q0 := (hbx.cell 0 (v := .slice (some ⟨h1, 0, none⟩) m m) rfl).1
      have q1 : (0 : Int) ≤ (k : Int) := by omega
      have q2 : (k : Int) < (m : Int) := by omega
      have q3 : h1 ≠ h1 + 1 := by omega
      have q4 : h1 + 1 ≠ h1 := by omega
      generalize manyT insT k t = q at *
      generalize insT q.2 = u at *
      have HN := hide hN
      clear hN hf hrr hbx hbr
      go_wp2
      go_region_held3 (fun w' => w'.cell? ⟨h1 + 1, 0, none⟩ = some (.slice (some ⟨h1, 0, none⟩) m m)) (first | go_keep | (exact hb3) )
        (first
          | (go_at_call 126; refine (HN.out 1).mono ?_; rintro e w3 ⟨va, rfl, hi3, hr3⟩; obtain ⟨A3, c3', rfl⟩ := hi3.open'; have hr3' : ReadTo wr g B u.2 w3 := ⟨hr3.rs, ((Read.refl g wr).drewN 1).trans hr3.read⟩; have hb3 := ((hr3'.read.box HBX.out (by omega)).cell 0 (v := .slice (some ⟨h1, 0, none⟩) m m) rfl).1; have hf3 := HF.out _ hr3'.read; obtain ⟨v0, e0, f0⟩ := hf3.cell (i := 0) hlt (by omega); obtain ⟨v1, e1, f1⟩ := hf3.cell (i := 1) hlt (by omega); obtain ⟨v2, e2, f2⟩ := hf3.cell (i := 2) hlt (by omega); obtain ⟨v3, e3, f3⟩ := hf3.cell (i := 3) hlt (by omega); obtain ⟨v4, e4, f4⟩ := hf3.cell (i := 4) hlt (by omega); obtain ⟨v5, e5, f5⟩ := hf3.cell (i := 5) hlt (by omega); obtain ⟨v6, e6, f6⟩ := hf3.cell (i := 6) hlt (by omega); rw [Nat.add_zero] at e0 f0; have HF3 := hide hf3; have HR3 := hide hr3'; have HI3 := hide hi3; have hl3 := hf3.lt; clear hf3 hr3 hr3' hi3))
      have hw3 := HR3.out.read.size
      go_wp2
      go_roundw
      case rel =>
        refine ⟨k + 1, by omega, by go_num, ?_, ?_, ?_, ?_⟩
        · rw [hst.out]; exact (HRR.out.trans HR3.out).apart7 (by omega) (by omega)
        · exact (HR3.out.read.box HBR.out (by omega)).apart7 (by omega)
        · exact (HR3.out.read.box HBX.out (by omega)).apart7 (by omega)
        · rw [hls.out]
          exact (FillE.ins HF3.out hlen hlt (HI3.out.keep (fun _ _ _ => rfl) (fun b hb => ⟨by have : wr.heap.size ≤ b := hb.1; omega, hb.2⟩)) (fun b hb => by omega)).keep rfl (fun cur o x hx => hx.keep (fun _ _ => rfl) (fun _ _ _ => rfl) (fun b hb => by rw [size_st7]; exact hb))
      case measure => simp [intOf]; omega
    · have hkm : k = m := by omega
      subst hkm
      have hx0 := (hbx.cell 0 (v := .slice (some ⟨h1, 0, none⟩) k k) rfl).1
      obtain ⟨y0, z0⟩ := hbr.cell 0 (v := .slice none 0 0) rfl
      have hend : InssV wr (fun b => h1 ≤ b ∧ b < wr.heap.size) (.slice (some ⟨h1, 0, none⟩) k k) (manyT insT k t).1 := hf.vec (manyT_len insT k t) (by omega) ⟨Nat.le_refl _, hfl⟩ (fun cur o x hb hx => (hx.keep (S' := fun b => h1 ≤ b ∧ b < wr.heap.size) (fun _ _ => rfl) (fun _ _ _ => rfl) (fun b hb => by omega)).insC hb)
      have HEND := hide hend
      have HRR := hide hrr
      have HBR := hide hbr
      clear hf hrr hbx hbr hend
      go_wp2
      have hB := (HBR.out.set 0 (.slice (some ⟨h1, 0, none⟩) k k))
      have c0 := (hB.cell 0 (v := .slice (some ⟨h1, 0, none⟩) k k) (by simp)).1
      refine bodyPost_ret (v := .agg #[.slice (some ⟨h1, 0, none⟩) k k]) (by simp [results, Tryd.results114, go_sem, c0]) rfl ⟨_, rfl, ?_, HRR.out.set (by omega) (Nat.le_refl _)⟩
      exact HEND.out.keep (same_set' (fun b hb => by omega)) (fun b hb => by unfold Made; rw [World.size_setCell]; omega)
end Go.Proofs.YtpgljbjgbjjcnaaDoor
