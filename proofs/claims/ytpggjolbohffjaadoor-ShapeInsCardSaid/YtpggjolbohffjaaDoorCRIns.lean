/- The contract of the reader's ins. Condition: the table of parts reads as listed. -/
import Derived.Test.YtpggjolbohffjaaDoorCList
set_option linter.unusedSimpArgs false
set_option linter.unusedVariables false
namespace Go.Proofs.YtpggjolbohffjaaDoor
open Go.RowKit

theorem below1 (w : World) (o : Obj) : Below w.heap.size w (w.alloc o) := (Below.refl _ _).alloc (Nat.le_refl _) _
theorem fold_take {α β : Type} {f : β → α → β} {a : β} {l : List α} {k : Nat} {c : α} (h : l[k]? = some c) : (l.take (k + 1)).foldl f a = f ((l.take k).foldl f a) c := by
  rw [List.take_add_one, List.foldl_append, h]; rfl
theorem same_set' {S : Nat → Prop} {w : World} {g j : Nat} {v : Value} (h : ∀ b, S b → b ≠ g) : Same' S w (w.setCell ⟨g, j, none⟩ v) := fun b o hb => World.cell?_setCell_far _ _ _ _ (by simpa using (h b hb).symm)
theorem same_iter {S : Nat → Prop} {w : World} {k p : Nat} {s : ByteArray} (h : ∀ b, S b → b ≠ k) : Same' S w (w.iterAt k s p) := fun b o hb => World.cell?_of_block (a := ⟨b, o, none⟩) (Lib.iterAt_other w k b s p (h b hb))
theorem part_num {p : InsV × St} {c : Nat} (h1 : c ≠ 110) (h2 : c ≠ 76) : partT p c = (setF c (numT p.2).1 p.1, (numT p.2).2) := by unfold partT; rw [if_neg h1, if_neg h2]
theorem part_n {p : InsV × St} : partT p 110 = ({ p.1 with n := (snumT p.2).1 }, (snumT p.2).2) := rfl
theorem part_l {p : InsV × St} : partT p 76 = ({ p.1 with args := (listT p.2).1 }, (listT p.2).2) := rfl
theorem InsR.setF {r : InsV} (h : InsR r) (c : Nat) {v : Int} (hv : i64R v) : InsR (setF c v r) := by
  obtain ⟨h0, h1, h2, h3, h4, h5⟩ := h
  unfold Proofs.YtpggjolbohffjaaDoor.setF
  split
  · exact ⟨h0, hv, h2, h3, h4, h5⟩
  · split
    · exact ⟨h0, h1, hv, h3, h4, h5⟩
    · split
      · exact ⟨h0, h1, h2, hv, h4, h5⟩
      · split
        · exact ⟨h0, h1, h2, h3, h4, hv⟩
        · exact ⟨h0, h1, h2, h3, hv, h5⟩
theorem InsR.setN {r : InsV} (h : InsR r) {v : Int} (hv : i64R v) : InsR { r with n := v } := ⟨h.1, h.2.1, h.2.2.1, h.2.2.2.1, hv, h.2.2.2.2.2⟩
theorem InsR.setA {r : InsV} (h : InsR r) (l : List Int) : InsR { r with args := l } := h

/-- The loop over the letters in ins: hr the result's block, hx the instruction's, H the iterator's. -/
def RInsRel (op : Int) (s1 : St) (w : World) (g B hr hx H : Nat) (wr : World) : Prop :=
  ∃ (k : Nat) (A : Option Addr) (n c : Nat), k ≤ (partsN op).length ∧ wr.heap[H]? = some (.stringIter (strOf (partsN op)) k) ∧ Box wr hr (insBox (bare 0) (.slice none 0 0)) 41 ∧
    Box wr hx (insBox (((partsN op).take k).foldl partT (bare op, s1)).1 (.slice A n c)) 41 ∧ InsI wr (fun b => H < b ∧ b < wr.heap.size) (.slice A n c) (((partsN op).take k).foldl partT (bare op, s1)).1 ∧
    ReadTo w g B (((partsN op).take k).foldl partT (bare op, s1)).2 wr

set_option maxHeartbeats 1000000 in
set_option maxRecDepth 100000 in
theorem rins_any (g B : Nat) (s : St) (w : World) (hB0 : 0 < g) (hT : TabP w) (h : RS w g B s) :
    Calls Tryd.prog 99 #[.pointer (some ⟨g, 0, none⟩)] w fun e w' => ∃ va, e = .returned (.agg #[.int .i64 (insT s).1.op, .int .i64 (insT s).1.d, .int .i64 (insT s).1.a, .int .i64 (insT s).1.b, .int .i64 (insT s).1.n, .int .i64 (insT s).1.m, va]) ∧ InsI w' (Made w w') va (insT s).1 ∧ ReadTo w g B (insT s).2 w' := by
  have hgw := h.lt
  have hopR := onlyT_R (may := isOpB) (er := 5) h.byt
  have hv := hide (show insT s = (partsN (onlyT isOpB 5 s).1).foldl partT (bare (onlyT isOpB 5 s).1, (onlyT isOpB 5 s).2) from rfl)
  rw [hv.out]
  have hO := onlyOp_any g B 5 5 rfl s (w.alloc (.cells (insBox (bare 0) (.slice none 0 0)) 41)) (h.alloc _) (hT.below (below1 w _) hT.1) hB0
  have HL := hide (partsN_letter (onlyT isOpB 5 s).1)
  generalize onlyT isOpB 5 s = r at *
  obtain ⟨op, s1⟩ := r
  simp only at *
  have hop : i64R op := ⟨by omega, by omega⟩
  have HT := hide hT
  have HO := hide hO
  have HOP := hide hop
  clear hv hO hT h hop
  go_enter Tryd.func99, Tryd.ntmps99
  go_wp2_with (first
    | (go_at_call 79; refine HO.out.mono ?_; rintro e w1 ⟨rfl, hr1⟩; have hz1 := hr1.read.size; simp at hz1; have hbr1 := hr1.read.box (Box.new w _ _) (by omega); have HR1 := hide hr1; have HBR1 := hide hbr1; clear hr1 hbr1)
    | (go_at_call 10; refine (parts_any op _ ((HT.out.below (below1 w _) HT.out.1).below ((HR1.out.read.below (by simp; omega)).trans ((Below.refl _ _).alloc (by omega) _)) hB0) HOP.out).mono ?_; rintro e w' ⟨rfl, rfl⟩))
  obtain ⟨h1, hh1⟩ : ∃ h1, w1.heap.size = h1 := ⟨_, rfl⟩
  have hzh : w.heap.size + 1 ≤ h1 := by omega
  go_loopw [] (fun wr => RInsRel op s1 w g B w.heap.size w1.heap.size (w1.heap.size + 1) wr) (fun wr => (partsN op).length - wr.iterPos (w1.heap.size + 1))
  case atStart =>
    refine ⟨0, none, 0, 0, Nat.zero_le _, ?_, (HBR1.out.alloc _).alloc _, ?_, ⟨Vec.nil _ _ _, HOP.out, by unfold i64R; simp [bare], by unfold i64R; simp [bare], by unfold i64R; simp [bare], by unfold i64R; simp [bare], by unfold i64R; simp [bare]⟩, ⟨(HR1.out.rs.alloc _).alloc _, (((Read.refl g w).alloc _).trans HR1.out.read).alloc _ |>.alloc _⟩⟩
    · have := World.iter_heap (w1.alloc (.cells (insBox (bare op) (.slice none 0 0)) 41)) (strOf (partsN op)) 0
      rw [World.size_alloc] at this
      exact this
    · exact (Box.new w1 (insBox (bare op) (.slice none 0 0)) 41).alloc _
  case round =>
    rw [hh1] at hrel ⊢
    obtain ⟨k, A, n, c, hk, hit, hbr, hbx, hi, hrr⟩ := hrel
    have hH := iter_lt hit
    have hpos0 := iterPos_of hit
    have hrsl := hrr.rs.lt
    by_cases hlt : k < (partsN op).length
    · obtain ⟨c0, hc0⟩ : ∃ c0, (partsN op)[k]? = some c0 := ⟨_, List.getElem?_eq_getElem hlt⟩
      have hlc := HL.out c0 (List.mem_of_getElem? hc0)
      have hnx : ∀ ty, (Instr.next (.pointer (some ⟨h1 + 1, 0, none⟩)) true ty).run Tryd.prog wr = _ := fun ty => next_letter wr (h1 + 1) k c0 _ ty hit HL.out hc0
      have hit2 := Lib.iterAt_heap wr (h1 + 1) (strOf (partsN op)) k (k + 1) hit
      have hbr2 := hbr.iter (k := h1 + 1) (s := strOf (partsN op)) (p := k + 1) (by omega)
      have hbx2 := hbx.iter (k := h1 + 1) (s := strOf (partsN op)) (p := k + 1) (by omega)
      have hi2 := hi.keep (S' := fun b => h1 + 1 < b ∧ b < wr.heap.size) (same_iter (k := h1 + 1) (s := strOf (partsN op)) (p := k + 1) (fun b hb => by omega)) (fun _ h => h)
      have hrr2 : ReadTo w g B (((partsN op).take k).foldl partT (bare op, s1)).2 (wr.iterAt (h1 + 1) (strOf (partsN op)) (k + 1)) := ⟨hrr.rs.iter (by omega), hrr.read.iter (by omega)⟩
      have hws := Lib.iterAt_size wr (h1 + 1) (strOf (partsN op)) (k + 1)
      obtain ⟨W1, hW1⟩ : ∃ W1, W1 = wr.iterAt (h1 + 1) (strOf (partsN op)) (k + 1) := ⟨_, rfl⟩
      rw [← hW1] at hnx hit2 hbr2 hbx2 hi2 hrr2 hws
      have hfo := fold_take (f := partT) (a := (bare op, s1)) hc0
      have HK := hide hlt
      have HP0 := hide hpos0
      generalize ((partsN op).take k).foldl partT (bare op, s1) = q at *
      obtain ⟨r, t⟩ := q
      simp only at hbx2 hi2 hrr2
      obtain ⟨y1, z1⟩ := hbx2.cell 1 (v := .int .i64 r.d) rfl
      obtain ⟨y2, z2⟩ := hbx2.cell 2 (v := .int .i64 r.a) rfl
      obtain ⟨y3, z3⟩ := hbx2.cell 3 (v := .int .i64 r.b) rfl
      obtain ⟨y4, z4⟩ := hbx2.cell 4 (v := .int .i64 r.n) rfl
      obtain ⟨y5, z5⟩ := hbx2.cell 5 (v := .int .i64 r.m) rfl
      obtain ⟨y6, z6⟩ := hbx2.cell 6 (v := .slice A n c) rfl
      have HBR := hide hbr2
      have HBX := hide hbx2
      have HIT := hide hit2
      have HI := hide hi2
      have HRR := hide hrr2
      have hq1 := hbx2.lt
      have hq2 := hbr2.lt
      have hby := hrr2.rs.byt
      have hW1s := iter_lt hit2
      clear hW1 hit hbr hbx hi hrr hit2 hbr2 hbx2 hi2 hrr2 hc0 hpos0 hlt
      unfold isLetter at hlc
      rcases hlc with rfl | rfl | rfl | rfl | rfl | rfl | rfl
      · have hpt := hide (show ((partsN op).take (k + 1)).foldl partT (bare op, s1) = ({ r with d := (numT t).1 }, (numT t).2) by rw [hfo]; exact part_num (by omega) (by omega))
        have hN := number_any' g B t W1 HRR.out.rs
        have hiR := (HI.out.2.setF 68 (numT_i64 hby) : InsR { r with d := (numT t).1 })
        generalize numT t = u at *
        have HN := hide hN
        clear hN hfo
        go_wp2_with (first
          | (go_at_call 93; refine (field_at _ 68 1 _ (by unfold isLetter; omega) rfl).mono ?_; rintro e w' ⟨rfl, rfl⟩)
          | (go_at_call 81; refine HN.out.mono ?_; rintro e w3 ⟨rfl, hr3⟩; have hb3 := hr3.read.box HBX.out (by omega); obtain ⟨y7, z7⟩ := hb3.cell 1 (v := .int .i64 r.d) rfl; have hq3 := hb3.lt; have HB3 := hide hb3; have hz3 := hr3.read.size; have HR3 := hide hr3; clear hb3 hr3))
        go_roundw
        case rel => exact ⟨k + 1, A, n, c, HK.out, iter_set (HR3.out.read.iterAt HIT.out (by omega)) (by omega), (HR3.out.read.box HBR.out (by omega)).other (by omega), by rw [hpt.out]; exact HB3.out.set 1 _, by rw [hpt.out]; exact ⟨by simpa using (HI.out.1.keep (S' := fun b => h1 + 1 < b ∧ b < w3.heap.size) (Same'.trans (HR3.out.read.same (fun b hb => by omega)) (same_set' (fun b hb => by omega))) (fun b hb => by omega)), hiR⟩, by rw [hpt.out]; exact ⟨HR3.out.rs.set (by omega), (HRR.out.read.trans HR3.out.read).set (Or.inl (by omega))⟩⟩
        case measure => rw [iterPos_of (iter_set (HR3.out.read.iterAt HIT.out (by omega)) (by omega)), HP0.out]; have := HK.out; omega
      · have hpt := hide (show ((partsN op).take (k + 1)).foldl partT (bare op, s1) = ({ r with a := (numT t).1 }, (numT t).2) by rw [hfo]; exact part_num (by omega) (by omega))
        have hN := number_any' g B t W1 HRR.out.rs
        have hiR := (HI.out.2.setF 65 (numT_i64 hby) : InsR { r with a := (numT t).1 })
        generalize numT t = u at *
        have HN := hide hN
        clear hN hfo
        go_wp2_with (first
          | (go_at_call 93; refine (field_at _ 65 2 _ (by unfold isLetter; omega) rfl).mono ?_; rintro e w' ⟨rfl, rfl⟩)
          | (go_at_call 81; refine HN.out.mono ?_; rintro e w3 ⟨rfl, hr3⟩; have hb3 := hr3.read.box HBX.out (by omega); obtain ⟨y7, z7⟩ := hb3.cell 2 (v := .int .i64 r.a) rfl; have hq3 := hb3.lt; have HB3 := hide hb3; have hz3 := hr3.read.size; have HR3 := hide hr3; clear hb3 hr3))
        go_roundw
        case rel => exact ⟨k + 1, A, n, c, HK.out, iter_set (HR3.out.read.iterAt HIT.out (by omega)) (by omega), (HR3.out.read.box HBR.out (by omega)).other (by omega), by rw [hpt.out]; exact HB3.out.set 2 _, by rw [hpt.out]; exact ⟨by simpa using (HI.out.1.keep (S' := fun b => h1 + 1 < b ∧ b < w3.heap.size) (Same'.trans (HR3.out.read.same (fun b hb => by omega)) (same_set' (fun b hb => by omega))) (fun b hb => by omega)), hiR⟩, by rw [hpt.out]; exact ⟨HR3.out.rs.set (by omega), (HRR.out.read.trans HR3.out.read).set (Or.inl (by omega))⟩⟩
        case measure => rw [iterPos_of (iter_set (HR3.out.read.iterAt HIT.out (by omega)) (by omega)), HP0.out]; have := HK.out; omega
      · have hpt := hide (show ((partsN op).take (k + 1)).foldl partT (bare op, s1) = ({ r with b := (numT t).1 }, (numT t).2) by rw [hfo]; exact part_num (by omega) (by omega))
        have hN := number_any' g B t W1 HRR.out.rs
        have hiR := (HI.out.2.setF 66 (numT_i64 hby) : InsR { r with b := (numT t).1 })
        generalize numT t = u at *
        have HN := hide hN
        clear hN hfo
        go_wp2_with (first
          | (go_at_call 93; refine (field_at _ 66 3 _ (by unfold isLetter; omega) rfl).mono ?_; rintro e w' ⟨rfl, rfl⟩)
          | (go_at_call 81; refine HN.out.mono ?_; rintro e w3 ⟨rfl, hr3⟩; have hb3 := hr3.read.box HBX.out (by omega); obtain ⟨y7, z7⟩ := hb3.cell 3 (v := .int .i64 r.b) rfl; have hq3 := hb3.lt; have HB3 := hide hb3; have hz3 := hr3.read.size; have HR3 := hide hr3; clear hb3 hr3))
        go_roundw
        case rel => exact ⟨k + 1, A, n, c, HK.out, iter_set (HR3.out.read.iterAt HIT.out (by omega)) (by omega), (HR3.out.read.box HBR.out (by omega)).other (by omega), by rw [hpt.out]; exact HB3.out.set 3 _, by rw [hpt.out]; exact ⟨by simpa using (HI.out.1.keep (S' := fun b => h1 + 1 < b ∧ b < w3.heap.size) (Same'.trans (HR3.out.read.same (fun b hb => by omega)) (same_set' (fun b hb => by omega))) (fun b hb => by omega)), hiR⟩, by rw [hpt.out]; exact ⟨HR3.out.rs.set (by omega), (HRR.out.read.trans HR3.out.read).set (Or.inl (by omega))⟩⟩
        case measure => rw [iterPos_of (iter_set (HR3.out.read.iterAt HIT.out (by omega)) (by omega)), HP0.out]; have := HK.out; omega
      · have hpt := hide (show ((partsN op).take (k + 1)).foldl partT (bare op, s1) = ({ r with n := (numT t).1 }, (numT t).2) by rw [hfo]; exact part_num (by omega) (by omega))
        have hN := number_any' g B t W1 HRR.out.rs
        have hiR := (HI.out.2.setF 78 (numT_i64 hby) : InsR { r with n := (numT t).1 })
        generalize numT t = u at *
        have HN := hide hN
        clear hN hfo
        go_wp2_with (first
          | (go_at_call 93; refine (field_at _ 78 4 _ (by unfold isLetter; omega) rfl).mono ?_; rintro e w' ⟨rfl, rfl⟩)
          | (go_at_call 81; refine HN.out.mono ?_; rintro e w3 ⟨rfl, hr3⟩; have hb3 := hr3.read.box HBX.out (by omega); obtain ⟨y7, z7⟩ := hb3.cell 4 (v := .int .i64 r.n) rfl; have hq3 := hb3.lt; have HB3 := hide hb3; have hz3 := hr3.read.size; have HR3 := hide hr3; clear hb3 hr3))
        go_roundw
        case rel => exact ⟨k + 1, A, n, c, HK.out, iter_set (HR3.out.read.iterAt HIT.out (by omega)) (by omega), (HR3.out.read.box HBR.out (by omega)).other (by omega), by rw [hpt.out]; exact HB3.out.set 4 _, by rw [hpt.out]; exact ⟨by simpa using (HI.out.1.keep (S' := fun b => h1 + 1 < b ∧ b < w3.heap.size) (Same'.trans (HR3.out.read.same (fun b hb => by omega)) (same_set' (fun b hb => by omega))) (fun b hb => by omega)), hiR⟩, by rw [hpt.out]; exact ⟨HR3.out.rs.set (by omega), (HRR.out.read.trans HR3.out.read).set (Or.inl (by omega))⟩⟩
        case measure => rw [iterPos_of (iter_set (HR3.out.read.iterAt HIT.out (by omega)) (by omega)), HP0.out]; have := HK.out; omega
      · have hpt := hide (show ((partsN op).take (k + 1)).foldl partT (bare op, s1) = ({ r with m := (numT t).1 }, (numT t).2) by rw [hfo]; exact part_num (by omega) (by omega))
        have hN := number_any' g B t W1 HRR.out.rs
        have hiR := (HI.out.2.setF 77 (numT_i64 hby) : InsR { r with m := (numT t).1 })
        generalize numT t = u at *
        have HN := hide hN
        clear hN hfo
        go_wp2_with (first
          | (go_at_call 93; refine (field_at _ 77 5 _ (by unfold isLetter; omega) rfl).mono ?_; rintro e w' ⟨rfl, rfl⟩)
          | (go_at_call 81; refine HN.out.mono ?_; rintro e w3 ⟨rfl, hr3⟩; have hb3 := hr3.read.box HBX.out (by omega); obtain ⟨y7, z7⟩ := hb3.cell 5 (v := .int .i64 r.m) rfl; have hq3 := hb3.lt; have HB3 := hide hb3; have hz3 := hr3.read.size; have HR3 := hide hr3; clear hb3 hr3))
        go_roundw
        case rel => exact ⟨k + 1, A, n, c, HK.out, iter_set (HR3.out.read.iterAt HIT.out (by omega)) (by omega), (HR3.out.read.box HBR.out (by omega)).other (by omega), by rw [hpt.out]; exact HB3.out.set 5 _, by rw [hpt.out]; exact ⟨by simpa using (HI.out.1.keep (S' := fun b => h1 + 1 < b ∧ b < w3.heap.size) (Same'.trans (HR3.out.read.same (fun b hb => by omega)) (same_set' (fun b hb => by omega))) (fun b hb => by omega)), hiR⟩, by rw [hpt.out]; exact ⟨HR3.out.rs.set (by omega), (HRR.out.read.trans HR3.out.read).set (Or.inl (by omega))⟩⟩
        case measure => rw [iterPos_of (iter_set (HR3.out.read.iterAt HIT.out (by omega)) (by omega)), HP0.out]; have := HK.out; omega
      · have hpt := hide (show ((partsN op).take (k + 1)).foldl partT (bare op, s1) = ({ r with n := (snumT t).1 }, (snumT t).2) by rw [hfo]; rfl)
        have hN := takes_any g B t W1 HRR.out.rs
        have hiR := (HI.out.2.setN (snumT_R hby) : InsR { r with n := (snumT t).1 })
        generalize snumT t = u at *
        have HN := hide hN
        clear hN hfo
        go_wp2_with (go_at_call 97; refine HN.out.mono ?_; rintro e w3 ⟨rfl, hr3⟩; have hb3 := hr3.read.box HBX.out (by omega); obtain ⟨y7, z7⟩ := hb3.cell 4 (v := .int .i64 r.n) rfl; have hq3 := hb3.lt; have HB3 := hide hb3; have hz3 := hr3.read.size; have HR3 := hide hr3; clear hb3 hr3)
        go_roundw
        case rel => exact ⟨k + 1, A, n, c, HK.out, iter_set (HR3.out.read.iterAt HIT.out (by omega)) (by omega), (HR3.out.read.box HBR.out (by omega)).other (by omega), by rw [hpt.out]; exact HB3.out.set 4 _, by rw [hpt.out]; exact ⟨by simpa using (HI.out.1.keep (S' := fun b => h1 + 1 < b ∧ b < w3.heap.size) (Same'.trans (HR3.out.read.same (fun b hb => by omega)) (same_set' (fun b hb => by omega))) (fun b hb => by omega)), hiR⟩, by rw [hpt.out]; exact ⟨HR3.out.rs.set (by omega), (HRR.out.read.trans HR3.out.read).set (Or.inl (by omega))⟩⟩
        case measure => rw [iterPos_of (iter_set (HR3.out.read.iterAt HIT.out (by omega)) (by omega)), HP0.out]; have := HK.out; omega
      · have hpt := hide (show ((partsN op).take (k + 1)).foldl partT (bare op, s1) = ({ r with args := (listT t).1 }, (listT t).2) by rw [hfo]; rfl)
        have hN := list_any' g B t W1 HRR.out.rs
        generalize listT t = u at *
        have HN := hide hN
        clear hN hfo
        go_wp2_with (go_at_call 109; refine HN.out.mono ?_; rintro e w3 ⟨v3, rfl, hv3, hr3⟩; obtain ⟨A3, c3, rfl, -, -⟩ := hv3.open'; have HV3 := hide hv3; clear hv3; have hb3 := hr3.read.box HBX.out (by omega); obtain ⟨y7, z7⟩ := hb3.cell 6 (v := .slice A n c) rfl; have hq3 := hb3.lt; have HB3 := hide hb3; have hz3 := hr3.read.size; have HR3 := hide hr3; clear hb3 hr3)
        go_roundw
        case rel => exact ⟨k + 1, A3, u.1.length, c3, HK.out, iter_set (HR3.out.read.iterAt HIT.out (by omega)) (by omega), (HR3.out.read.box HBR.out (by omega)).other (by omega), by rw [hpt.out]; exact HB3.out.set 6 _, by rw [hpt.out]; exact ⟨by simpa using (HV3.out.keep (S' := fun b => h1 + 1 < b ∧ b < w3.heap.size) (same_set' (fun b hb => by unfold Made at hb; omega)) (fun b hb => by unfold Made at hb; omega)), HI.out.2⟩, by rw [hpt.out]; exact ⟨HR3.out.rs.set (by omega), (HRR.out.read.trans HR3.out.read).set (Or.inl (by omega))⟩⟩
        case measure => rw [iterPos_of (iter_set (HR3.out.read.iterAt HIT.out (by omega)) (by omega)), HP0.out]; have := HK.out; omega
    · have hnx : ∀ ty, (Instr.next (.pointer (some ⟨h1 + 1, 0, none⟩)) true ty).run Tryd.prog wr = _ := fun ty => next_end wr (h1 + 1) k _ ty hit (by omega)
      rw [List.take_of_length_le (by omega)] at hbx hi hrr
      obtain ⟨q, hq⟩ : ∃ q, (partsN op).foldl partT (bare op, s1) = q := ⟨_, rfl⟩
      rw [hq] at hbx hi hrr
      obtain ⟨r, t⟩ := q
      simp only at hbx hi hrr
      have HQ := hide hq
      clear hq
      have y0 := (hbx.cell 0 (v := .int .i64 r.op) rfl).1
      have y1 := (hbx.cell 1 (v := .int .i64 r.d) rfl).1
      have y2 := (hbx.cell 2 (v := .int .i64 r.a) rfl).1
      have y3 := (hbx.cell 3 (v := .int .i64 r.b) rfl).1
      have y4 := (hbx.cell 4 (v := .int .i64 r.n) rfl).1
      have y5 := (hbx.cell 5 (v := .int .i64 r.m) rfl).1
      have y6 := (hbx.cell 6 (v := .slice A n c) rfl).1
      obtain ⟨x0, z0⟩ := hbr.cell 0 (v := .int .i64 0) rfl
      obtain ⟨x1, z1⟩ := hbr.cell 1 (v := .int .i64 0) rfl
      obtain ⟨x2, z2⟩ := hbr.cell 2 (v := .int .i64 0) rfl
      obtain ⟨x3, z3⟩ := hbr.cell 3 (v := .int .i64 0) rfl
      obtain ⟨x4, z4⟩ := hbr.cell 4 (v := .int .i64 0) rfl
      obtain ⟨x5, z5⟩ := hbr.cell 5 (v := .int .i64 0) rfl
      obtain ⟨x6, z6⟩ := hbr.cell 6 (v := .slice none 0 0) rfl
      have hq1 := hbx.lt
      have hq2 := hbr.lt
      have HBR := hide hbr
      have HI := hide hi
      have HRR := hide hrr
      clear hit hbr hbx hi hrr hpos0
      go_wp2
      have hB := ((((((HBR.out.set 0 (.int .i64 r.op)).set 1 (.int .i64 r.d)).set 2 (.int .i64 r.a)).set 3 (.int .i64 r.b)).set 4 (.int .i64 r.n)).set 5 (.int .i64 r.m)).set 6 (.slice A n c)
      have c0 := (hB.cell 0 (v := .int .i64 r.op) (by simp)).1
      have c1 := (hB.cell 1 (v := .int .i64 r.d) (by simp)).1
      have c2 := (hB.cell 2 (v := .int .i64 r.a) (by simp)).1
      have c3 := (hB.cell 3 (v := .int .i64 r.b) (by simp)).1
      have c4 := (hB.cell 4 (v := .int .i64 r.n) (by simp)).1
      have c5 := (hB.cell 5 (v := .int .i64 r.m) (by simp)).1
      have c6 := (hB.cell 6 (v := .slice A n c) (by simp)).1
      have hgl := HRR.out.rs.lt
      have hsame : Same' (fun b => h1 + 1 < b ∧ b < wr.heap.size) wr (((((((wr.setCell ⟨w.heap.size, 0, none⟩ (.int .i64 r.op)).setCell ⟨w.heap.size, 1, none⟩ (.int .i64 r.d)).setCell ⟨w.heap.size, 2, none⟩ (.int .i64 r.a)).setCell ⟨w.heap.size, 3, none⟩ (.int .i64 r.b)).setCell ⟨w.heap.size, 4, none⟩ (.int .i64 r.n)).setCell ⟨w.heap.size, 5, none⟩ (.int .i64 r.m)).setCell ⟨w.heap.size, 6, none⟩ (.slice A n c)) :=
        ((((((same_set' (fun b hb => by omega)).trans (same_set' (fun b hb => by omega))).trans (same_set' (fun b hb => by omega))).trans (same_set' (fun b hb => by omega))).trans (same_set' (fun b hb => by omega))).trans (same_set' (fun b hb => by omega))).trans (same_set' (fun b hb => by omega))
      refine bodyPost_ret (v := .agg #[.int .i64 r.op, .int .i64 r.d, .int .i64 r.a, .int .i64 r.b, .int .i64 r.n, .int .i64 r.m, .slice A n c]) (by simp [results, Tryd.results99, go_sem, c0, c1, c2, c3, c4, c5, c6]) rfl ⟨.slice A n c, by rw [HQ.out], ?_, ?_⟩
      · rw [HQ.out]
        exact HI.out.keep hsame (fun b hb => by unfold Made; simp only [World.size_setCell]; omega)
      · rw [HQ.out]
        exact ⟨((((((HRR.out.rs.set (by omega)).set (by omega)).set (by omega)).set (by omega)).set (by omega)).set (by omega)).set (by omega), ((((((HRR.out.read.set (Or.inl (Nat.le_refl _))).set (Or.inl (Nat.le_refl _))).set (Or.inl (Nat.le_refl _))).set (Or.inl (Nat.le_refl _))).set (Or.inl (Nat.le_refl _))).set (Or.inl (Nat.le_refl _))).set (Or.inl (Nat.le_refl _))⟩
end Go.Proofs.YtpggjolbohffjaaDoor
