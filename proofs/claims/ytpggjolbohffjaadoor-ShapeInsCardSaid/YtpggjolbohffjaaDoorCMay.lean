/- The contract of insMay. Condition: the table of parts reads as listed. -/
import Derived.Test.YtpggjolbohffjaaDoorCMayW
import Derived.Test.YtpggjolbohffjaaDoorCEq
set_option linter.unusedSimpArgs false
set_option linter.unusedVariables false
namespace Go.Proofs.YtpggjolbohffjaaDoor
open Go.RowKit

abbrev insBox (x : InsV) (va : Value) : Array Value := #[.int .i64 x.op, .int .i64 x.d, .int .i64 x.a, .int .i64 x.b, .int .i64 x.n, .int .i64 x.m, va]
/-- The loop over the letters in insMay. -/
def MayRel (x : InsV) (w : World) (B : Nat) (A : Option Addr) (n c : Nat) (wr : World) : Prop :=
  ∃ (k : Nat) (r : InsV) (A' : Option Addr) (n' c' : Nat), k ≤ (partsN x.op).length ∧ wr.heap[w.heap.size + 2]? = some (.stringIter (strOf (partsN x.op)) k) ∧ Box wr w.heap.size (insBox x (.slice A n c)) 41 ∧ Box wr (w.heap.size + 1) (insBox r (.slice A' n' c')) 41 ∧
    IntsV w (· < B) (.slice A' n' c') r.args ∧ r.op = x.op ∧ Below w.heap.size w wr ∧ Hid (mayL x (partsN x.op) x = mayL x ((partsN x.op).drop k) r)

theorem field_at (g c i : Nat) (w : World) (hc : isLetter c) (hi : fidx c = i) :
    Calls Tryd.prog 93 #[.pointer (some ⟨g, 0, none⟩), .int .i32 (c : Int)] w fun e w' => e = .returned (.pointer (some ⟨g, i, none⟩)) ∧ w = w' := hi ▸ field_any g c w hc
theorem iterPos_of {w : World} {h : Nat} {s : ByteArray} {k : Nat} (hit : w.heap[h]? = some (.stringIter s k)) : w.iterPos h = k := by simp [World.iterPos, hit]
theorem iter_set {w : World} {h g j : Nat} {s : ByteArray} {k : Nat} {v : Value} (hit : w.heap[h]? = some (.stringIter s k)) (hg : h ≠ g) : (w.setCell ⟨g, j, none⟩ v).heap[h]? = some (.stringIter s k) := (heap_setCell_other w ⟨g, j, none⟩ h v hg).trans hit
theorem iter_lt {w : World} {h : Nat} {s : ByteArray} {k : Nat} (hit : w.heap[h]? = some (.stringIter s k)) : h < w.heap.size := (Array.getElem?_eq_some_iff.1 hit).1

set_option maxRecDepth 100000 in
theorem insMay_any (va : Value) (x : InsV) (w : World) (B : Nat) (hB : B ≤ w.heap.size) (hT : TabP w) (hx : InsI w (· < B) va x) :
    Calls Tryd.prog 76 #[.agg #[.int .i64 x.op, .int .i64 x.d, .int .i64 x.a, .int .i64 x.b, .int .i64 x.n, .int .i64 x.m, va]] w fun e w' => e = .returned (.bool (insMayB x)) ∧ Below w.heap.size w w' := by
  obtain ⟨hx, ⟨hop, -⟩⟩ := hx
  have hP := fun (W : World) (hW : Below w.heap.size w W) => parts_any x.op W (hT.below hW hT.1) hop
  have hS := fun (y : InsV) (vy : Value) (W : World) (hW : Below w.heap.size w W) (hy : IntsV w (· < B) vy y.args) => sameIns_any vy (.slice none 0 0) y (bare x.op) W B (by have := hW.size; omega) (hy.keep (up hW hB) (fun _ h => h)) (Vec.nil _ _ _)
  have hA := fun (W : World) (hW : Below w.heap.size w W) => allPut_any va x.args W B (hx.keep (up hW hB) (fun _ h => h))
  obtain ⟨A, c, rfl, -, -⟩ := hx.open'
  obtain ⟨n, hn⟩ : ∃ n, x.args.length = n := ⟨_, rfl⟩
  rw [hn] at hx hA ⊢
  have HX := hide hx
  by_cases hpn : partsN x.op = []
  · have H1 := hide (fun (W : World) (hW : Below w.heap.size w W) => isOp_no x.op W (hT.below hW hT.1) hop hpn)
    have hv := hide (show insMayB x = false by unfold insMayB; rw [hpn]; rfl)
    clear hpn hS hA hP hx hn hop hT
    go_enter Tryd.func76, Tryd.ntmps76
    go_wp2_with (go_at_call 91; refine (H1.out _ ((Below.refl _ _).alloc (Nat.le_refl _) _)).mono ?_; rintro e w' ⟨rfl, rfl⟩)
    go_ret
    exact ⟨ret_bool hv.out.symm, (Below.refl _ _).alloc (Nat.le_refl _) _⟩
  · have H1 := hide (fun (W : World) (hW : Below w.heap.size w W) => isOp_yes x.op W (hT.below hW hT.1) hop hpn)
    have hv := hide (show insMayB x = mayL x (partsN x.op) x by unfold insMayB; cases h : partsN x.op with | nil => exact absurd h hpn | cons a b => rfl)
    have HP := hide hP
    have HS := hide hS
    have HA := hide hA
    have HT := hide hT
    have HL := hide (partsN_letter x.op)
    clear hpn hS hA hP hx hn hop hT
    go_enter Tryd.func76, Tryd.ntmps76
    go_wp2_with (first
      | (go_at_call 91; refine (H1.out _ ((Below.refl _ _).alloc (Nat.le_refl _) _)).mono ?_; rintro e w' ⟨rfl, rfl⟩)
      | (go_at_call 10; refine (HP.out _ (alloc2 w _ _)).mono ?_; rintro e w' ⟨rfl, rfl⟩))
    go_loopw [] (fun wr => MayRel x w B A n c wr) (fun wr => (partsN x.op).length - wr.iterPos (w.heap.size + 2))
    case atStart =>
      refine ⟨0, x, A, n, c, Nat.zero_le _, ?_, (((Box.new w _ _).alloc _).alloc _), ?_, HX.out, rfl, (alloc2 w _ _).alloc (by simp; omega) _, hide (by simp)⟩
      · have := World.iter_heap ((w.alloc (.cells (insBox x (.slice A n c)) 41)).alloc (.cells (insBox x (.slice A n c)) 41)) (strOf (partsN x.op)) 0
        simpa using this
      · have := (Box.new (w.alloc (.cells (insBox x (.slice A n c)) 41)) (insBox x (.slice A n c)) 41).alloc (.stringIter (strOf (partsN x.op)) 0)
        rw [World.size_alloc] at this
        exact this
    case round =>
      obtain ⟨k, r, A', n', c', hk, hit, hbx, hbr, hr, hro, hb, hm⟩ := hrel
      have hsz := hb.size
      have hpos0 := iterPos_of hit
      have hlt2 := iter_lt hit
      by_cases hlt : k < (partsN x.op).length
      · obtain ⟨c0, hc0⟩ : ∃ c0, (partsN x.op)[k]? = some c0 := ⟨_, List.getElem?_eq_getElem hlt⟩
        have hlc := HL.out c0 (List.mem_of_getElem? hc0)
        have hnx : ∀ ty, (Instr.next (.pointer (some ⟨w.heap.size + 2, 0, none⟩)) true ty).run Tryd.prog wr = _ := fun ty => next_letter wr (w.heap.size + 2) k c0 _ ty hit HL.out hc0
        have hit2 := Lib.iterAt_heap wr (w.heap.size + 2) (strOf (partsN x.op)) k (k + 1) hit
        have hbx2 := hbx.iter (k := w.heap.size + 2) (s := strOf (partsN x.op)) (p := k + 1) (by omega)
        have hbr2 := hbr.iter (k := w.heap.size + 2) (s := strOf (partsN x.op)) (p := k + 1) (by omega)
        have hbw2 := Lib.below_iterAt hb (k := w.heap.size + 2) (by omega) (strOf (partsN x.op)) (k + 1)
        obtain ⟨W1, hW1⟩ : ∃ W1, W1 = wr.iterAt (w.heap.size + 2) (strOf (partsN x.op)) (k + 1) := ⟨_, rfl⟩
        rw [← hW1] at hnx hit2 hbx2 hbr2 hbw2
        rw [drop_cons hc0] at hm
        have HM := hide hm
        have HBX := hide hbx2
        have HBR := hide hbr2
        have HIT := hide hit2
        have HR := hide hr
        have HRO := hide hro
        have HK := hide hlt
        have HP0 := hide hpos0
        have x6 := (hbx2.cell 6 (v := .slice A n c) rfl).1
        obtain ⟨y1, z1⟩ := hbr2.cell 1 (v := .int .i64 r.d) rfl
        obtain ⟨y2, z2⟩ := hbr2.cell 2 (v := .int .i64 r.a) rfl
        obtain ⟨y3, z3⟩ := hbr2.cell 3 (v := .int .i64 r.b) rfl
        obtain ⟨y4, z4⟩ := hbr2.cell 4 (v := .int .i64 r.n) rfl
        obtain ⟨y5, z5⟩ := hbr2.cell 5 (v := .int .i64 r.m) rfl
        obtain ⟨y6, z6⟩ := hbr2.cell 6 (v := .slice A' n' c') rfl
        have hq1 := hbx2.lt
        have hq2 := hbr2.lt
        clear hW1 hit hbx hbr hb hm hit2 hbx2 hbr2 hr hro hc0 hsz hlt2 hpos0 hlt
        unfold isLetter at hlc
        rcases hlc with rfl | rfl | rfl | rfl | rfl | rfl | rfl
        · by_cases h0 : r.d < 0
          · have hv2 := hide (show insMayB x = false by rw [hv.out, HM.out.out, mayL, if_neg (by omega), if_neg (by omega)]; simp [fieldOf]; omega)
            go_wp2_with (go_at_call 93; refine (field_at _ 68 1 _ (by unfold isLetter; omega) rfl).mono ?_; rintro e w' ⟨rfl, rfl⟩)
            go_ret
            exact ⟨ret_bool hv2.out.symm, hbw2⟩
          have hst := hide (show mayL x (68 :: (partsN x.op).drop (k + 1)) r = mayL x ((partsN x.op).drop (k + 1)) { r with d := 0 } by rw [mayL, if_neg (by omega), if_neg (by omega)]; simp [fieldOf, setF]; omega)
          go_wp2_with (go_at_call 93; refine (field_at _ 68 1 _ (by unfold isLetter; omega) rfl).mono ?_; rintro e w' ⟨rfl, rfl⟩)
          go_roundw
          case rel => exact ⟨k + 1, { r with d := 0 }, A', n', c', HK.out, iter_set HIT.out (by omega), HBX.out.other (by omega), HBR.out.set 1 _, HR.out, HRO.out, hbw2.setCell (by simp) _, hide (by rw [HM.out.out]; exact hst.out)⟩
          case measure => rw [iterPos_of (iter_set HIT.out (by omega)), HP0.out]; have := HK.out; omega
        · by_cases h0 : r.a < 0
          · have hv2 := hide (show insMayB x = false by rw [hv.out, HM.out.out, mayL, if_neg (by omega), if_neg (by omega)]; simp [fieldOf]; omega)
            go_wp2_with (go_at_call 93; refine (field_at _ 65 2 _ (by unfold isLetter; omega) rfl).mono ?_; rintro e w' ⟨rfl, rfl⟩)
            go_ret
            exact ⟨ret_bool hv2.out.symm, hbw2⟩
          have hst := hide (show mayL x (65 :: (partsN x.op).drop (k + 1)) r = mayL x ((partsN x.op).drop (k + 1)) { r with a := 0 } by rw [mayL, if_neg (by omega), if_neg (by omega)]; simp [fieldOf, setF]; omega)
          go_wp2_with (go_at_call 93; refine (field_at _ 65 2 _ (by unfold isLetter; omega) rfl).mono ?_; rintro e w' ⟨rfl, rfl⟩)
          go_roundw
          case rel => exact ⟨k + 1, { r with a := 0 }, A', n', c', HK.out, iter_set HIT.out (by omega), HBX.out.other (by omega), HBR.out.set 2 _, HR.out, HRO.out, hbw2.setCell (by simp) _, hide (by rw [HM.out.out]; exact hst.out)⟩
          case measure => rw [iterPos_of (iter_set HIT.out (by omega)), HP0.out]; have := HK.out; omega
        · by_cases h0 : r.b < 0
          · have hv2 := hide (show insMayB x = false by rw [hv.out, HM.out.out, mayL, if_neg (by omega), if_neg (by omega)]; simp [fieldOf]; omega)
            go_wp2_with (go_at_call 93; refine (field_at _ 66 3 _ (by unfold isLetter; omega) rfl).mono ?_; rintro e w' ⟨rfl, rfl⟩)
            go_ret
            exact ⟨ret_bool hv2.out.symm, hbw2⟩
          have hst := hide (show mayL x (66 :: (partsN x.op).drop (k + 1)) r = mayL x ((partsN x.op).drop (k + 1)) { r with b := 0 } by rw [mayL, if_neg (by omega), if_neg (by omega)]; simp [fieldOf, setF]; omega)
          go_wp2_with (go_at_call 93; refine (field_at _ 66 3 _ (by unfold isLetter; omega) rfl).mono ?_; rintro e w' ⟨rfl, rfl⟩)
          go_roundw
          case rel => exact ⟨k + 1, { r with b := 0 }, A', n', c', HK.out, iter_set HIT.out (by omega), HBX.out.other (by omega), HBR.out.set 3 _, HR.out, HRO.out, hbw2.setCell (by simp) _, hide (by rw [HM.out.out]; exact hst.out)⟩
          case measure => rw [iterPos_of (iter_set HIT.out (by omega)), HP0.out]; have := HK.out; omega
        · by_cases h0 : r.n < 0
          · have hv2 := hide (show insMayB x = false by rw [hv.out, HM.out.out, mayL, if_neg (by omega), if_neg (by omega)]; simp [fieldOf]; omega)
            go_wp2_with (go_at_call 93; refine (field_at _ 78 4 _ (by unfold isLetter; omega) rfl).mono ?_; rintro e w' ⟨rfl, rfl⟩)
            go_ret
            exact ⟨ret_bool hv2.out.symm, hbw2⟩
          have hst := hide (show mayL x (78 :: (partsN x.op).drop (k + 1)) r = mayL x ((partsN x.op).drop (k + 1)) { r with n := 0 } by rw [mayL, if_neg (by omega), if_neg (by omega)]; simp [fieldOf, setF]; omega)
          go_wp2_with (go_at_call 93; refine (field_at _ 78 4 _ (by unfold isLetter; omega) rfl).mono ?_; rintro e w' ⟨rfl, rfl⟩)
          go_roundw
          case rel => exact ⟨k + 1, { r with n := 0 }, A', n', c', HK.out, iter_set HIT.out (by omega), HBX.out.other (by omega), HBR.out.set 4 _, HR.out, HRO.out, hbw2.setCell (by simp) _, hide (by rw [HM.out.out]; exact hst.out)⟩
          case measure => rw [iterPos_of (iter_set HIT.out (by omega)), HP0.out]; have := HK.out; omega
        · by_cases h0 : r.m < 0
          · have hv2 := hide (show insMayB x = false by rw [hv.out, HM.out.out, mayL, if_neg (by omega), if_neg (by omega)]; simp [fieldOf]; omega)
            go_wp2_with (go_at_call 93; refine (field_at _ 77 5 _ (by unfold isLetter; omega) rfl).mono ?_; rintro e w' ⟨rfl, rfl⟩)
            go_ret
            exact ⟨ret_bool hv2.out.symm, hbw2⟩
          have hst := hide (show mayL x (77 :: (partsN x.op).drop (k + 1)) r = mayL x ((partsN x.op).drop (k + 1)) { r with m := 0 } by rw [mayL, if_neg (by omega), if_neg (by omega)]; simp [fieldOf, setF]; omega)
          go_wp2_with (go_at_call 93; refine (field_at _ 77 5 _ (by unfold isLetter; omega) rfl).mono ?_; rintro e w' ⟨rfl, rfl⟩)
          go_roundw
          case rel => exact ⟨k + 1, { r with m := 0 }, A', n', c', HK.out, iter_set HIT.out (by omega), HBX.out.other (by omega), HBR.out.set 5 _, HR.out, HRO.out, hbw2.setCell (by simp) _, hide (by rw [HM.out.out]; exact hst.out)⟩
          case measure => rw [iterPos_of (iter_set HIT.out (by omega)), HP0.out]; have := HK.out; omega
        · go_wp2
          go_roundw
          case rel => exact ⟨k + 1, { r with n := 0 }, A', n', c', HK.out, iter_set HIT.out (by omega), HBX.out.other (by omega), HBR.out.set 4 _, HR.out, HRO.out, hbw2.setCell (by simp) _, hide (by rw [HM.out.out]; exact mayL_n)⟩
          case measure => rw [iterPos_of (iter_set HIT.out (by omega)), HP0.out]; have := HK.out; omega
        · by_cases h0 : (x.args.all fun z => decide (0 ≤ z)) = true
          · have hst := hide (show mayL x (76 :: (partsN x.op).drop (k + 1)) r = mayL x ((partsN x.op).drop (k + 1)) { r with args := [] } by rw [mayL_l, h0]; rfl)
            rw [h0] at HA
            clear h0
            go_wp2_with (go_at_call 92; refine (HA.out _ hbw2).mono ?_; rintro e w' ⟨rfl, rfl⟩)
            go_roundw
            case rel => exact ⟨k + 1, { r with args := [] }, none, 0, 0, HK.out, iter_set HIT.out (by omega), HBX.out.other (by omega), HBR.out.set 6 _, Vec.nil _ _ _, HRO.out, hbw2.setCell (by simp) _, hide (by rw [HM.out.out]; exact hst.out)⟩
            case measure => rw [iterPos_of (iter_set HIT.out (by omega)), HP0.out]; have := HK.out; omega
          · have hv2 := hide (show insMayB x = false by rw [hv.out, HM.out.out, mayL_l, Bool.eq_false_iff.2 h0]; rfl)
            rw [Bool.eq_false_iff.2 h0] at HA
            clear h0
            go_wp2_with (go_at_call 92; refine (HA.out _ hbw2).mono ?_; rintro e w' ⟨rfl, rfl⟩)
            go_ret
            exact ⟨ret_bool hv2.out.symm, hbw2⟩
      · have hnx : ∀ ty, (Instr.next (.pointer (some ⟨w.heap.size + 2, 0, none⟩)) true ty).run Tryd.prog wr = _ := fun ty => next_end wr (w.heap.size + 2) k _ ty hit (by omega)
        have hv2 := hide (show insMayB x = decide (r = bare x.op) by rw [hv.out, hm.out, drop_end (by omega)]; rfl)
        have x0 := (hbx.cell 0 (v := .int .i64 x.op) rfl).1
        have y0 := (hbr.cell 0 (v := .int .i64 x.op) (by rw [← hro]; rfl)).1
        have y1 := (hbr.cell 1 (v := .int .i64 r.d) rfl).1
        have y2 := (hbr.cell 2 (v := .int .i64 r.a) rfl).1
        have y3 := (hbr.cell 3 (v := .int .i64 r.b) rfl).1
        have y4 := (hbr.cell 4 (v := .int .i64 r.n) rfl).1
        have y5 := (hbr.cell 5 (v := .int .i64 r.m) rfl).1
        have y6 := (hbr.cell 6 (v := .slice A' n' c') rfl).1
        have hq1 := hbx.lt
        have hq2 := hbr.lt
        have HC := hide (HS.out r (.slice A' n' c') wr hb hr)
        rw [hro] at HC
        have HB := hide hb
        clear hit hbx hbr hb hm hr hro hpos0 hlt
        go_wp2_with (go_at_call 94; refine HC.out.mono ?_; rintro e w1 ⟨rfl, hb1⟩)
        go_ret
        exact ⟨ret_bool hv2.out.symm, HB.out.trans (hb1.mono HB.out.size)⟩
end Go.Proofs.YtpggjolbohffjaaDoor
