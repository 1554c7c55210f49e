/- The statement ScanAgain, walked: it answers true. Condition: no slice is longer than any machine can hold. -/
import Derived.Test.YtojobajeffipdaaPaQL
set_option linter.unusedSimpArgs false
set_option linter.unusedVariables false
namespace Go.Proofs.Ytojobajeffipdaa
open Go.RowKit

theorem take_map_next {ss : List SpV} {d : Int} {k : Nat} {y : SpV} (hy : ss[k]? = some y) : (ss.take (k + 1)).map (moveS d) = (ss.take k).map (moveS d) ++ [moveS d y] := by
  rw [List.take_add_one, hy, Option.toList_some, List.map_append]
  rfl
set_option maxHeartbeats 4000000 in
set_option maxRecDepth 100000 in
theorem again_law (v : Value) (ss : List SpV) (d q : Nat) (hd : d < 65536) (hq : q < 256) (w : World) (hs : SpsV w (· < w.heap.size) v ss) :
    Calls Try.prog 7 #[v, .int .u16 (d : Int), .int .u8 (q : Int)] w fun e w' => e = .returned (.bool true) ∧ Below w.heap.size w w' := by
  have HAL := hide (fun (W : World) => alive16_any W)
  obtain ⟨A, c, rfl, hc, hcm⟩ := hs.open'
  obtain ⟨n, hn⟩ := letl ss.length
  obtain ⟨m, hm⟩ : ∃ m, q % 33 = m := ⟨_, rfl⟩
  have hm32 : m ≤ 32 := by omega
  have t1 : (q : Int).tmod 33 = (m : Int) := by rw [← hm]; exact (Int.ofNat_tmod q 33).symm
  have t3 : (q : Int) % 33 = (m : Int) := by rw [← hm]; exact (Int.natCast_emod q 33).symm
  have n0 : (0 : Int) ≤ (q : Int) := by omega
  have n1 : (q : Int) ≤ 255 := by omega
  have e0 : (0 : Int) ≤ (d : Int) := by omega
  have e1 : (d : Int) ≤ 65535 := by omega
  rw [hn] at hs hc ⊢
  have HSC := hide (fun (W : World) (hW : Below w.heap.size w W) => (show Calls Try.prog 9 #[.slice A n c, .int .i64 (m : Int)] W (ScanA W ss m n) from by have t := qscan_any (.slice A n c) ss m W (hs.up hW) (by omega); rwa [hn] at t))
  have HSP := hide (fun (W : World) (hW : Below w.heap.size w W) (b o : Nat) (hA : A = some ⟨b, o, none⟩) (j : Nat) (y : SpV) (hy : ss[j]? = some y) => (hA ▸ hs).at' hW hy)
  have HAD := hide (fun (j : Nat) (y : SpV) (hy : ss[j]? = some y) => (show (∃ b o, A = some ⟨b, o, none⟩) from by
    obtain ⟨b, o, e, -⟩ := hs.get hy
    exact ⟨b, o, e⟩))
  have HSM := hide hs.small
  have HN := hide hn
  obtain ⟨i0, hi0, iz0, iz1, iz2⟩ := info_parts info_sp
  have HI := hide hi0
  by_cases hr : rightB16 ss = true
  rotate_left
  · have HI0 := hide (fun (e : Ending) (W W' : World) (h : ScanA W ss m n e W') => h.no (fun h => hr h.1))
    clear hs hn hr hm hi0
    go_enter Try.func7, Try.ntmps7
    go_upto_region 4 with (go_at_call 8; refine (HAL.out w).mono ?_; rintro e w1 ⟨rfl, hb1⟩; have HB1 := hide hb1; clear hb1)
    go_wp2_with (go_at_call 9; (with_reducible refine (HSC.out w1 HB1.out).mono ?_); intro e w2 h2; obtain ⟨rfl, hb2⟩ := HI0.out _ _ _ h2; have HB2 := hide (HB1.out.trans (hb2.mono HB1.out.size)); clear h2 hb2)
    go_ret
    exact ⟨by simp, HB2.out⟩
  have hin : rightB16 ss = true ∧ 0 ≤ (m : Int) ∧ (m : Int) ≤ 32 := ⟨hr, by omega, by omega⟩
  have h0 := scan_list (regs := (m : Int)) hin hn
  have hn48 := h0.1
  have HLO := hide (fun j (hj : j < n) => (okS_of hr).lo j (by omega))
  have HY := hide (fun (e : Ending) (W W' : World) (h' : ScanA W ss m n e W') => h'.yes hin)
  have HY2 := hide (fun (ht : ∀ x ∈ ss, x.t ≤ 549755813888) (e : Ending) (W W' : World) (h' : ScanA W (ss.map (moveS d)) m n e W') => (show ∃ g, e = .returned (.tuple #[.slice (some ⟨g, 0, none⟩) n n, .int .i64 0]) ∧ Box W' g (lcsA (scanL ss m n)) 37 ∧ Below W.heap.size W W' from by
    have t := h'.yes ⟨right_move (d := (d : Int)) (by omega) hr (fun x hx => by have := ht x hx; omega), hin.2⟩
    rwa [scan_move (m : Int) (d : Int) n (by omega)] at t))
  have HLB := hide (fun (g g' : Nat) (W : World) (h : Box W g (lcsA (scanL ss m n)) 37) (h' : Box W g' (lcsA (scanL ss m n)) 37) => (show Calls Try.prog 11 #[.slice (some ⟨g, 0, none⟩) n n, .slice (some ⟨g', 0, none⟩) n n] W fun e w' => e = .returned (.bool true) ∧ Below W.heap.size W w' from by
    have t := rsameL_any (.slice (some ⟨g, 0, none⟩) n n) (.slice (some ⟨g', 0, none⟩) n n) _ _ W (lcs_of_box h h0.2.1 h0.2.2.1 (Nat.le_refl _) (by omega)) (lcs_of_box h' h0.2.1 h0.2.2.1 (Nat.le_refl _) (by omega)) (by have := h0.2.2.1; omega) (by have := h0.2.2.1; omega)
    rwa [decide_eq_true rfl] at t))
  clear hs hn hr hin h0 hm hi0
  go_enter Try.func7, Try.ntmps7
  go_upto_region 4 with (go_at_call 8; refine (HAL.out w).mono ?_; rintro e w1 ⟨rfl, hb1⟩; have HB1 := hide hb1; clear hb1)
  go_upto_region 5 with (go_at_call 9; (with_reducible refine (HSC.out w1 HB1.out).mono ?_); intro e w2 h2; obtain ⟨ga, rfl, hx2, hb2⟩ := HY.out _ _ _ h2; have HXA := hide hx2; have HB2 := hide (HB1.out.trans (hb2.mono HB1.out.size)); clear h2 hx2 hb2)
  go_wp2
  clear t1 t3 n0 n1
  go_loopw [10, 11] (fun a z wr => ∃ k : Nat, k ≤ n ∧ z = .int .i64 k ∧ Below w2.heap.size w2 wr ∧ Hid (OwC spC 35 4 wr w2.heap.size a ((ss.take k).map (moveS (d : Int)))) ∧ Hid (∀ j, j < k → (spAt ss j).t ≤ 549755813888)) (fun _ z _ => n - (intOf z).toNat)
  case atStart => exact ⟨0, Nat.zero_le _, rfl, Below.refl _ _, hide (OwC.nil _ _), hide (fun j h => absurd h (by omega))⟩
  case round =>
    obtain ⟨k, hk, rfl, hb, HO, HT⟩ := hrel
    obtain ⟨wo, rfl⟩ : ∃ wo, wo = wr := ⟨_, rfl⟩
    have HB := hide hb
    clear hb
    have HBW := hide (HB2.out.trans (HB.out.mono HB2.out.size))
    by_cases hlt : k < n
    case neg =>
      have e : k = n := by omega
      subst e
      have HO2 := hide (show OwC spC 35 4 wo w2.heap.size u10 (ss.map (moveS (d : Int))) from by have t := HO.out; rwa [List.take_of_length_le (by have := HN.out; omega)] at t)
      have HTT := hide (fun (x : SpV) (hx : x ∈ ss) => (show x.t ≤ 549755813888 from by
        obtain ⟨j, hj⟩ := List.getElem?_of_mem hx
        have t := HT.out j (by have := (List.getElem?_eq_some_iff.1 hj).1; have := HN.out; omega)
        rwa [spAt_of hj] at t))
      have HSM2 := hide (fun (x : SpV) (hx : x ∈ ss.map (moveS (d : Int))) => (show i64R x.v ∧ i64R x.f ∧ i64R x.t from by
        obtain ⟨y, hy, rfl⟩ := List.mem_map.1 hx
        have r := HSM.out y hy
        obtain ⟨j, hj⟩ := List.getElem?_of_mem hy
        have lo := HLO.out j (by have := (List.getElem?_eq_some_iff.1 hj).1; have := HN.out; omega)
        rw [spAt_of hj] at lo
        exact ⟨r.1, ⟨by show _ ≤ y.f + _; omega, by show y.f + _ ≤ _; omega⟩, by show _ ≤ y.t + _; omega, by show y.t + _ ≤ _; omega⟩))
      have HSS := hide (sps_own HO2.out HSM2.out)
      obtain ⟨A5, c5, hv5, hc5, hm5⟩ := HO2.out.sl
      rw [List.length_map, HN.out] at hv5 hc5
      subst hv5
      simp only [maxLen] at hm5
      have HSC2 := hide (qscan_any _ (ss.map (moveS (d : Int))) m wo HSS.out (by rw [List.length_map]; have := HN.out; omega))
      rw [List.length_map, HN.out] at HSC2
      have HXC := hide (HXA.out.below HB.out)
      go_upto_region 17 with (go_at_call 9; (with_reducible refine HSC2.out.mono ?_); intro e w6 h6; obtain ⟨gb, rfl, hx6, hb6⟩ := HY2.out HTT.out _ _ _ h6; have HX6 := hide hx6; have HXD := hide (HXC.out.below hb6); have HB6 := hide (HBW.out.trans (hb6.mono HBW.out.size)); clear hx6 hb6 h6)
      go_wp2_with (go_at_call 11; (with_reducible refine (HLB.out ga gb w6 HXD.out HX6.out).mono ?_); rintro e w8 ⟨rfl, hb8⟩; have HB8 := hide (HB6.out.trans (hb8.mono HB6.out.size)); clear hb8)
      go_ret
      exact ⟨by simp, HB8.out⟩
    obtain ⟨y, hy⟩ : ∃ y, ss[k]? = some y := ⟨_, List.getElem?_eq_getElem (by have := HN.out; omega)⟩
    obtain ⟨bs, os, hA⟩ := HAD.out k y hy
    subst hA
    obtain ⟨s0, s1, s2, s3, s4⟩ := HSP.out wo HBW.out bs os rfl k y hy
    have lo := HLO.out k hlt
    rw [spAt_of hy] at lo
    have HTN := hide (take_map_next (d := (d : Int)) hy)
    have HLT := hide (show ((ss.take k).map (moveS (d : Int))).length = k by rw [List.length_map, List.length_take]; have := HN.out; omega)
    have HTY := hide (fun (h : y.t ≤ 549755813888) (j : Nat) (hj : j < k + 1) => (show (spAt ss j).t ≤ 549755813888 from by
      by_cases e : j = k
      · subst e; rw [spAt_of hy]; exact h
      · exact HT.out j (by omega)))
    obtain ⟨yv, yf, yt, yc⟩ := y
    obtain ⟨lo1, lo2, lo3⟩ := lo
    replace lo1 : 0 ≤ yf := lo1
    replace lo2 : yf ≤ yt := lo2
    replace lo3 : yt ≤ 1099511627776 := lo3
    have hki : (k : Int) < n := by omega
    clear hy HT
    go_upto_region 12 with (fail)
    obtain ⟨w4, hw4⟩ := letr (wo.alloc (.cells #[.int .i64 yv, .int .i64 yf, .int .i64 yt, .bool yc] 35))
    obtain ⟨h4, hh4⟩ := letl wo.heap.size
    have HX := lBox hw4 hh4
    have HB4 := lBel hw4
    have HH4 := hide (show w2.heap.size ≤ h4 by have := HB.out.size; omega)
    rw [← hw4, hh4]
    have HO4 := hide (show OwC spC 35 4 w4 w2.heap.size u10 ((ss.take k).map (moveS (d : Int))) by rw [hw4]; exact HO.out.alloc _)
    have HNE := hide (fun g (hg : u10.ownBlock = some g) => (show g ≠ h4 by have := (HO.out.lt g hg).2; omega))
    clear hw4 hh4 s0 s1 s2 s3 s4
    have HC := hide (HB.out.trans (HB4.out.mono HB.out.size))
    obtain ⟨⟨q0, g0⟩, ⟨q1, g1⟩, ⟨q2, g2⟩, ⟨q3, g3⟩⟩ := And.intro (HX.out.cell 0 (v := .int .i64 yv) rfl) (And.intro (HX.out.cell 1 (v := .int .i64 yf) rfl) (And.intro (HX.out.cell 2 (v := .int .i64 yt) rfl) (HX.out.cell 3 (v := .bool yc) rfl)))
    have lx := HX.out.lt
    by_cases hbig : 549755813888 < yt
    · go_wp2
      go_ret
      exact ⟨rfl, HB2.out.trans (HC.out.mono HB2.out.size)⟩
    have HT2 := hide (HTY.out (by show yt ≤ _; omega))
    go_upto_region 15 with (fail)
    obtain ⟨w5, hw5⟩ := letr ((w4.setCell ⟨h4, 1, none⟩ (.int .i64 (yf + (d : Int)))).setCell ⟨h4, 2, none⟩ (.int .i64 (yt + (d : Int))))
    have HX5 := hide (show Box w5 h4 #[.int .i64 yv, .int .i64 (yf + (d : Int)), .int .i64 (yt + (d : Int)), .bool yc] 35 by rw [hw5]; have t := (HX.out.set 1 (.int .i64 (yf + (d : Int)))).set 2 (.int .i64 (yt + (d : Int))); simpa using t)
    have HB5 := hide (show Below w2.heap.size w2 w5 by rw [hw5]; exact (HC.out.setCell (p := ⟨h4, 1, none⟩) HH4.out _).setCell (p := ⟨h4, 2, none⟩) HH4.out _)
    have HO5 := hide (show OwC spC 35 4 w5 w2.heap.size u10 ((ss.take k).map (moveS (d : Int))) by rw [hw5]; exact HO4.out.kept (fun g hg => (heap_setCell_other _ ⟨h4, 2, none⟩ g _ (HNE.out g hg)).trans (heap_setCell_other _ ⟨h4, 1, none⟩ g _ (HNE.out g hg))))
    rw [← hw5]
    clear hw5 q0 g0 q1 g1 q2 g2 q3 g3 lx
    obtain ⟨q0, q1, q2, q3⟩ := And.intro (HX5.out.cell 0 (v := .int .i64 yv) rfl).1 (And.intro (HX5.out.cell 1 (v := .int .i64 (yf + (d : Int))) rfl).1 (And.intro (HX5.out.cell 2 (v := .int .i64 (yt + (d : Int))) rfl).1 (HX5.out.cell 3 (v := .bool yc) rfl).1))
    have lx := HX5.out.lt
    have HBX := hide (Box.new w5 #[.int .i64 yv, .int .i64 (yf + (d : Int)), .int .i64 (yt + (d : Int)), .bool yc] 35)
    have HO6 := hide (HO5.out.alloc (.cells #[.int .i64 yv, .int .i64 (yf + (d : Int)), .int .i64 (yt + (d : Int)), .bool yc] 35))
    have HB6 := hide (HB5.out.trans ((alloc1 w5 (.cells #[.int .i64 yv, .int .i64 (yf + (d : Int)), .int .i64 (yt + (d : Int)), .bool yc] 35)).mono HB5.out.size))
    go_wp2_with (at_builtin; refine wpList_append_c (c := spC) (sz := 4) (w5.alloc (.cells #[.int .i64 yv, .int .i64 (yf + (d : Int)), .int .i64 (yt + (d : Int)), .bool yc] 35)) (by rfl) _ _ _ (by rfl) w2.heap.size i0 _ 32 Try.underlying22 HI.out iz0 iz1 iz2 rfl (by omega) (by omega) u10 _ k HLT.out (by rfl) HO6.out ⟨yv, yf + (d : Int), yt + (d : Int), yc⟩ rfl (by intro u hu; simp only [spC, List.mem_cons, List.mem_nil_iff, or_false] at hu; rcases hu with rfl | rfl | rfl | rfl <;> rfl) w5.heap.size _ HBX.out rfl (by rfl) (by omega) HB6.out.size ?_; intro g9 cap9 w9 ho9 hgr9 hg9 hl9; have HO9 := hide ho9; have HB9 := hide (HB6.out.grown hgr9 HB6.out.size (fun z hz => (HO6.out.lt z hz).1)); clear ho9 hgr9 hg9 hl9)
    go_roundw
    case rel => exact ⟨k + 1, by omega, by go_num, HB9.out, hide (by rw [HTN.out]; exact HO9.out), hide (fun j hj => HT2.out j hj)⟩
    case measure => simp [intOf]; omega
end Go.Proofs.Ytojobajeffipdaa
