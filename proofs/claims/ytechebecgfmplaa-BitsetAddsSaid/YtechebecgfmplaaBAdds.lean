/- The statement BitsetAdds, walked: it answers true. No condition (more than 100 words, or 50 numbers: at once). -/
import Derived.Test.YtechebecgfmplaaBFact
namespace Go.Proofs.Ytechebecgfmplaa
open Go.RowKit

set_option maxRecDepth 100000 in
theorem adds_far (A T : Option Addr) (n c m d : Nat) (x : Int) (w : World) (hnm : n ≤ 9223372036854775807) (hmm : m ≤ 9223372036854775807) (hx : -9223372036854775808 ≤ x ∧ x ≤ 9223372036854775807) (h : 100 < n ∨ 50 < m ∨ x < 0 ∨ 5000 < x) :
    Calls Try.prog 5 #[.slice A n c, .slice T m d, .int .i64 x] w fun e w' => e = .returned (.bool true) ∧ Below w.heap.size w w' := by
  by_cases h1 : 100 < n
  · clear h
    go_enter Try.func5, Try.ntmps5
    go_wp2_with (first | (go_at_call 6; refine (alive_any _).mono ?_; rintro e w1 ⟨rfl, hb1⟩) | (go_at_call 7; refine (great_yes A none n c 0 0 _ (.inl h1) (by omega) (by omega)).mono ?_; rintro e w' ⟨rfl, rfl⟩))
    all_goals
      go_ret
      exact ⟨rfl, hb1⟩
  · by_cases h2 : 50 < m
    · clear h
      go_enter Try.func5, Try.ntmps5
      go_wp2_with (first | (go_at_call 6; refine (alive_any _).mono ?_; rintro e w1 ⟨rfl, hb1⟩) | (go_at_call 7; refine (great_no A none n c 0 0 _ (by omega) (by omega)).mono ?_; rintro e w' ⟨rfl, rfl⟩))
      all_goals
        go_ret
        exact ⟨rfl, hb1⟩
    · by_cases h3 : x < 0
      · clear h
        go_enter Try.func5, Try.ntmps5
        go_wp2_with (first | (go_at_call 6; refine (alive_any _).mono ?_; rintro e w1 ⟨rfl, hb1⟩) | (go_at_call 7; refine (great_no A none n c 0 0 _ (by omega) (by omega)).mono ?_; rintro e w' ⟨rfl, rfl⟩))
        all_goals
          go_ret
          exact ⟨rfl, hb1⟩
      · have h4 : 5000 < x := by omega
        clear h
        go_enter Try.func5, Try.ntmps5
        go_wp2_with (first | (go_at_call 6; refine (alive_any _).mono ?_; rintro e w1 ⟨rfl, hb1⟩) | (go_at_call 7; refine (great_no A none n c 0 0 _ (by omega) (by omega)).mono ?_; rintro e w' ⟨rfl, rfl⟩))
        all_goals
          go_ret
          exact ⟨rfl, hb1⟩

set_option maxRecDepth 100000 in
set_option maxHeartbeats 4000000 in
theorem adds_law (A T : Option Addr) (n c m d : Nat) (xs : List Nat) (l : List Int) (x : Int) (w : World) (hx : Sl w w.heap.size .u64 A (nI xs)) (ht : Sl w w.heap.size .i64 T l) (hn : xs.length = n) (hm : l.length = m) (hc : n ≤ c) (hc2 : c ≤ 9223372036854775807) (hmm : m ≤ 9223372036854775807) (wx : W64 xs) (hl : ∀ z ∈ l, -9223372036854775808 ≤ z ∧ z ≤ 9223372036854775807) (hxb : -9223372036854775808 ≤ x ∧ x ≤ 9223372036854775807) :
    Calls Try.prog 5 #[.slice A n c, .slice T m d, .int .i64 x] w fun e w' => e = .returned (.bool true) ∧ Below w.heap.size w w' := by
  by_cases hfar : 100 < n ∨ 50 < m ∨ x < 0 ∨ 5000 < x
  · exact adds_far A T n c m d x w (by omega) hmm hxb hfar
  · obtain ⟨k, rfl⟩ : ∃ k : Nat, x = k := ⟨x.toNat, by omega⟩
    have hn100 : n ≤ 100 := by omega
    have hm50 : m ≤ 50 := by omega
    have hk5 : k ≤ 5000 := by omega
    have WJ := hide (show W64 (joinL [xs, ofL l]) from joinL_w64 fun y hy => by
      simp only [List.mem_cons, List.not_mem_nil, or_false] at hy
      rcases hy with rfl | rfl
      · exact wx
      · exact ofL_w64 l)
    have WW := hide (withoutL_w64 wx l)
    have lj : (joinL [xs, ofL l]).length ≤ 200 := joinL_le (by have := ofL_len l; simp [maxLenL]; omega)
    have lw : (withoutL xs l).length ≤ 200 := by have := withoutL_len xs l; omega
    obtain ⟨b0, hb0⟩ : ∃ b, hasB xs (k : Int) = b := ⟨_, rfl⟩
    have E1 := hide hb0
    have E2' := hide (hasB_with xs l k)
    have E3' := hide (hasB_without wx l k)
    have HX := hide hx
    have HT := hide ht
    have HN := hide hn
    have HM := hide hm
    have WX := hide wx
    have HL := hide hl
    clear hx ht hn hm wx hl hb0 hfar
    go_enter Try.func5, Try.ntmps5
    go_wp2_with (first | (go_at_call 6; refine (alive_any _).mono ?_; rintro e w1 ⟨rfl, hb1⟩) | (go_at_call 7; refine (great_no A none n c 0 0 _ (by omega) (by omega)).mono ?_; rintro e w' ⟨rfl, rfl⟩))
    go_loopw [7, 8] (fun v i wr => ∃ (j : Nat) (b : Bool), j ≤ m ∧ i = .int .i64 (j : Int) ∧ v = .bool b ∧ Hid (b = decide ((k : Int) ∈ l.take j)) ∧ Below w.heap.size w wr) (fun _ i _ => m - (intOf i).toNat)
    case atStart => exact ⟨0, false, Nat.zero_le _, rfl, rfl, hide (by simp), hb1⟩
    case round =>
      clear hb1
      obtain ⟨j, b, hj, rfl, rfl, hb', hb⟩ := hrel
      by_cases hlt : j < m
      · have hjl : j < l.length := by have := HM.out; omega
        obtain ⟨bl, o, rfl, hbB, hcell⟩ := HT.out (by omega)
        obtain ⟨z, hz⟩ : ∃ z, l[j]? = some z := ⟨_, List.getElem?_eq_getElem hjl⟩
        have g1 : wr.cell? ⟨bl, o + j, none⟩ = some (.int .i64 z) := by rw [hb.cell hbB, hcell j hjl]; simp [List.getD, hz]
        have hsn := hide (show decide ((k : Int) ∈ l.take (j + 1)) = (b || decide (z = (k : Int))) by
          have h2 : ((k : Int) ∈ l.take j ++ [z]) ↔ ((k : Int) ∈ l.take j ∨ z = (k : Int)) := by
            rw [List.mem_append, List.mem_singleton]
            exact or_congr Iff.rfl ⟨fun h => h.symm, fun h => h.symm⟩
          rw [List.take_add_one, hz, hb'.out, Bool.eq_iff_iff, Option.toList_some, Bool.or_eq_true, decide_eq_true_eq, decide_eq_true_eq, decide_eq_true_eq]
          exact h2)
        clear hcell hjl hz
        cases b
        · by_cases hzk : z = (k : Int)
          · have hzb : (z == (k : Int)) = true := by simpa using hzk
            have hs2 := hide (show true = decide ((k : Int) ∈ l.take (j + 1)) by rw [hsn.out]; simpa using hzk)
            clear hzk
            go_wp2
            go_roundw
            case rel => exact ⟨j + 1, true, by omega, by go_num, rfl, hs2, hb⟩
            case measure => simp [intOf]; omega
          · have hzb : (z == (k : Int)) = false := by simpa using hzk
            have hs2 := hide (show false = decide ((k : Int) ∈ l.take (j + 1)) by rw [hsn.out]; simpa using hzk)
            clear hzk
            go_wp2
            go_roundw
            case rel => exact ⟨j + 1, false, by omega, by go_num, rfl, hs2, hb⟩
            case measure => simp [intOf]; omega
        · have hs2 := hide (show true = decide ((k : Int) ∈ l.take (j + 1)) by rw [hsn.out]; rfl)
          go_wp2
          go_roundw
          case rel => exact ⟨j + 1, true, by omega, by go_num, rfl, hs2, hb⟩
          case measure => simp [intOf]; omega
      · have hin : b = decide ((k : Int) ∈ l) := by rw [hb'.out, List.take_of_length_le (by have := HM.out; omega)]
        have HI := hide hin
        clear hin
        cases b
        · have hni : ¬ (k : Int) ∈ l := by simpa using HI.out.symm
          have E2 := hide (show hasB (joinL [xs, ofL l]) (k : Int) = b0 by rw [E2'.out, E1.out]; simp [hni])
          have E3 := hide (show hasB (withoutL xs l) (k : Int) = b0 by rw [E3'.out, E1.out]; simp [hni])
          clear hni
          go_wp2_with (first
            | (go_at_call 20; refine (with_any A T n c m d xs l wr (good_of ((HX.out.below hb).more hb.size) WX.out HN.out hc hc2) HN.out (by omega) ((HT.out.below hb).more hb.size) HM.out (by omega) HL.out).mono ?_; rintro e w2 ⟨A2, c2', rfl, -, -, hs2, hb2⟩; have HS2 := hide hs2; clear hs2; have z2 := hb.trans (hb2.mono hb.size))
            | (go_at_call 21; refine (without_any A T n c m d xs l w2 ((HX.out.below z2).more z2.size) HN.out (by omega) WX.out ((HT.out.below z2).more z2.size) HM.out (by omega) HL.out).mono ?_; rintro e w3 ⟨A3, c3', rfl, -, -, hs3, hb3⟩; have HS3 := hide hs3; clear hs3; have z3 := z2.trans (hb3.mono z2.size))
            | (go_at_call_of 22 A2; refine (has_any A2 _ c2' (joinL [xs, ofL l]) (k : Int) _ _ (by first | exact HS2.out.below hb3 | exact (HS2.out.below hb3).drewN _) rfl (by omega) WJ.out (by omega)).mono ?_; rw [E2.out]; rintro e w' ⟨rfl, q2, rfl⟩)
            | (go_at_call_of 22 A3; refine (has_any A3 _ c3' (withoutL xs l) (k : Int) _ _ (by first | exact HS3.out | exact HS3.out.drewN _) rfl (by omega) WW.out (by omega)).mono ?_; rw [E3.out]; rintro e w' ⟨rfl, q3, rfl⟩)
            | (go_at_call_of 22 A; refine (has_any A n c xs (k : Int) _ _ (by first | exact HX.out.below z3 | exact (HX.out.below z3).drewN _) HN.out (by omega) WX.out (by omega)).mono ?_; rw [E1.out]; rintro e w' ⟨rfl, q1, rfl⟩))
          all_goals
            go_ret
            exact ⟨rfl, by first | exact z3 | exact below_drewN z3 _⟩
        · have hi : (k : Int) ∈ l := by simpa using HI.out.symm
          have E3 := hide (show hasB (withoutL xs l) (k : Int) = false by rw [E3'.out]; simp [hi])
          by_cases h4 : k < 4096
          · have E2 := hide (show hasB (joinL [xs, ofL l]) (k : Int) = true by rw [E2'.out]; simp [hi, h4])
            clear hi
            go_wp2_with (first
              | (go_at_call 20; refine (with_any A T n c m d xs l wr (good_of ((HX.out.below hb).more hb.size) WX.out HN.out hc hc2) HN.out (by omega) ((HT.out.below hb).more hb.size) HM.out (by omega) HL.out).mono ?_; rintro e w2 ⟨A2, c2', rfl, -, -, hs2, hb2⟩; have HS2 := hide hs2; clear hs2; have z2 := hb.trans (hb2.mono hb.size))
              | (go_at_call 21; refine (without_any A T n c m d xs l w2 ((HX.out.below z2).more z2.size) HN.out (by omega) WX.out ((HT.out.below z2).more z2.size) HM.out (by omega) HL.out).mono ?_; rintro e w3 ⟨A3, c3', rfl, -, -, hs3, hb3⟩; have HS3 := hide hs3; clear hs3; have z3 := z2.trans (hb3.mono z2.size))
              | (go_at_call_of 22 A2; refine (has_any A2 _ c2' (joinL [xs, ofL l]) (k : Int) _ _ (by first | exact HS2.out.below hb3 | exact (HS2.out.below hb3).drewN _) rfl (by omega) WJ.out (by omega)).mono ?_; rw [E2.out]; rintro e w' ⟨rfl, q2, rfl⟩)
              | (go_at_call_of 22 A3; refine (has_any A3 _ c3' (withoutL xs l) (k : Int) _ _ (by first | exact HS3.out | exact HS3.out.drewN _) rfl (by omega) WW.out (by omega)).mono ?_; rw [E3.out]; rintro e w' ⟨rfl, q3, rfl⟩)
              | (go_at_call_of 22 A; refine (has_any A n c xs (k : Int) _ _ (by first | exact HX.out.below z3 | exact (HX.out.below z3).drewN _) HN.out (by omega) WX.out (by omega)).mono ?_; rw [E1.out]; rintro e w' ⟨rfl, q1, rfl⟩))
            all_goals
              go_ret
              exact ⟨rfl, by first | exact z3 | exact below_drewN z3 _⟩
          · have E2 := hide (show hasB (joinL [xs, ofL l]) (k : Int) = b0 by rw [E2'.out, E1.out]; simp [h4])
            clear hi
            go_wp2_with (first
              | (go_at_call 20; refine (with_any A T n c m d xs l wr (good_of ((HX.out.below hb).more hb.size) WX.out HN.out hc hc2) HN.out (by omega) ((HT.out.below hb).more hb.size) HM.out (by omega) HL.out).mono ?_; rintro e w2 ⟨A2, c2', rfl, -, -, hs2, hb2⟩; have HS2 := hide hs2; clear hs2; have z2 := hb.trans (hb2.mono hb.size))
              | (go_at_call 21; refine (without_any A T n c m d xs l w2 ((HX.out.below z2).more z2.size) HN.out (by omega) WX.out ((HT.out.below z2).more z2.size) HM.out (by omega) HL.out).mono ?_; rintro e w3 ⟨A3, c3', rfl, -, -, hs3, hb3⟩; have HS3 := hide hs3; clear hs3; have z3 := z2.trans (hb3.mono z2.size))
              | (go_at_call_of 22 A2; refine (has_any A2 _ c2' (joinL [xs, ofL l]) (k : Int) _ _ (by first | exact HS2.out.below hb3 | exact (HS2.out.below hb3).drewN _) rfl (by omega) WJ.out (by omega)).mono ?_; rw [E2.out]; rintro e w' ⟨rfl, q2, rfl⟩)
              | (go_at_call_of 22 A3; refine (has_any A3 _ c3' (withoutL xs l) (k : Int) _ _ (by first | exact HS3.out | exact HS3.out.drewN _) rfl (by omega) WW.out (by omega)).mono ?_; rw [E3.out]; rintro e w' ⟨rfl, q3, rfl⟩)
              | (go_at_call_of 22 A; refine (has_any A n c xs (k : Int) _ _ (by first | exact HX.out.below z3 | exact (HX.out.below z3).drewN _) HN.out (by omega) WX.out (by omega)).mono ?_; rw [E1.out]; rintro e w' ⟨rfl, q1, rfl⟩))
            all_goals
              go_ret
              exact ⟨rfl, by first | exact z3 | exact below_drewN z3 _⟩
end Go.Proofs.Ytechebecgfmplaa
