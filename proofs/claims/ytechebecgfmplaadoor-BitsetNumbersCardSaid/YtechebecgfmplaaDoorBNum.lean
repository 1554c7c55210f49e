/- The contracts of Has, Of, With, Without. No condition. -/
import Derived.Test.YtechebecgfmplaaDoorBSet
import Derived.BigQuiet
import Derived.BigRegion
import Derived.Deep.RegionHeld3
namespace Go.Proofs.YtechebecgfmplaaDoor
open Go.RowKit

theorem ql {P : Program} {f : FuncId} {args : Array Value} {w : World} {n : Nat} {v : Value} (h : Calls P f args (w.drewN n) fun e w' => e = .returned v ∧ w.drewN n = w') :
    Calls P f args (w.drewN n) fun e w'' => e = .returned v ∧ ∃ m, w'' = w.drewN m := h.mono fun _ _ ⟨he, hw⟩ => ⟨he, n, hw.symm⟩
theorem pow_cast (k : Nat) : ((2 ^ k : Nat) : Int) = (2 : Int) ^ k := by simp
theorem and_test (x k : Nat) (hx : x < 18446744073709551616) (hk : k < 64) : (bits .and .u64 (x : Int) ((2 : Int) ^ k) != 0) = x.testBit k := by
  rw [← pow_cast, u64_and_nat x _ hx (pow_lt hk), nat_bit, Nat.testBit_eq_decide_div_mod_eq]
  have hp : 0 < 2 ^ k := Nat.two_pow_pos _
  have h2 : x / 2 ^ k % 2 = 0 ∨ x / 2 ^ k % 2 = 1 := by omega
  rcases h2 with h2 | h2
  · rw [h2]; simp
  · rw [h2]; simp
    have h0 : (0 : Int) < 2 ^ k := Int.pow_pos (by decide)
    omega

set_option maxRecDepth 100000 in
theorem has_any (A : Option Addr) (n c : Nat) (ws : List Nat) (m : Int) (w : World) (B : Nat) (hr : Sl w B .u64 A (nI ws)) (hn : ws.length = n) (hmax : n ≤ 1099511627776) (hw : W64 ws) (hm : -9223372036854775808 ≤ m ∧ m ≤ 9223372036854775807) :
    Calls Tryd.prog 7 #[.slice A n c, .int .i64 m] w fun e w' => e = .returned (.bool (hasB ws m)) ∧ ∃ q, w' = w.drewN q := by
  by_cases h : m < 0 ∨ (n : Int) ≤ m / 64
  · have hf := hide (hasB_out (ws := ws) (n := m) (by rw [hn]; exact h))
    clear hr hn hw
    go_enter Tryd.func7, Tryd.ntmps7
    go_wp2
    go_quiet ((go_at_call 22; exact ql (reaches_no A n c m _ h hm (by omega))))
    go_wp2
    go_ret
    exact ⟨ret_bool hf.out.symm, _, rfl⟩
  · obtain ⟨k, rfl⟩ : ∃ k : Nat, m = k := ⟨m.toNat, by omega⟩
    have hk : k / 64 < n := by omega
    obtain ⟨b, o, rfl, -, hcell⟩ := hr (by rw [nI_len]; omega)
    have g1 : w.cell? ⟨b, o + k / 64, none⟩ = some (.int .u64 ((ws.getD (k / 64) 0 : Nat) : Int)) := by rw [hcell (k / 64) (by rw [nI_len]; omega), nI_getD]
    have ht := hide (and_test (ws.getD (k / 64) 0) (k % 64) (hw.getD _) (Nat.mod_lt _ (by omega)))
    have hb := hide (hasB_nat ws k)
    clear hr hn hw hcell h
    generalize ws.getD (k / 64) 0 = x at *
    go_enter Tryd.func7, Tryd.ntmps7
    go_wp2
    go_quiet ((first | (go_at_call 22; exact ql (reaches_yes _ n c k _ hk (by omega) (by omega))) | (go_at_call 23; exact ql (bit_any k _ (by omega)))))
    go_wp2
    go_ret
    exact ⟨ret_bool (by rw [ht.out, hb.out]), _, rfl⟩

/-- What a word becomes, as the walk spells it. -/
theorem or_spell (x k : Nat) (hx : x < 18446744073709551616) (hk : k < 64) : bits .or .u64 (x : Int) ((2 : Int) ^ k) = ((x ||| 2 ^ k : Nat) : Int) := by
  rw [← pow_cast, u64_or_nat x _ hx (pow_lt hk)]
theorem andN_spell (x k : Nat) (hx : x < 18446744073709551616) (hk : k < 64) : bits .andNot .u64 (x : Int) ((2 : Int) ^ k) = ((andN x (2 ^ k) : Nat) : Int) := by
  rw [← pow_cast, u64_andNot_nat x _ hx (pow_lt hk)]; rfl

set_option maxRecDepth 100000 in
set_option maxHeartbeats 1000000 in
theorem of_any (A : Option Addr) (n c : Nat) (l : List Int) (w : World) (hr : Sl w w.heap.size .i64 A l) (hn : l.length = n) (hmax : n ≤ 1099511627776) (hl : ∀ z ∈ l, -9223372036854775808 ≤ z ∧ z ≤ 9223372036854775807) :
    Calls Tryd.prog 11 #[.slice A n c] w (Made w (ofL l)) := by
  obtain ⟨i0, hi0, hz0, hz1, hz2⟩ := info_parts info_u64
  have HI := hide hi0
  have HN := hide hn
  have HR := hide hr
  have HL := hide hl
  clear hn hr hl hi0
  go_enter Tryd.func11, Tryd.ntmps11
  go_wp2
  go_loopw [3, 8] (fun v i wr => ∃ k : Nat, k ≤ n ∧ i = .int .i64 (k : Int) ∧ Ow wr w.heap.size 34 .u64 v (nI (putsL [] (l.take k))) ∧ Below w.heap.size w wr) (fun _ i _ => n - (intOf i).toNat)
  case atStart => exact ⟨0, Nat.zero_le _, rfl, Ow.nil _ _ _ _, Below.refl _ _⟩
  case round =>
    obtain ⟨k, hk, rfl, ho, hb⟩ := hrel
    have HO := hide ho
    clear ho
    by_cases hlt : k < n
    · have hkl : k < l.length := by have := HN.out; omega
      obtain ⟨b, o, rfl, hbB, hcell⟩ := HR.out (by omega)
      obtain ⟨z, hz⟩ : ∃ z, l[k]? = some z := ⟨_, List.getElem?_eq_getElem hkl⟩
      have g1 : wr.cell? ⟨b, o + k, none⟩ = some (.int .i64 z) := by rw [hb.cell hbB, hcell k hkl]; simp [List.getD, hz]
      have hzb := HL.out z (List.mem_of_getElem? hz)
      have hsn := hide (show putsL [] (l.take (k + 1)) = putI (putsL [] (l.take k)) z by rw [List.take_add_one, hz, Option.toList_some, putsL_snoc])
      have hsl := hide (show (putsL [] (l.take k)).length ≤ 64 from ofL_len _)
      have hsw := hide (show W64 (putsL [] (l.take k)) from ofL_w64 _)
      clear hcell hkl hz
      generalize putsL [] (l.take k) = s at *
      by_cases hv : 0 ≤ z ∧ z < 4096
      · obtain ⟨m, rfl⟩ : ∃ m : Nat, z = m := ⟨z.toNat, by omega⟩
        have hm : m < 4096 := by omega
        have hput := hide (show putI s (m : Int) = putW s m by rw [putI, if_pos hv, Int.toNat_natCast])
        clear hv hzb
        go_wp2
        go_loopw [3] (fun v2 w2 => ∃ j : Nat, Hid (s.length + j ≤ max s.length (m / 64 + 1)) ∧ Ow w2 w.heap.size 34 .u64 v2 (nI (padW s j)) ∧ Below w.heap.size w w2) (fun v2 _ => 100 - lenOf v2)
        case atStart => exact ⟨0, hide (by omega), by rw [padW_zero]; exact HO.out, hb⟩
        case round =>
          obtain ⟨j, hj, ho2, hb2⟩ := hrel
          obtain ⟨A2, c2, rfl, hc2, hcm2, -⟩ := ho2.sl
          have HO2 := hide ho2
          have hlen := hide (show (nI (padW s j)).length = s.length + j by rw [nI_len, padW_len])
          have hlb : (nI (padW s j)).length ≤ 64 := by have h1 := hlen.out; have h2 := hj.out; have h3 := hsl.out; omega
          clear ho2 hc2 hcm2
          by_cases hin : m / 64 < (nI (padW s j)).length
          · have hjx := hide (show j = m / 64 + 1 - s.length by have h1 := hlen.out; have h2 := hj.out; omega)
            have hset := hide (show (padW s j).set (m / 64) (s.getD (m / 64) 0 ||| 2 ^ (m % 64)) = putW s m by rw [putW, hjx.out])
            have hget := hide (show (nI (padW s j))[m / 64]? = some ((s.getD (m / 64) 0 : Nat) : Int) by
              rw [nI, List.getElem?_map, get_some (by rw [nI_len] at hin; exact hin), padW_getD]; rfl)
            have hxw := hsw.out.getD (m / 64)
            have hor := hide (or_spell (s.getD (m / 64) 0) (m % 64) hxw (Nat.mod_lt _ (by omega)))
            obtain ⟨g, rfl, hg1, hg2, hcell2, hfrz⟩ := HO2.out.block (by omega)
            have q1 : wr.cell? ⟨g, m / 64, none⟩ = some (.int .u64 ((s.getD (m / 64) 0 : Nat) : Int)) := hcell2 _ _ hget.out
            have q2 : wr.frozen? ⟨g, m / 64, none⟩ = false := hfrz _
            have hst := hide (HO2.out.stored (m / 64) (bits .or .u64 ((s.getD (m / 64) 0 : Nat) : Int) ((2 : Int) ^ (m % 64))))
            rw [hor.out, ← nI_set, hset.out, ← hor.out] at hst
            have hbst := hb2.setCell (p := ⟨g, m / 64, none⟩) hg1 (.int .u64 (bits .or .u64 ((s.getD (m / 64) 0 : Nat) : Int) ((2 : Int) ^ (m % 64))))
            have hyes : m / 64 < (nI (padW s j)).length := hin
            have i1 : (0 : Int) ≤ (m : Int) / 64 := by omega
            have i2 : (m : Int) / 64 < (((nI (padW s j)).length : Nat) : Int) := by omega
            clear hcell2 hfrz hget hor hset hin hjx hlen
            generalize s.getD (m / 64) 0 = x at *
            generalize (nI (padW s j)).length = len at *
            go_wp2_with (go_at_call 22; refine (reaches_yes _ _ c2 m _ hyes (by omega) (by omega)).mono ?_; rintro e w' ⟨rfl, rfl⟩)
            have e1 : (m : Int).tdiv 64 = (m : Int) / 64 := Int.tdiv_eq_ediv_of_nonneg (by omega)
            have e2 : ((m : Int) / 64).toNat = m / 64 := by omega
            have e3 : IntKind.i64.wrap ((m : Int) / 64) = (m : Int) / 64 := IntWalk.i64_in _ ⟨by omega, by omega⟩
            go_region_with (first | (go_at_call 23; refine (bit_any m _ (by omega)).mono ?_; rintro e w' ⟨rfl, rfl⟩))
            all_goals
              clear e1 e2 e3
              go_wp2
              go_roundw
              case rel => exact ⟨k + 1, by omega, by go_num, by rw [hsn.out, hput.out]; exact hst.out, hbst.drew⟩
              case measure => simp [intOf]; omega
          · have hj2 := hide (show s.length + (j + 1) ≤ max s.length (m / 64 + 1) by have h1 := hlen.out; omega)
            have hno : (((nI (padW s j)).length : Nat) : Int) ≤ (m : Int) / 64 := by omega
            have hpad := hide (show nI (padW s j) ++ [0] = nI (padW s (j + 1)) by rw [padW_succ, nI_append]; rfl)
            have hlenS := hide (show (nI (padW s (j + 1))).length = (nI (padW s j)).length + 1 by rw [nI_len, nI_len, padW_len, padW_len]; rfl)
            go_wp2_with (first
              | (go_at_call 22; refine (reaches_no A2 _ c2 (m : Int) _ (.inr hno) (by omega) (by omega)).mono ?_; rintro e w' ⟨rfl, rfl⟩)
              | (at_builtin; refine wpList_append_one _ rfl (.tmp 22) (.tmp 23) _ rfl w.heap.size 34 .u64 i0 _ 8 Tryd.underlying22 HI.out hz0 hz1 hz2 rfl (by omega) _ (nI (padW s j)) rfl HO2.out 0 rfl (by omega) hb2.size ?_; rw [hpad.out]; intro v3 w3 ho3 hb3))
            obtain ⟨A3, c3, rfl, -, -, -⟩ := ho3.sl
            go_roundw
            case rel => exact ⟨j + 1, hj2, ho3, hb2.trans hb3⟩
            case measure => simp only [lenOf]; rw [hlenS.out]; omega
      · have hput := hide (show putI s z = s by rw [putI, if_neg hv])
        have hv2 : z < 0 ∨ 4096 ≤ z := by omega
        clear hv
        rcases hv2 with hv2 | hv2
        all_goals
          go_wp2
          go_roundw
          case rel => exact ⟨k + 1, by omega, by go_num, by rw [hsn.out, hput.out]; exact HO.out, hb⟩
          case measure => simp [intOf]; omega
    · have hfull := hide (show putsL [] (l.take k) = ofL l by rw [List.take_of_length_le (by have := HN.out; omega)]; rfl)
      obtain ⟨A2, c2, rfl, hc2, hcm2, hs2⟩ := HO.out.sl
      have HS2 := hide hs2
      have HC2 := hide hcm2
      clear hcm2 hs2
      go_wp2
      go_ret
      exact ⟨A2, c2, ret_slice (by rw [nI_len, hfull.out]), by rw [← hfull.out, ← nI_len]; exact hc2, by have := HC2.out; simp only [maxLen] at this; omega, by rw [← hfull.out]; exact HS2.out, hb⟩
end Go.Proofs.YtechebecgfmplaaDoor
