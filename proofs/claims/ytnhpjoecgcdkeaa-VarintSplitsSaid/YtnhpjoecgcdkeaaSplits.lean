/- The statements VarintSplits and VarintSize, walked: they answer true. No condition (more than 200 numbers: at once). -/
import Derived.Test.YtnhpjoecgcdkeaaList
import Derived.Deep.RegionWith
namespace Go.Proofs.Ytnhpjoecgcdkeaa
open Go.RowKit

theorem keep0_snoc {zs : List Int} {k : Nat} {x : Int} (h : zs[k]? = some x) : keep0 (zs.take (k + 1)) = keep0 (zs.take k) ++ (if x < 0 then [] else [x.toNat]) := by
  rw [List.take_add_one, h, keep0, List.filterMap_append]
  by_cases h0 : x < 0 <;> simp [keep0, h0]
theorem keep0_len (zs : List Int) : (keep0 zs).length ≤ zs.length := List.length_filterMap_le _ _
theorem ints_yes (A B : Option Addr) (n m c d : Nat) (xs : List Int) (w : World) (Bx By : Nat) (hx : Sl w Bx .i64 A xs) (hy : Sl w By .i64 B xs) (hn : xs.length = n) (hm : xs.length = m) (hmax : n ≤ 1099511627776) (hmax2 : m ≤ 1099511627776) :
    Calls Try.prog 19 #[.slice A n c, .slice B m d] w fun e w' => e = .returned (.bool true) ∧ ∃ q, w' = w.drewN q :=
  (ints_any A B n m c d xs xs w Bx By hx hy hn hm hmax hmax2).mono fun e w' ⟨he, hw⟩ => ⟨by rw [he]; simp, hw⟩

set_option maxRecDepth 100000 in
set_option maxHeartbeats 400000 in
theorem splits_law (A : Option Addr) (n c : Nat) (zs : List Int) (w : World) (hr : Sl w w.heap.size .i64 A zs) (hn : zs.length = n) (hmax : n ≤ 9223372036854775807) (hz : ∀ z ∈ zs, -9223372036854775808 ≤ z ∧ z ≤ 9223372036854775807) :
    Calls Try.prog 6 #[.slice A n c] w fun e w' => e = .returned (.bool true) ∧ Below w.heap.size w w' := by
  obtain ⟨i0, hi0, hz0, hz1, hz2⟩ := info_parts info_i64
  have HI := hide hi0
  have HR := hide hr
  have HN := hide hn
  have HZ := hide hz
  clear hr hn hz hi0
  by_cases h200 : 200 < n
  · go_enter Try.func6, Try.ntmps6
    go_wp2_with (go_at_call 7; refine (alive_any _).mono ?_; rintro e w1 ⟨rfl, hb1⟩)
    go_ret
    exact ⟨rfl, hb1⟩
  · go_enter Try.func6, Try.ntmps6
    go_wp2_with (go_at_call 7; refine (alive_any _).mono ?_; rintro e w1 ⟨rfl, hb1⟩)
    go_loopw [3, 4] (fun v i wr => ∃ k : Nat, i = .int .i64 k ∧ k ≤ n ∧ Ow wr w.heap.size 3 .i64 v (natsI (keep0 (zs.take k))) ∧ Below w.heap.size w wr) (fun _ i _ => n - (intOf i).toNat)
    case atStart => exact ⟨0, rfl, Nat.zero_le _, Ow.nil _ _ _ _, hb1⟩
    case round =>
      clear hb1
      obtain ⟨k, rfl, hk, ho, hb⟩ := hrel
      have HO := hide ho
      clear ho
      by_cases hlt : k < n
      · obtain ⟨b, o, rfl, hbb, hc⟩ := HR.out (by have := HN.out; omega)
        have hlz : k < zs.length := by have := HN.out; omega
        obtain ⟨x, hx⟩ : ∃ x, zs[k]? = some x := ⟨_, List.getElem?_eq_getElem hlz⟩
        have hcx : wr.cell? ⟨b, o + k, none⟩ = some (.int .i64 x) := by rw [hb.cell hbb, hc k hlz]; simp [List.getD, hx]
        have hxb := HZ.out x (List.mem_of_getElem? hx)
        have hsn := hide (keep0_snoc hx)
        have hlen : (natsI (keep0 (zs.take k))).length ≤ k := by
          have := keep0_len (zs.take k)
          simp [natsI] at this ⊢; omega
        clear hc hlz hx
        by_cases h0 : x < 0
        · go_wp2
          go_roundw
          case rel => exact ⟨k + 1, by go_num, by omega, by rw [hsn.out, if_pos h0, List.append_nil]; exact HO.out, hb⟩
          case measure => simp [intOf]; omega
        · obtain ⟨m, rfl⟩ : ∃ m : Nat, x = m := ⟨x.toNat, by omega⟩
          go_wp2_with (at_builtin; refine wpList_append_one _ rfl (.tmp 23) (.tmp 28) _ rfl w.heap.size 3 .i64 i0 _ 8 Try.underlying32 HI.out hz0 hz1 hz2 rfl (by omega) _ (natsI (keep0 (zs.take k))) rfl HO.out _ rfl (by omega) hb.size ?_; intro v1 w1 ho1 hb1)
          go_roundw
          case rel => exact ⟨k + 1, by go_num, by omega, by rw [hsn.out, if_neg h0, natsI, List.map_append]; exact ho1, hb.trans hb1⟩
          case measure => simp [intOf]; omega
      · obtain ⟨A2, c2, hv2, hc2, hcm2, hs2⟩ := HO.out.sl
        subst hv2
        have HS2 := hide hs2
        have hfull : zs.take k = zs := List.take_of_length_le (by have := HN.out; omega)
        have HF := hide hfull
        have hk0 : (keep0 zs).length ≤ 200 := by
          have h1 := keep0_len zs; have h2 := HN.out; omega
        have hel : (encN (keep0 zs)).length ≤ 1800 := by
          rw [← encL_keep]
          have h1 := encL_len zs (fun z hz => (HZ.out z hz).2); have h2 := HN.out; omega
        have hm63 : ∀ m ∈ keep0 zs, m < 9223372036854775808 := fun m hm => by
          obtain ⟨z, hz, h⟩ := List.mem_filterMap.1 hm
          have := HZ.out z hz
          split at h
          · simp at h
          · injection h with h; omega
        have HM := hide hm63
        clear hs2 hfull hm63 hcm2
        go_wp2_with (first | (go_at_call 17; refine (list_any A n c zs _ ((HR.out.below hb).more hb.size) HN.out (by omega) HZ.out).mono ?_; rw [encL_keep]; rintro e w2 ⟨v3, rfl, ho3, hb3⟩; obtain ⟨A3, c3, rfl, hc3, hcm3, hs3⟩ := ho3.sl; have HS3 := hide hs3; have HC3 := hide hcm3; clear ho3 hs3 hcm3; have hb4 := hb.trans (hb3.mono hb.size)) | (go_at_call 18; refine (split_any A3 _ c3 (keep0 zs) w2 HS3.out rfl hc3 (by have := HC3.out; simp only [maxLen] at this; omega) (by omega) (by omega) HM.out).mono ?_; rintro e w5 ⟨v5, rfl, ho5, hb5⟩; obtain ⟨A5, c5, rfl, hc5, -, hs5⟩ := ho5.sl; have HS5 := hide hs5; clear ho5 hs5; have hb6 := hb4.trans (hb5.mono hb4.size)) | (go_at_call 19; refine (ints_yes A5 A2 _ _ c5 c2 (natsI (keep0 zs)) w5 _ _ HS5.out (by have := (HS2.out.below hb3).below (hb5.mono hb3.size); rw [HF.out] at this; exact this) (by simp) (by rw [HF.out]) (by simp [natsI]; omega) (by rw [HF.out]; simp [natsI]; omega)).mono ?_; rintro e w' ⟨rfl, q, rfl⟩; have hb7 := below_drewN hb6 q))
        go_ret
        exact ⟨rfl, hb7⟩
end Go.Proofs.Ytnhpjoecgcdkeaa
