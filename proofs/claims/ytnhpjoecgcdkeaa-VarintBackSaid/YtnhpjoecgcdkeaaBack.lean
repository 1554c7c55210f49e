/- The statement VarintBack, walked: it answers true. No condition (more than 2000 bytes: at once). -/
import Derived.Test.YtnhpjoecgcdkeaaPuts
import Derived.Deep.RegionWith
import Derived.Deep.DeepCutAuto
namespace Go.Proofs.Ytnhpjoecgcdkeaa
open Go.RowKit

/-- What is put, and other bytes behind it, is got: as the contracts of Get spell it. -/
theorem rd_putU (most m : Nat) (zs : List Int) (hm : most ≤ 10) (hl : (enc m).length ≤ most) (h64 : m < 18446744073709551616) : rd most 0 0 (enc m ++ zs) = (m, (enc m).length, 0) := by
  rw [rd_enc most hm zs m m 0 0 (Nat.le_refl _) (by omega) (by omega) (by simpa using h64)]
  simp

/-- What is got has just those bytes: the number, and how many. -/
theorem rd_got {most : Nat} {zs : List Int} (hby : ∀ z ∈ zs, 0 ≤ z ∧ z ≤ 255) (h : (rd most 0 0 zs).2.2 = 0) :
    ∃ v, rd most 0 0 zs = (v, (enc v).length, 0) ∧ (enc v).length ≤ most ∧ (enc v).length ≤ zs.length ∧ zs.take (enc v).length = enc v := by
  obtain ⟨v, e1, e2, e3, e4, e5, -⟩ := rd_back most zs 0 0 hby h
  refine ⟨v, ?_, by omega, e4, e5⟩
  apply Prod.ext
  · simpa using e1
  · apply Prod.ext
    · simpa using e2
    · exact h

/-- The second and the third comparison: what was put of the number that was got, against the bytes that it was got of. -/
theorem same_cut {A A6 : Option Addr} {m n6 c c6 : Nat} {zs ys es : List Int} {W6 : World} {B : Nat} (hr : Sl W6 B .u8 A zs) (h6 : Sl W6 W6.heap.size .u8 A6 ys) (hy : ys = es) (ht : zs.take m = es) (hm : es.length = m) (hn6 : es.length = n6) (hmax : m ≤ 4611686018427387904) :
    Calls Try.prog 8 #[.slice A6 n6 c6, .slice A m c] W6 fun e w' => e = .returned (.bool true) ∧ ∃ q, w' = W6.drewN q := by
  subst hy
  exact same_yes A6 A n6 m c6 c ys W6 _ _ h6 (by have := hr.take m; rw [ht] at this; exact this) hn6 hm (by omega) hmax
theorem unz_range {u : Nat} (hu : u < 18446744073709551616) : -9223372036854775808 ≤ unz u ∧ unz u ≤ 9223372036854775807 := by
  unfold unz; split <;> omega

set_option maxRecDepth 100000 in
set_option maxHeartbeats 4000000 in
theorem back_law (x y : Int) (A : Option Addr) (n c : Nat) (zs : List Int) (w : World) (hr : Sl w w.heap.size .u8 A zs) (hn : zs.length = n) (hc : n ≤ c) (hmax : n ≤ 9223372036854775807) (hcap : c ≤ 9223372036854775807)
    (hx : -9223372036854775808 ≤ x ∧ x ≤ 9223372036854775807) (hy : -9223372036854775808 ≤ y ∧ y ≤ 9223372036854775807) (hby : ∀ z ∈ zs, 0 ≤ z ∧ z ≤ 255) :
    Calls Try.prog 4 #[.int .i64 x, .int .i64 y, .slice A n c] w fun e w' => e = .returned (.bool true) ∧ Below w.heap.size w w' := by
  obtain ⟨i0, hi0, hz0, hz1, hz2⟩ := info_parts info_u8
  have HI := hide hi0
  have HR := hide hr
  have HN := hide hn
  have HB := hide hby
  clear hr hn hby hi0
  by_cases h2000 : 2000 < n
  · go_enter Try.func4, Try.ntmps4
    go_wp2_with (go_at_call 7; refine (alive_any _).mono ?_; rintro e w1 ⟨rfl, hb1⟩)
    go_ret
    exact ⟨rfl, hb1⟩
  · have hl2 := enc_len10 (zz_lt hx)
    have HX := hide hx
    have hb2 : ∀ z ∈ enc (zz x) ++ zs, 0 ≤ z ∧ z ≤ 255 := fun z hz => (List.mem_append.1 hz).elim (enc_byte _ _ (Nat.le_refl _) z) (HB.out z)
    have HB2 := hide hb2
    have e1 := rd_putU 10 (zz x) zs (by omega) hl2 (zz_lt hx)
    have E1 := hide e1
    have U1 := hide (unz_zz x)
    clear hb2 e1
    obtain ⟨z9, s9, f9, e9⟩ : ∃ z9 s9 f9, rd 9 0 0 zs = (z9, s9, f9) := ⟨_, _, _, rfl⟩
    have hlt9 := rd_lt63 zs HB.out
    have H9 := hide (fun h => rd_got (most := 9) HB.out h)
    rw [e9] at hlt9 H9
    have E9 := hide e9
    clear e9
    simp only at hlt9 H9
    obtain ⟨z10, s10, f10, e10⟩ : ∃ z10 s10 f10, rd 10 0 0 zs = (z10, s10, f10) := ⟨_, _, _, rfl⟩
    have hlt10 := rd_lt 10 (by omega) zs 0 0 HB.out (fun _ => by simp)
    have H10 := hide (fun h => rd_got (most := 10) HB.out h)
    rw [e10] at hlt10 H10
    have E10 := hide e10
    clear e10
    simp only at hlt10 H10
    have hur := hide (unz_range hlt10)
    go_enter Try.func4, Try.ntmps4
    go_upto_if 42 with (first | (go_at_call 7; refine (alive_any _).mono ?_; rintro e w1 ⟨rfl, hb1⟩) | (go_at_call 11; refine (puts_any none 0 0 [] x w1 (Sl.nil _ _ _ _) rfl (by omega) HX.out).mono ?_; rintro e w2 ⟨v2, rfl, ho2, hb2⟩; have HO2 := hide ho2; clear ho2; have hc2 := hb1.trans (hb2.mono hb1.size)) | (at_builtin; refine wpList_append_sl _ rfl (.tmp 23) (.tmp 24) _ rfl w1.heap.size 5 .u8 i0 _ 1 Try.underlying22 HI.out hz0 hz1 hz2 rfl (by omega) v2 ([] ++ enc (zz x)) rfl HO2.out _ A n c zs rfl HN.out (HR.out.below hc2) (by simp; omega) hb2.size ?_; intro v3 w3 ho3 hb3; obtain ⟨A3, c3, rfl, hle3, hcm3, hs3⟩ := ho3.sl; have HS3 := hide hs3; have HL3 := hide hle3; clear ho3 hs3 hle3 hcm3; have hc3 := hc2.trans (hb3.mono hb1.size)) | (go_at_call 15; refine (gets_any A3 _ c3 ([] ++ enc (zz x) ++ zs) w3 _ HS3.out (by simp) (by have := HL3.out; simpa using this) (by have := HN.out; simp; omega) HB2.out).mono ?_; rw [List.nil_append, E1.out, U1.out]; rintro e w' ⟨rfl, rfl⟩))
    go_cut [10, 11, 12] (fun _ _ _ wx => Below w.heap.size w wx)
    case first =>
      by_cases hy0 : y < 0
      · go_wp2_with fail
        go_meet
        exact hc3
      · obtain ⟨m, rfl⟩ : ∃ m : Nat, y = m := ⟨y.toNat, by omega⟩
        have hl3 := enc_len9 (u := m) (by omega)
        have he := hide (show encI (m : Int) = enc m by unfold encI; rw [if_neg hy0]; simp)
        have hb3 : ∀ z ∈ encI (m : Int) ++ zs, 0 ≤ z ∧ z ≤ 255 := fun z hz => (List.mem_append.1 hz).elim (fun h => enc_byte m m (Nat.le_refl _) z (by rw [he.out] at h; exact h)) (HB.out z)
        have HB3 := hide hb3
        have e3 : rd 9 0 0 (encI (m : Int) ++ zs) = (m, (enc m).length, 0) := by rw [he.out]; exact rd_putU 9 m zs (by omega) hl3 (by omega)
        have s3 : (if (m : Int) < 0 then 0 else (enc (m : Int).toNat).length) = (enc m).length := by simp [if_neg hy0]
        have hl4 : (encI (m : Int)).length ≤ 9 := by rw [he.out]; exact hl3
        have E3 := hide e3
        have S3 := hide s3
        have HY := hide hy
        clear hb3 e3 s3
        go_wp2_with (first | (go_at_call 9; refine (put_any none 0 0 [] m w3 (Sl.nil _ _ _ _) rfl (by omega) HY.out).mono ?_; rintro e w4 ⟨v4, rfl, ho4, hb4⟩; have HO4 := hide ho4; clear ho4; have hc4 := hc3.trans (hb4.mono hc3.size)) | (at_builtin; refine wpList_append_sl _ rfl (.tmp 45) (.tmp 46) _ rfl w3.heap.size 5 .u8 i0 _ 1 Try.underlying22 HI.out hz0 hz1 hz2 rfl (by omega) v4 ([] ++ encI (m : Int)) rfl HO4.out _ A n c zs rfl HN.out (HR.out.below hc4) (by simp; omega) hb4.size ?_; intro v5 w5 ho5 hb5; obtain ⟨A5, c5, rfl, hle5, hcm5, hs5⟩ := ho5.sl; have HS5 := hide hs5; have HL5 := hide hle5; clear ho5 hs5 hle5 hcm5; have hc5 := hc4.trans (hb5.mono hc3.size)) | (go_at_call_of 16 A5; refine (get_any A5 _ c5 ([] ++ encI (m : Int) ++ zs) w5 _ HS5.out (by simp) (by have := HL5.out; simpa using this) (by have := HN.out; simp; omega) HB3.out).mono ?_; rw [List.nil_append, E3.out]; rintro e w' ⟨rfl, rfl⟩) | (go_at_call 13; refine (size_any m _ HY.out).mono ?_; rw [S3.out]; rintro e w' ⟨rfl, rfl⟩))
        go_meet
        exact hc5
    case rest =>
      have hcx := hcut
      go_upto_region 13 with ((go_at_call_of 16 A; refine (get_any A n c zs wc _ (HR.out.below hcx) HN.out hc hmax HB.out).mono ?_; rw [E9.out]; rintro e w' ⟨rfl, rfl⟩))
      go_cut [81] (fun s wx => s = .bool false ∧ Below w.heap.size w wx)
      case first =>
        by_cases hf9 : f9 = 0
        · obtain ⟨v, hv, hv9, hvl, hvt⟩ := H9.out hf9
          clear hf9
          simp only [Prod.mk.injEq] at hv
          obtain ⟨rfl, rfl, rfl⟩ := hv
          have hvn : (enc z9).length ≤ n := by have := HN.out; omega
          have HT := hide hvt
          have HV := hide (show [] ++ encI (z9 : Int) = enc z9 by unfold encI; rw [if_neg (by omega)]; simp)
          clear hvt
          go_region_with (first | (go_at_call 9; refine (put_any none 0 0 [] z9 _ (Sl.nil _ _ _ _) rfl (by omega) (by omega)).mono ?_; rintro e w6 ⟨v6, rfl, ho6, hb6⟩; obtain ⟨A6, c6, rfl, -, -, hs6⟩ := ho6.sl; have HS6 := hide hs6; clear ho6 hs6; have hc6 := hcx.drew.trans (hb6.mono hcx.size)) | (go_at_call 8; refine (same_cut (HR.out.below hc6) HS6.out HV.out HT.out rfl (by have := congrArg List.length HV.out; simp at this; omega) (by omega)).mono ?_; rintro e w' ⟨rfl, q, rfl⟩; have hc7 := below_drewN hc6 q))
          all_goals
            go_wp2_with fail
            go_meet
            exact ⟨rfl, hc7⟩
        · have hf9' : ((f9 : Int) == 0) = false := by simpa using hf9
          clear hf9
          go_quiet (fail)
          go_wp2_with fail
          go_meet
          exact ⟨rfl, below_drewN hcx _⟩
      case rest =>
        obtain ⟨rfl, hcy⟩ := hcut
        go_upto_region 16 with (go_at_call 15; refine (gets_any A n c zs wc _ (HR.out.below hcy) HN.out hc hmax HB.out).mono ?_; rw [E10.out]; rintro e w' ⟨rfl, rfl⟩)
        by_cases hf10 : f10 = 0
        · obtain ⟨v, hv, hv9, hvl, hvt⟩ := H10.out hf10
          clear hf10
          simp only [Prod.mk.injEq] at hv
          obtain ⟨rfl, rfl, rfl⟩ := hv
          have hvn : (enc z10).length ≤ n := by have := HN.out; omega
          have HT := hide hvt
          have HV := hide (show [] ++ enc (zz (unz z10)) = enc z10 by rw [zz_unz]; simp)
          clear hvt
          go_region_with (first | (go_at_call 11; refine (puts_any none 0 0 [] (unz z10) _ (Sl.nil _ _ _ _) rfl (by omega) hur.out).mono ?_; rintro e w6 ⟨v6, rfl, ho6, hb6⟩; obtain ⟨A6, c6, rfl, -, -, hs6⟩ := ho6.sl; have HS6 := hide hs6; clear ho6 hs6; have hc6 := hcy.drew.trans (hb6.mono hcy.size)) | (go_at_call 8; refine (same_cut (HR.out.below hc6) HS6.out HV.out HT.out rfl (by have := congrArg List.length HV.out; simp at this; omega) (by omega)).mono ?_; rintro e w' ⟨rfl, q, rfl⟩; have hc7 := below_drewN hc6 q))
          all_goals
            go_wp2_with fail
            go_ret
            exact ⟨rfl, hc7⟩
        · have hf10' : ((f10 : Int) == 0) = false := by simpa using hf10
          have hf10'' : ((f10 : Int) != 0) = true := by simpa using hf10
          clear hf10
          go_quiet (fail)
          go_wp2_with fail
          go_ret
          exact ⟨rfl, below_drewN hcy _⟩
end Go.Proofs.Ytnhpjoecgcdkeaa
