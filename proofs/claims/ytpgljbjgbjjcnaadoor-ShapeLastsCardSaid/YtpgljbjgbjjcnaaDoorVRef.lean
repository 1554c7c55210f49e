/- The contracts of the reference's digits, Put, PutSigned, turned, read, Get, GetSigned, Same, Ints. Condition: no more than 2^30 bytes ahead (Put). -/
import Derived.Test.YtpgljbjgbjjcnaaDoorVPut
import Derived.Deep.QuietTactic
import Derived.BigQuiet
set_option linter.unusedSimpArgs false
set_option linter.unusedVariables false
namespace Go.Proofs.YtpgljbjgbjjcnaaDoor
open Go.RowKit
set_option maxRecDepth 100000 in
theorem digits_any (m : Nat) (w : World) (hm : m < 18446744073709551616) :
    Calls Tryd.prog 108 #[.int .u64 m] w fun e w' => ∃ v', e = .returned v' ∧ Ow w' w.heap.size 5 .u8 v' (enc m) ∧ Below w.heap.size w w' := by
  obtain ⟨i0, hi0, hz0, hz1, hz2⟩ := info_parts info_u8
  have hl := enc_len10 hm
  have HI := hide hi0
  clear hi0
  go_enter Tryd.func108, Tryd.ntmps108
  go_wp2
  go_loopw [0, 3] (fun u v wr => ∃ (k : Nat) (ys : List Int), u = .int .u64 k ∧ k ≤ m ∧ Ow wr w.heap.size 5 .u8 v ys ∧ ys ++ enc k = enc m ∧ Below w.heap.size w wr) (fun u _ _ => (intOf u).toNat)
  case atStart => exact ⟨m, [], rfl, Nat.le_refl _, Ow.nil _ _ _ _, rfl, Below.refl _ _⟩
  case round =>
    obtain ⟨k, ys, rfl, hk, ho, he, hb⟩ := hrel
    have hsz : w.heap.size ≤ wr.heap.size := hb.size
    have hly : ys.length ≤ 10 := by
      have := congrArg List.length he
      simp at this; omega
    have HE := hide he
    have HW := hide ho
    clear he ho
    by_cases h128 : 128 ≤ k
    · go_wp2_with (at_builtin; refine wpList_append_one _ rfl (.tmp 6) (.tmp 11) _ rfl w.heap.size 5 .u8 i0 _ 1 Tryd.underlying27 HI.out hz0 hz1 hz2 rfl (by omega) _ ys rfl HW.out _ rfl (by omega) hsz ?_; intro v1 w1 ho1 hb1)
      go_roundw
      case rel => exact ⟨k / 128, _, by go_num, by omega, ho1, by rw [← HE.out, enc_hi (u := k) (by omega)]; simp, hb.trans hb1⟩
      case measure => simp [intOf]; omega
    · go_wp2_with (at_builtin; refine wpList_append_one _ rfl (.tmp 15) (.tmp 18) _ rfl w.heap.size 5 .u8 i0 _ 1 Tryd.underlying27 HI.out hz0 hz1 hz2 rfl (by omega) _ ys rfl HW.out _ rfl (by omega) hsz ?_; intro v1 w1 ho1 hb1)
      go_ret
      refine ⟨_, rfl, ?_, hb.trans hb1⟩
      rw [← HE.out, enc_lo (by omega)]
      exact ho1
theorem Ow.empty (w : World) (e : TypeId) (k : IntKind) : Ow (w.alloc (.cells #[] e)) w.heap.size e k (.slice (some ⟨w.heap.size, 0, none⟩) 0 0) [] :=
  ⟨by simp, .inr ⟨w.heap.size, 0, #[], rfl, Nat.le_refl _, heap_alloc_new w _, Nat.le_refl _, by simp [maxLen], by simp, by simp⟩⟩
set_option maxRecDepth 100000 in
theorem turned_any (n : Int) (w : World) (hn : -9223372036854775808 ≤ n ∧ n ≤ 9223372036854775807) :
    Calls Tryd.prog 109 #[.int .i64 n] w fun e w' => e = .returned (.int .u64 (zz n : Nat)) ∧ w = w' := by
  by_cases h : n < 0
  · have hv : (-n - 1) * 2 + 1 = (zz n : Nat) := by
      unfold zz; rw [if_pos h]; omega
    have HV := hide hv
    clear hv
    go_enter Tryd.func109, Tryd.ntmps109
    go_wp2
    go_ret
    exact ⟨ret_int (by have := HV.out; omega), rfl⟩
  · have hv : n * 2 = (zz n : Nat) := by
      unfold zz; rw [if_neg h]; omega
    have HV := hide hv
    clear hv
    go_enter Tryd.func109, Tryd.ntmps109
    go_wp2
    go_ret
    exact ⟨ret_int HV.out, rfl⟩
set_option maxRecDepth 100000 in
theorem rput_any (A : Option Addr) (n c : Nat) (zs : List Int) (x : Int) (w : World) (hr : Sl w w.heap.size .u8 A zs) (hn : zs.length = n) (hroom : n ≤ 1073741824) (hx : -9223372036854775808 ≤ x ∧ x ≤ 9223372036854775807) :
    Calls Tryd.prog 75 #[.slice A n c, .int .i64 x] w fun e w' => ∃ v, e = .returned v ∧ Ow w' w.heap.size 5 .u8 v (zs ++ encI x) ∧ Below w.heap.size w w' := by
  obtain ⟨i0, hi0, hz0, hz1, hz2⟩ := info_parts info_u8
  have HI := hide hi0
  have HN := hide hn
  have HR := hide hr
  clear hr hn hi0
  by_cases h : x < 0
  · have he := hide (show encI x = [] by unfold encI; rw [if_pos h])
    go_enter Tryd.func75, Tryd.ntmps75
    go_wp2_with (at_builtin; refine wpList_append_sl _ rfl (.tmp 6) (.tmp 7) _ rfl w.heap.size 5 .u8 i0 _ 1 Tryd.underlying27 HI.out hz0 hz1 hz2 rfl (by omega) _ [] rfl (Ow.empty w _ _) w.heap.size A n c zs rfl HN.out (HR.out.alloc (Nat.le_refl _) _) (by simp; omega) (by simp) ?_; intro v1 w1 ho1 hb1)
    go_ret
    exact ⟨_, rfl, by rw [he.out, List.append_nil]; exact ho1, ((Below.refl _ _).alloc (Nat.le_refl _) _).trans hb1⟩
  · have he := hide (show encI x = enc x.toNat by unfold encI; rw [if_neg h])
    obtain ⟨m, rfl⟩ : ∃ m : Nat, x = m := ⟨x.toNat, by omega⟩
    rw [Int.toNat_natCast] at he
    have hl := enc_len10 (u := m) (by omega)
    go_enter Tryd.func75, Tryd.ntmps75
    go_wp2_with (first | (at_builtin; refine wpList_append_sl _ rfl (.tmp 6) (.tmp 7) _ rfl w.heap.size 5 .u8 i0 _ 1 Tryd.underlying27 HI.out hz0 hz1 hz2 rfl (by omega) _ [] rfl (Ow.empty w _ _) w.heap.size A n c zs rfl HN.out (HR.out.alloc (Nat.le_refl _) _) (by simp; omega) (by simp) ?_; intro v1 w1 ho1 hb1; have HO1 := hide ho1; clear ho1) | (go_at_call 108; refine (digits_any m _ (by omega)).mono ?_; rintro e w2 ⟨v2, rfl, ho2, hb2⟩; obtain ⟨A2, c2, rfl, _, _, hs2⟩ := ho2.sl; have HO2 := hide ho2; have HS2 := hide hs2; clear ho2 hs2) | (at_builtin; refine wpList_append_sl _ rfl (.tmp 12) (.tmp 15) _ rfl w.heap.size 5 .u8 i0 _ 1 Tryd.underlying27 HI.out hz0 hz1 hz2 rfl (by omega) v1 ([] ++ zs) rfl (HO1.out.below hb2) _ A2 _ c2 (enc m) rfl rfl HS2.out (by have := HN.out; simp; omega) (by have := hb1.size; have := hb2.size; simp at *; omega) ?_; intro v3 w3 ho3 hb3))
    go_ret
    refine ⟨_, rfl, by rw [he.out]; simpa using ho3, ?_⟩
    exact (((Below.refl _ _).alloc (Nat.le_refl _) _).trans hb1).trans ((hb2.mono (by have := hb1.size; simp at this; omega)).trans hb3)
set_option maxRecDepth 100000 in
theorem rputs_any (A : Option Addr) (n c : Nat) (zs : List Int) (x : Int) (w : World) (hr : Sl w w.heap.size .u8 A zs) (hn : zs.length = n) (hroom : n ≤ 1073741824) (hx : -9223372036854775808 ≤ x ∧ x ≤ 9223372036854775807) :
    Calls Tryd.prog 76 #[.slice A n c, .int .i64 x] w fun e w' => ∃ v, e = .returned v ∧ Ow w' w.heap.size 5 .u8 v (zs ++ enc (zz x)) ∧ Below w.heap.size w w' := by
  obtain ⟨i0, hi0, hz0, hz1, hz2⟩ := info_parts info_u8
  have HI := hide hi0
  have HN := hide hn
  have HR := hide hr
  clear hr hn hi0
  obtain ⟨m, hm⟩ : ∃ m, zz x = m := ⟨_, rfl⟩
  have hzl := zz_lt hx
  have hT := turned_any x
  rw [hm] at hzl ⊢
  simp only [hm] at hT
  have HT := hide hT
  clear hm hT
  have hl := enc_len10 hzl
  go_enter Tryd.func76, Tryd.ntmps76
  go_wp2_with (first | (at_builtin; refine wpList_append_sl _ rfl (.tmp 5) (.tmp 6) _ rfl w.heap.size 5 .u8 i0 _ 1 Tryd.underlying27 HI.out hz0 hz1 hz2 rfl (by omega) _ [] rfl (Ow.empty w _ _) w.heap.size A n c zs rfl HN.out (HR.out.alloc (Nat.le_refl _) _) (by simp; omega) (by simp) ?_; intro v1 w1 ho1 hb1; have HO1 := hide ho1; clear ho1) | (go_at_call 109; refine (HT.out _ hx).mono ?_; rintro e w' ⟨rfl, rfl⟩) | (go_at_call 108; refine (digits_any m _ (by omega)).mono ?_; rintro e w2 ⟨v2, rfl, ho2, hb2⟩; obtain ⟨A2, c2, rfl, _, _, hs2⟩ := ho2.sl; have HO2 := hide ho2; have HS2 := hide hs2; clear ho2 hs2) | (at_builtin; refine wpList_append_sl _ rfl (.tmp 7) (.tmp 10) _ rfl w.heap.size 5 .u8 i0 _ 1 Tryd.underlying27 HI.out hz0 hz1 hz2 rfl (by omega) v1 ([] ++ zs) rfl (HO1.out.below hb2) _ A2 _ c2 (enc m) rfl rfl HS2.out (by have := HN.out; simp; omega) (by have := hb1.size; have := hb2.size; simp at *; omega) ?_; intro v3 w3 ho3 hb3))
  go_ret
  refine ⟨_, rfl, by simpa using ho3, ?_⟩
  exact (((Below.refl _ _).alloc (Nat.le_refl _) _).trans hb1).trans ((hb2.mono (by have := hb1.size; simp at this; omega)).trans hb3)
set_option maxRecDepth 100000 in
/-- Same: two slices of bytes hold the same. -/
theorem same_any (A B : Option Addr) (n m c d : Nat) (xs ys : List Int) (w : World) (Bx By : Nat) (hx : Sl w Bx .u8 A xs) (hy : Sl w By .u8 B ys) (hn : xs.length = n) (hm : ys.length = m) (hmax : n ≤ 4611686018427387904) (hmax2 : m ≤ 4611686018427387904) :
    Calls Tryd.prog 17 #[.slice A n c, .slice B m d] w fun e w' => e = .returned (.bool (decide (xs = ys))) ∧ ∃ q, w' = w.drewN q := by
  have HX := hide hx; have HY := hide hy; have HN := hide hn; have HM := hide hm
  clear hx hy hn hm
  by_cases hnm : n = m
  · subst hnm
    go_enter Tryd.func17, Tryd.ntmps17
    go_wp2
    go_loopw [5] (fun i wr => ∃ k q : Nat, i = .int .i64 k ∧ k ≤ n ∧ xs.take k = ys.take k ∧ wr = w.drewN q) (fun i _ => n - (intOf i).toNat)
    case atStart => exact ⟨0, 0, rfl, Nat.zero_le _, rfl, rfl⟩
    case round =>
      obtain ⟨k, q, rfl, hk, he, rfl⟩ := hrel
      have HE := hide he
      clear he
      by_cases hlt : k < n
      · obtain ⟨b, o, rfl, -, hcx⟩ := HX.out (by have := HN.out; omega)
        obtain ⟨b', o', rfl, -, hcy⟩ := HY.out (by have := HM.out; omega)
        have h1 := hcx k (by have := HN.out; omega)
        have h2 := hcy k (by have := HM.out; omega)
        have hgx : xs[k]? = some (xs.getD k 0) := by
          have := HN.out
          simp [List.getD, show k < xs.length by omega]
        have hgy : ys[k]? = some (ys.getD k 0) := by
          have := HM.out
          simp [List.getD, show k < ys.length by omega]
        obtain ⟨x, hxk⟩ : ∃ x, xs.getD k 0 = x := ⟨_, rfl⟩
        obtain ⟨y, hyk⟩ : ∃ y, ys.getD k 0 = y := ⟨_, rfl⟩
        rw [hxk] at h1 hgx
        rw [hyk] at h2 hgy
        have HGX := hide hgx; have HGY := hide hgy
        clear hcx hcy hgx hgy hxk hyk
        by_cases hxy : x = y
        · subst hxy
          go_wp2
          go_quiet (fail)
          go_wp2
          go_roundw
          case rel => exact ⟨k + 1, _, by go_num, by omega, take_step HE.out HGX.out HGY.out, rfl⟩
          case measure => simp [intOf]; omega
        · have hne := hide (decide_eq_false (show ¬ xs = ys from fun h => hxy (by have h1 := HGX.out; have h2 := HGY.out; rw [h, h2] at h1; exact (Option.some.inj h1).symm)))
          go_wp2
          go_quiet (fail)
          go_wp2
          go_ret
          exact ⟨ret_bool hne.out.symm, _, World.drewN_drewN _ _ _⟩
      · go_wp2
        go_ret
        refine ⟨?_, q, rfl⟩
        have h1 := HN.out; have h2 := HM.out; have h3 := HE.out
        rw [List.take_of_length_le (by omega), List.take_of_length_le (by omega)] at h3
        simp [h3]
  · have hne : xs ≠ ys := fun h => hnm (by have := HN.out; have := HM.out; subst h; omega)
    have hd := hide (decide_eq_false hne)
    clear hne
    go_enter Tryd.func17, Tryd.ntmps17
    go_wp2
    go_ret
    exact ⟨ret_bool hd.out.symm, 0, rfl⟩
set_option maxRecDepth 100000 in
/-- Ints: two slices of numbers hold the same. -/
theorem ints_any (A B : Option Addr) (n m c d : Nat) (xs ys : List Int) (w : World) (Bx By : Nat) (hx : Sl w Bx .i64 A xs) (hy : Sl w By .i64 B ys) (hn : xs.length = n) (hm : ys.length = m) (hmax : n ≤ 9223372036854775807) (hmax2 : m ≤ 9223372036854775807) :
    Calls Tryd.prog 35 #[.slice A n c, .slice B m d] w fun e w' => e = .returned (.bool (decide (xs = ys))) ∧ ∃ q, w' = w.drewN q := by
  have HX := hide hx; have HY := hide hy; have HN := hide hn; have HM := hide hm
  clear hx hy hn hm
  by_cases hnm : n = m
  · subst hnm
    go_enter Tryd.func35, Tryd.ntmps35
    go_wp2
    go_loopw [5] (fun i wr => ∃ k q : Nat, i = .int .i64 k ∧ k ≤ n ∧ xs.take k = ys.take k ∧ wr = w.drewN q) (fun i _ => n - (intOf i).toNat)
    case atStart => exact ⟨0, 0, rfl, Nat.zero_le _, rfl, rfl⟩
    case round =>
      obtain ⟨k, q, rfl, hk, he, rfl⟩ := hrel
      have HE := hide he
      clear he
      by_cases hlt : k < n
      · obtain ⟨b, o, rfl, -, hcx⟩ := HX.out (by have := HN.out; omega)
        obtain ⟨b', o', rfl, -, hcy⟩ := HY.out (by have := HM.out; omega)
        have h1 := hcx k (by have := HN.out; omega)
        have h2 := hcy k (by have := HM.out; omega)
        have hgx : xs[k]? = some (xs.getD k 0) := by
          have := HN.out
          simp [List.getD, show k < xs.length by omega]
        have hgy : ys[k]? = some (ys.getD k 0) := by
          have := HM.out
          simp [List.getD, show k < ys.length by omega]
        obtain ⟨x, hxk⟩ : ∃ x, xs.getD k 0 = x := ⟨_, rfl⟩
        obtain ⟨y, hyk⟩ : ∃ y, ys.getD k 0 = y := ⟨_, rfl⟩
        rw [hxk] at h1 hgx
        rw [hyk] at h2 hgy
        have HGX := hide hgx; have HGY := hide hgy
        clear hcx hcy hgx hgy hxk hyk
        by_cases hxy : x = y
        · subst hxy
          go_wp2
          go_quiet (fail)
          go_wp2
          go_roundw
          case rel => exact ⟨k + 1, _, by go_num, by omega, take_step HE.out HGX.out HGY.out, rfl⟩
          case measure => simp [intOf]; omega
        · have hne := hide (decide_eq_false (show ¬ xs = ys from fun h => hxy (by have h1 := HGX.out; have h2 := HGY.out; rw [h, h2] at h1; exact (Option.some.inj h1).symm)))
          go_wp2
          go_quiet (fail)
          go_wp2
          go_ret
          exact ⟨ret_bool hne.out.symm, _, World.drewN_drewN _ _ _⟩
      · go_wp2
        go_ret
        refine ⟨?_, q, rfl⟩
        have h1 := HN.out; have h2 := HM.out; have h3 := HE.out
        rw [List.take_of_length_le (by omega), List.take_of_length_le (by omega)] at h3
        simp [h3]
  · have hne : xs ≠ ys := fun h => hnm (by have := HN.out; have := HM.out; subst h; omega)
    have hd := hide (decide_eq_false hne)
    clear hne
    go_enter Tryd.func35, Tryd.ntmps35
    go_wp2
    go_ret
    exact ⟨ret_bool hd.out.symm, 0, rfl⟩
end Go.Proofs.YtpgljbjgbjjcnaaDoor
