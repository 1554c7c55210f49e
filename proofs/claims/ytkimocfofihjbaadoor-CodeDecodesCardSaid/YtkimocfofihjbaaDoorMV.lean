/- The contracts of varint.Get, GetSigned, place, number. No condition. -/
import Derived.Test.YtkimocfofihjbaaDoorMA
import Derived.Laws.DeepNot64
import Derived.Laws.BitsAllLaws
import Derived.Laws.CopyOwn
import Derived.OwnWalk
import Derived.Deep.QuietTactic
import Derived.BigQuiet
set_option linter.unusedSimpArgs false
set_option linter.unusedVariables false
namespace Go.Proofs.YtkimocfofihjbaaDoor
open Go.RowKit
set_option maxRecDepth 100000 in
theorem get_any (A : Option Addr) (n c : Nat) (zs : List Int) (w : World) (B : Nat) (hr : Sl w B .u8 A zs) (hn : zs.length = n) (hc : n ≤ c) (hmax : n ≤ 9223372036854775807) (hby : ∀ z ∈ zs, 0 ≤ z ∧ z ≤ 255) :
    Calls Tryd.prog 48 #[.slice A n c] w fun e w' =>
      e = .returned (.tuple #[.int .i64 (rd 9 0 0 zs).1, .int .i64 (rd 9 0 0 zs).2.1, .int .i64 (rd 9 0 0 zs).2.2]) ∧ w = w' := by
  have hlt := rd_lt63 zs hby
  have H := hide (read_any A n c 9 zs w B hr hn hc hmax (by omega) hby)
  clear hn hr hby
  generalize rd 9 0 0 zs = r at H hlt
  obtain ⟨r1, r2, r3⟩ := r
  simp only at H hlt
  go_enter Tryd.func48, Tryd.ntmps48
  go_wp2_with (go_at_call 53; refine H.out.mono ?_; rintro e w' ⟨rfl, rfl⟩)
  go_ret3
  exact ⟨rfl, rfl⟩
theorem not64 (x : Nat) (hx : x < 18446744073709551616) : bits .xor .u64 IntKind.u64.max (x : Int) = ((18446744073709551615 - x : Nat) : Int) := by
  have e : IntKind.u64.max = ((18446744073709551615 : Nat) : Int) := rfl
  rw [e, u64_xor_nat _ _ (by omega) hx]
  congr 1
  apply Nat.eq_of_testBit_eq
  intro i
  have h1 : (18446744073709551615 : Nat) = 2 ^ 64 - 1 := by decide
  have h2 : 18446744073709551615 - x = 2 ^ 64 - (x + 1) := by omega
  rw [h2, h1, Nat.testBit_xor, Nat.testBit_two_pow_sub_one, Nat.testBit_two_pow_sub_succ (by omega)]
  by_cases hi : i < 64
  · simp [hi]
  · have : x.testBit i = false := Nat.testBit_lt_two_pow (Nat.lt_of_lt_of_le (show x < 2 ^ 64 by omega) (Nat.pow_le_pow_right (by omega) (by omega)))
    simp [hi, this]
set_option maxRecDepth 100000 in
theorem number_any (u : Nat) (w : World) (hu : u < 18446744073709551616) :
    Calls Tryd.prog 57 #[.int .u64 u] w fun e w' => e = .returned (.int .i64 (unz u)) ∧ w = w' := by
  by_cases h : u % 2 = 1
  · have hv : unz u = bits .xor .i64 (-1) ((u : Int) / 2) := by
      unfold unz; rw [if_pos h]
      have e : (u : Int) / 2 = ((u / 2 : Nat) : Int) := by omega
      rw [e, i64_not _ (by omega)]; omega
    have HV := hide hv
    have h2 : ((u : Int) % 2 == 1) = true := by simp; omega
    clear hv h
    go_enter Tryd.func57, Tryd.ntmps57
    go_wp2
    go_ret
    exact ⟨ret_int HV.out.symm, rfl⟩
  · have hv : unz u = (u : Int) / 2 := by
      unfold unz; rw [if_neg h]; omega
    have HV := hide hv
    have h2 : ((u : Int) % 2 == 1) = false := by simp; omega
    clear hv h
    go_enter Tryd.func57, Tryd.ntmps57
    go_wp2
    go_ret
    exact ⟨ret_int HV.out.symm, rfl⟩
set_option maxRecDepth 100000 in
theorem place_any (n : Int) (w : World) (hn : -9223372036854775808 ≤ n ∧ n ≤ 9223372036854775807) :
    Calls Tryd.prog 59 #[.int .i64 n] w fun e w' => e = .returned (.int .u64 (zz n : Nat)) ∧ w = w' := by
  by_cases h : n < 0
  · have hw : IntKind.u64.wrap n = n + 18446744073709551616 := by rw [IntKind.wrap_u64]; omega
    have hw2 : IntKind.u64.wrap ((n + 18446744073709551616) * 2) = ((n * 2 + 18446744073709551616).toNat : Int) := by rw [IntKind.wrap_u64]; omega
    have hv : bits .xor .u64 IntKind.u64.max (IntKind.u64.wrap (IntKind.u64.wrap n * 2)) = (zz n : Nat) := by
      rw [hw, hw2, not64 _ (by omega)]
      unfold zz; rw [if_pos h]; omega
    have HV := hide hv
    clear hv hw hw2
    go_enter Tryd.func59, Tryd.ntmps59
    go_wp2
    go_ret
    exact ⟨ret_int HV.out, rfl⟩
  · have hv : n * 2 = (zz n : Nat) := by
      unfold zz; rw [if_neg h]; omega
    have HV := hide hv
    clear hv
    go_enter Tryd.func59, Tryd.ntmps59
    go_wp2
    go_ret
    exact ⟨ret_int HV.out, rfl⟩
set_option maxRecDepth 100000 in
theorem gets_any (A : Option Addr) (n c : Nat) (zs : List Int) (w : World) (B : Nat) (hr : Sl w B .u8 A zs) (hn : zs.length = n) (hc : n ≤ c) (hmax : n ≤ 9223372036854775807) (hby : ∀ z ∈ zs, 0 ≤ z ∧ z ≤ 255) :
    Calls Tryd.prog 54 #[.slice A n c] w fun e w' =>
      e = .returned (.tuple #[.int .i64 (unz (rd 10 0 0 zs).1), .int .i64 (rd 10 0 0 zs).2.1, .int .i64 (rd 10 0 0 zs).2.2]) ∧ w = w' := by
  have hlt := rd_lt 10 (by omega) zs 0 0 hby (fun _ => by simp)
  have H := hide (read_any A n c 10 zs w B hr hn hc hmax (by omega) hby)
  clear hn hr hby
  generalize rd 10 0 0 zs = r at H hlt
  obtain ⟨r1, r2, r3⟩ := r
  simp only at H hlt
  go_enter Tryd.func54, Tryd.ntmps54
  go_wp2_with (first | (go_at_call 53; refine H.out.mono ?_; rintro e w' ⟨rfl, rfl⟩) | (go_at_call 57; refine (number_any _ _ hlt).mono ?_; rintro e w' ⟨rfl, rfl⟩))
  go_ret3
  exact ⟨rfl, rfl⟩
end Go.Proofs.YtkimocfofihjbaaDoor
namespace Go.Proofs.YtkimocfofihjbaaDoor
open Go.RowKit
theorem info_u8 : (Tryd.prog.info? 5).map (fun i => (i.zero, i.size, i.bytes)) = some (some (.int .u8 0), 1, 1) := by kernel_rfl
theorem size_u8 : (Tryd.prog.info? 5).map (·.size) = some 1 := by kernel_rfl
/-- A byte of a number, as lay spells it. -/
theorem or128 (u : Nat) : bits .or .u8 ((u : Int) % 256) 128 = ((u % 128 + 128 : Nat) : Int) := by
  have e : (u : Int) % 256 = ((u % 256 : Nat) : Int) := by omega
  have e2 : (128 : Int) = ((128 : Nat) : Int) := rfl
  rw [e, e2, u8_or_nat _ _ (by omega) (by omega)]
  congr 1
  have h1 : u % 256 % 128 = u % 128 := by omega
  have h : u % 256 = 128 * (u % 256 / 128) + u % 128 := by omega
  have h2 : u % 256 / 128 = 0 ∨ u % 256 / 128 = 1 := by omega
  have hj : 2 ^ 7 * 1 + u % 128 = 2 ^ 7 * 1 ||| u % 128 := Nat.two_pow_add_eq_or_of_lt (by omega) 1
  rcases h2 with h2 | h2
  · rw [h2] at h
    rw [h, Nat.or_comm]
    simp at hj ⊢
    omega
  · rw [h2] at h
    have e3 : u % 256 = 128 ||| u % 128 := by simp at hj; omega
    rw [e3, Nat.or_comm, ← Nat.or_assoc, Nat.or_self]
    simp at hj; omega
/-- A slice of so many zeros, of which some are written. -/
theorem Ow.of_row {w : World} {base g n cap : Nat} {e : TypeId} {k : IntKind} {cur : List Value} {zs : List Int} (hg : base ≤ g) (hh : w.heap[g]? = some (.cells cur.toArray e (0, 0))) (hn : zs.length = n) (hc : n ≤ cap) (hm : cap ≤ maxLen)
    (hs : cur.length = cap) (ht : cur.take n = zs.map (Value.int k)) : Ow w base e k (.slice (some ⟨g, 0, none⟩) n cap) zs := by
  subst hn
  refine ⟨by simp, .inr ⟨g, cap, cur.toArray, rfl, hg, hh, hc, hm, by simpa using hs, by simpa using ht⟩⟩
set_option maxRecDepth 100000 in
theorem fresh_any (A : Option Addr) (n c : Nat) (zs : List Int) (w : World) (hr : Sl w w.heap.size .u8 A zs) (hn : zs.length = n) (hroom : n ≤ 1073741824) :
    Calls Tryd.prog 58 #[.slice A n c] w fun e w' => ∃ v, e = .returned v ∧ Ow w' w.heap.size 5 .u8 v zs ∧ Below w.heap.size w w' := by
  obtain ⟨i0, hi0, hz0, hz1, hz2⟩ := info_parts info_u8
  have hmk : ∀ W : World, (Instr.makeSlice 22 (.int .i64 (n : Int)) (.int .i64 ((n : Int) + 10))).run Tryd.prog W = .ok (.slice (some ⟨W.heap.size, 0, none⟩) n (n + 10)) (W.alloc (.cells (List.replicate (n + 10) (Value.int .u8 0)).toArray 5)) := by
    intro W
    have h := run_make (P := Tryd.prog) W 22 5 i0 _ Tryd.underlying22 hi0 hz0 .i64 .i64 n ((n : Int) + 10) (by omega) (by omega) (by rw [hz2]; omega) (by omega)
    have e1 : ((n : Int) + 10).toNat = n + 10 := by omega
    have e2 : madeCells (Value.cells (.int .u8 0)) (n + 10) = (List.replicate (n + 10) (Value.int .u8 0)).toArray := by
      apply Array.ext (by simp [madeCells])
      intro i h1 h2
      simp [madeCells, Value.cells, Nat.mod_one]
    rw [e1, hz1, Nat.mul_one, Int.toNat_natCast, e2] at h
    exact h
  have HN := hide hn
  have HR := hide hr
  clear hn hr
  obtain ⟨Z, hZ⟩ : ∃ Z, List.replicate (n + 10) (Value.int .u8 0) = Z := ⟨_, rfl⟩
  rw [hZ] at hmk
  have hZl := hide (show Z.length = n + 10 by rw [← hZ]; simp)
  obtain ⟨X, hX⟩ : ∃ X, zs.map (Value.int .u8) = X := ⟨_, rfl⟩
  have HX := hide hX
  clear hZ hX
  go_enter Tryd.func58, Tryd.ntmps58
  go_wp2_with (with_reducible refine wpList_copy_splice rfl (.tmp 10) (.tmp 11) _ _ rfl 5 Tryd.underlying22 size_u8 (some ⟨w.heap.size, 0, none⟩) A n (n + 10) n c rfl rfl w.heap.size 0 Z 5 (heap_alloc_new w _) X (by have := HX.out; have := HN.out; subst_vars; simp) (fun hp => ⟨rfl, ?_⟩) ?_ (by have := HX.out; subst_vars; exact ints_one _ _) w.heap.size w ((Below.refl _ _).alloc (Nat.le_refl _) _) (Nat.le_refl _) ?_)
  · have h := HR.out (by have := HX.out; subst_vars; simpa using hp)
    obtain ⟨b, o, rfl, hb, hc⟩ := h
    refine ⟨_, rfl, fun j v hj => ?_⟩
    have hX := HX.out
    subst hX
    obtain ⟨hj', rfl⟩ := List.getElem?_eq_some_iff.1 hj
    rw [List.length_map] at hj'
    rw [Addr.add_lit, World.cell?_alloc_lt _ _ _ hb, hc j hj']
    simp [List.getD, hj']
  · have h1 := HX.out; have h2 := HN.out; have h3 := hZl.out
    subst h1
    simp; omega
  · intro w2 hg2 hb2
    go_wp2
    go_ret
    have h1 := HX.out; have h2 := HN.out; have h3 := hZl.out
    subst h1
    refine ⟨_, rfl, Ow.of_row (Nat.le_refl _) hg2.out h2 (by omega) (by simp only [maxLen]; omega) (by rw [length_splice _ _ _ (by simp; omega)]; exact h3) ?_, hb2⟩
    simp [splice, ← h2]
/-- A value that the function hands back. -/
theorem ow_room {w w' : World} {base : Nat} {v : Value} {zs : List Int} (h : Ow w base 5 .u8 v zs) (hb : Below base w w') : base ≤ w'.heap.size ∨ v = .slice none 0 0 := by
  rcases h.2 with ⟨h2, _⟩ | ⟨g, cap, cur, _, hg, hh, _⟩
  · exact .inr h2
  · have := (Array.getElem?_eq_some_iff.1 hh).1
    have := hb.size
    exact .inl (by omega)
set_option maxRecDepth 100000 in
theorem lay_any (m : Nat) (v : Value) (zs : List Int) (w : World) (base : Nat) (hown : Ow w base 5 .u8 v zs) (hbase : base ≤ w.heap.size) (hm : m < 18446744073709551616) (hroom : zs.length ≤ 1073741824) :
    Calls Tryd.prog 51 #[v, .int .u64 m] w fun e w' => ∃ v', e = .returned v' ∧ Ow w' base 5 .u8 v' (zs ++ enc m) ∧ Below base w w' := by
  obtain ⟨i0, hi0, hz0, hz1, hz2⟩ := info_parts info_u8
  have hl := enc_len10 hm
  have HO := hide hown
  have HI := hide hi0
  clear hown hi0
  go_enter Tryd.func51, Tryd.ntmps51
  go_wp2
  go_loopw [0, 1] (fun v u wr => ∃ (k : Nat) (ys : List Int), u = .int .u64 k ∧ k ≤ m ∧ Ow wr base 5 .u8 v ys ∧ ys ++ enc k = zs ++ enc m ∧ Below base w wr) (fun _ u _ => (intOf u).toNat)
  case atStart => exact ⟨m, zs, rfl, Nat.le_refl _, HO.out, rfl, Below.refl _ _⟩
  case round =>
    obtain ⟨k, ys, rfl, hk, ho, he, hb⟩ := hrel
    have hsz : base ≤ wr.heap.size := Nat.le_trans hbase hb.size
    have hly : ys.length ≤ 1073741834 := by
      have := congrArg List.length he
      simp at this; omega
    have HE := hide he
    have HW := hide ho
    have hor := hide (or128 k)
    clear he ho
    by_cases h128 : 128 ≤ k
    · go_wp2_with (at_builtin; refine wpList_append_one _ rfl (.tmp 7) (.tmp 11) _ rfl base 5 .u8 i0 _ 1 Tryd.underlying22 HI.out hz0 hz1 hz2 rfl (by omega) _ ys rfl HW.out _ rfl (by omega) hsz ?_; intro v1 w1 ho1 hb1)
      go_roundw
      case rel => exact ⟨k / 128, _, by go_num, by omega, ho1, by rw [hor.out, ← HE.out, enc_hi (u := k) (by omega)]; simp, hb.trans hb1⟩
      case measure => simp [intOf]; omega
    · go_wp2_with (at_builtin; refine wpList_append_one _ rfl (.tmp 15) (.tmp 18) _ rfl base 5 .u8 i0 _ 1 Tryd.underlying22 HI.out hz0 hz1 hz2 rfl (by omega) _ ys rfl HW.out _ rfl (by omega) hsz ?_; intro v1 w1 ho1 hb1)
      go_ret
      refine ⟨_, rfl, ?_, hb.trans hb1⟩
      rw [← HE.out, enc_lo (by omega)]
      exact ho1
/-- The bytes of a number that Put writes: none below 0. -/
def encI (n : Int) : List Int := if n < 0 then [] else enc n.toNat
set_option maxRecDepth 100000 in
theorem puts_any (A : Option Addr) (n c : Nat) (zs : List Int) (x : Int) (w : World) (hr : Sl w w.heap.size .u8 A zs) (hn : zs.length = n) (hroom : n ≤ 1073741824) (hx : -9223372036854775808 ≤ x ∧ x ≤ 9223372036854775807) :
    Calls Tryd.prog 56 #[.slice A n c, .int .i64 x] w fun e w' => ∃ v, e = .returned v ∧ Ow w' w.heap.size 5 .u8 v (zs ++ enc (zz x)) ∧ Below w.heap.size w w' := by
  have HF := hide (fresh_any A n c zs w hr hn hroom)
  have HN := hide hn
  clear hr hn
  go_enter Tryd.func56, Tryd.ntmps56
  go_wp2_with (first | (go_at_call 58; refine HF.out.mono ?_; rintro e w1 ⟨v, rfl, ho, hb⟩) | (go_at_call 59; refine (place_any x _ hx).mono ?_; rintro e w' ⟨rfl, rfl⟩) | (go_at_call 51; refine (lay_any (zz x) _ zs _ w.heap.size (by assumption) (by have := hb.size; omega) (zz_lt hx) (by have := HN.out; omega)).mono ?_; rintro e w2 ⟨v2, rfl, ho2, hb2⟩))
  go_ret
  exact ⟨_, rfl, by assumption, by apply Below.trans <;> assumption⟩
/-- All bytes of a list: none of the numbers below 0. -/
def encL (zs : List Int) : List Int := zs.flatMap encI
theorem encL_snoc {zs : List Int} {k : Nat} {x : Int} (h : zs[k]? = some x) : encL (zs.take (k + 1)) = encL (zs.take k) ++ encI x := by
  rw [List.take_add_one, h]; simp [encL]
theorem encI_len {x : Int} (hx : x ≤ 9223372036854775807) : (encI x).length ≤ 9 := by
  unfold encI; split
  · simp
  · exact enc_len9 (by omega)
theorem encL_len : ∀ (zs : List Int), (∀ z ∈ zs, z ≤ 9223372036854775807) → (encL zs).length ≤ 9 * zs.length
  | [], _ => by simp [encL]
  | z :: zs, h => by
    have h1 := encI_len (h z (by simp))
    have h2 := encL_len zs (fun y hy => h y (by simp [hy]))
    simp only [encL, List.flatMap_cons, List.length_append, List.length_cons] at h2 ⊢
    omega
set_option maxRecDepth 100000 in
theorem list_any (A : Option Addr) (n c : Nat) (zs : List Int) (w : World) (hr : Sl w w.heap.size .i64 A zs) (hn : zs.length = n) (hroom : n ≤ 100000) (hz : ∀ z ∈ zs, -9223372036854775808 ≤ z ∧ z ≤ 9223372036854775807) :
    Calls Tryd.prog 45 #[.slice A n c] w fun e w' => ∃ v, e = .returned v ∧ Ow w' w.heap.size 5 .u8 v (encL zs) ∧ Below w.heap.size w w' := by
  have HR := hide hr
  have HN := hide hn
  have HZ := hide hz
  clear hr hn hz
  go_enter Tryd.func45, Tryd.ntmps45
  go_wp2
  go_loopw [3, 8] (fun v i wr => ∃ k : Nat, i = .int .i64 k ∧ k ≤ n ∧ Ow wr w.heap.size 5 .u8 v (encL (zs.take k)) ∧ Below w.heap.size w wr) (fun _ i _ => n - (intOf i).toNat)
  case atStart => exact ⟨0, rfl, Nat.zero_le _, Ow.nil _ _ _ _, Below.refl _ _⟩
  case round =>
    obtain ⟨k, rfl, hk, ho, hb⟩ := hrel
    have HO := hide ho
    clear ho
    by_cases hlt : k < n
    · obtain ⟨b, o, rfl, hbb, hc⟩ := HR.out (by have := HN.out; omega)
      have hlz : k < zs.length := by have := HN.out; omega
      obtain ⟨x, hx⟩ : ∃ x, zs[k]? = some x := ⟨_, List.getElem?_eq_getElem hlz⟩
      have hcx : wr.cell? ⟨b, o + k, none⟩ = some (.int .i64 x) := by rw [hb.cell hbb, hc k hlz]; simp [List.getD, hx]
      have hxb := HZ.out x (List.mem_of_getElem? hx)
      have HX := hide hx
      have hlen : (encL (zs.take k)).length ≤ 9 * n := by
        have := encL_len (zs.take k) (fun z hz => (HZ.out z (List.mem_of_mem_take hz)).2)
        simp at this; omega
      clear hc hlz hx
      by_cases h0 : x < 0
      · have he := hide (show encI x = [] by unfold encI; rw [if_pos h0])
        go_wp2
        go_roundw
        case rel => exact ⟨k + 1, by go_num, by omega, by rw [encL_snoc HX.out, he.out, List.append_nil]; exact HO.out, hb⟩
        case measure => simp [intOf]; omega
      · obtain ⟨m, rfl⟩ : ∃ m : Nat, x = m := ⟨x.toNat, by omega⟩
        have he := hide (show encI (m : Int) = enc m by unfold encI; rw [if_neg h0]; simp)
        go_wp2_with (go_at_call 51; refine (lay_any m _ (encL (zs.take k)) _ w.heap.size HO.out hb.size (by omega) (by omega)).mono ?_; rintro e w2 ⟨v2, rfl, ho2, hb2⟩)
        go_roundw
        case rel => exact ⟨k + 1, by go_num, by omega, by rw [encL_snoc HX.out, he.out]; exact ho2, hb.trans hb2⟩
        case measure => simp [intOf]; omega
    · go_wp2
      go_ret
      exact ⟨_, rfl, by have := HO.out; rw [List.take_of_length_le (by have := HN.out; omega)] at this; exact this, hb⟩
theorem info_i64 : (Tryd.prog.info? 3).map (fun i => (i.zero, i.size, i.bytes)) = some (some (.int .i64 0), 1, 8) := by kernel_rfl
end Go.Proofs.YtkimocfofihjbaaDoor
namespace Go.Proofs.YtkimocfofihjbaaDoor
open Go.RowKit
theorem Ow.empty (w : World) (e : TypeId) (k : IntKind) : Ow (w.alloc (.cells #[] e)) w.heap.size e k (.slice (some ⟨w.heap.size, 0, none⟩) 0 0) [] :=
  ⟨by simp, .inr ⟨w.heap.size, 0, #[], rfl, Nat.le_refl _, heap_alloc_new w _, Nat.le_refl _, by simp [maxLen], by simp, by simp⟩⟩
set_option maxRecDepth 100000 in
/-- Ints: two slices of numbers hold the same. -/
theorem ints_any (A B : Option Addr) (n m c d : Nat) (xs ys : List Int) (w : World) (Bx By : Nat) (hx : Sl w Bx .i64 A xs) (hy : Sl w By .i64 B ys) (hn : xs.length = n) (hm : ys.length = m) (hmax : n ≤ 9223372036854775807) (hmax2 : m ≤ 9223372036854775807) :
    Calls Tryd.prog 26 #[.slice A n c, .slice B m d] w fun e w' => e = .returned (.bool (decide (xs = ys))) ∧ ∃ q, w' = w.drewN q := by
  have HX := hide hx; have HY := hide hy; have HN := hide hn; have HM := hide hm
  clear hx hy hn hm
  by_cases hnm : n = m
  · subst hnm
    go_enter Tryd.func26, Tryd.ntmps26
    go_wp2
    go_loopw [5] (fun i wr => ∃ k q : Nat, i = .int .i64 k ∧ k ≤ n ∧ xs.take k = ys.take k ∧ wr = w.drewN q) (fun i _ => n - (intOf i).toNat)
    case atStart => exact ⟨0, 0, rfl, Nat.zero_le _, rfl, rfl⟩
    case round =>
      obtain ⟨k, q, rfl, hk, he, rfl⟩ := hrel
      have HE := hide he
      clear he
      by_cases hlt : k < n
      · obtain ⟨b, o, rfl, -, hcx⟩ := HX.out (by have := HN.out; omega)
        obtain ⟨b', o', rfl, -, hcy⟩ := HY.out (by have := HM.out; omega)
        have h1 := hcx k (by have := HN.out; omega)
        have h2 := hcy k (by have := HM.out; omega)
        have hgx : xs[k]? = some (xs.getD k 0) := by
          have := HN.out
          simp [List.getD, show k < xs.length by omega]
        have hgy : ys[k]? = some (ys.getD k 0) := by
          have := HM.out
          simp [List.getD, show k < ys.length by omega]
        obtain ⟨x, hxk⟩ : ∃ x, xs.getD k 0 = x := ⟨_, rfl⟩
        obtain ⟨y, hyk⟩ : ∃ y, ys.getD k 0 = y := ⟨_, rfl⟩
        rw [hxk] at h1 hgx
        rw [hyk] at h2 hgy
        have HGX := hide hgx; have HGY := hide hgy
        clear hcx hcy hgx hgy hxk hyk
        by_cases hxy : x = y
        · subst hxy
          go_wp2
          go_quiet (fail)
          go_wp2
          go_roundw
          case rel => exact ⟨k + 1, _, by go_num, by omega, take_step HE.out HGX.out HGY.out, rfl⟩
          case measure => simp [intOf]; omega
        · have hne := hide (decide_eq_false (show ¬ xs = ys from fun h => hxy (by have h1 := HGX.out; have h2 := HGY.out; rw [h, h2] at h1; exact (Option.some.inj h1).symm)))
          go_wp2
          go_quiet (fail)
          go_wp2
          go_ret
          exact ⟨ret_bool hne.out.symm, _, World.drewN_drewN _ _ _⟩
      · go_wp2
        go_ret
        refine ⟨?_, q, rfl⟩
        have h1 := HN.out; have h2 := HM.out; have h3 := HE.out
        rw [List.take_of_length_le (by omega), List.take_of_length_le (by omega)] at h3
        simp [h3]
  · have hne : xs ≠ ys := fun h => hnm (by have := HN.out; have := HM.out; subst h; omega)
    have hd := hide (decide_eq_false hne)
    clear hne
    go_enter Tryd.func26, Tryd.ntmps26
    go_wp2
    go_ret
    exact ⟨ret_bool hd.out.symm, 0, rfl⟩
end Go.Proofs.YtkimocfofihjbaaDoor
