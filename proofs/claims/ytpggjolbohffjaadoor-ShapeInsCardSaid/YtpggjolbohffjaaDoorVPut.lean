/- The contracts of varint's fresh, lay, PutSigned, List. Condition: no more than 2^30 bytes ahead (fresh), no more than 100000 numbers (List). -/
import Derived.Test.YtpggjolbohffjaaDoorVGet
import Derived.Laws.CopyOwn
import Derived.OwnWalk
set_option linter.unusedSimpArgs false
set_option linter.unusedVariables false
namespace Go.Proofs.YtpggjolbohffjaaDoor
open Go.RowKit
theorem info_u8 : (Tryd.prog.info? 5).map (fun i => (i.zero, i.size, i.bytes)) = some (some (.int .u8 0), 1, 1) := by kernel_rfl
theorem size_u8 : (Tryd.prog.info? 5).map (·.size) = some 1 := by kernel_rfl
/-- A byte of a number, as lay spells it. -/
theorem or128 (u : Nat) : bits .or .u8 ((u : Int) % 256) 128 = ((u % 128 + 128 : Nat) : Int) := by
  have e : (u : Int) % 256 = ((u % 256 : Nat) : Int) := by omega
  have e2 : (128 : Int) = ((128 : Nat) : Int) := rfl
  rw [e, e2, u8_or_nat _ _ (by omega) (by omega)]
  congr 1
  have h1 : u % 256 % 128 = u % 128 := by omega
  have h : u % 256 = 128 * (u % 256 / 128) + u % 128 := by omega
  have h2 : u % 256 / 128 = 0 ∨ u % 256 / 128 = 1 := by omega
  have hj : 2 ^ 7 * 1 + u % 128 = 2 ^ 7 * 1 ||| u % 128 := Nat.two_pow_add_eq_or_of_lt (by omega) 1
  rcases h2 with h2 | h2
  · rw [h2] at h
    rw [h, Nat.or_comm]
    simp at hj ⊢
    omega
  · rw [h2] at h
    have e3 : u % 256 = 128 ||| u % 128 := by simp at hj; omega
    rw [e3, Nat.or_comm, ← Nat.or_assoc, Nat.or_self]
    simp at hj; omega
/-- A slice of so many zeros, of which some are written. -/
theorem Ow.of_row {w : World} {base g n cap : Nat} {e : TypeId} {k : IntKind} {cur : List Value} {zs : List Int} (hg : base ≤ g) (hh : w.heap[g]? = some (.cells cur.toArray e (0, 0))) (hn : zs.length = n) (hc : n ≤ cap) (hm : cap ≤ maxLen)
    (hs : cur.length = cap) (ht : cur.take n = zs.map (Value.int k)) : Ow w base e k (.slice (some ⟨g, 0, none⟩) n cap) zs := by
  subst hn
  refine ⟨by simp, .inr ⟨g, cap, cur.toArray, rfl, hg, hh, hc, hm, by simpa using hs, by simpa using ht⟩⟩
set_option maxRecDepth 100000 in
theorem fresh_any (A : Option Addr) (n c : Nat) (zs : List Int) (w : World) (hr : Sl w w.heap.size .u8 A zs) (hn : zs.length = n) (hroom : n ≤ 1073741824) :
    Calls Tryd.prog 117 #[.slice A n c] w fun e w' => ∃ v, e = .returned v ∧ Ow w' w.heap.size 5 .u8 v zs ∧ Below w.heap.size w w' := by
  obtain ⟨i0, hi0, hz0, hz1, hz2⟩ := info_parts info_u8
  have hmk : ∀ W : World, (Instr.makeSlice 22 (.int .i64 (n : Int)) (.int .i64 ((n : Int) + 10))).run Tryd.prog W = .ok (.slice (some ⟨W.heap.size, 0, none⟩) n (n + 10)) (W.alloc (.cells (List.replicate (n + 10) (Value.int .u8 0)).toArray 5)) := by
    intro W
    have h := run_make (P := Tryd.prog) W 22 5 i0 _ Tryd.underlying22 hi0 hz0 .i64 .i64 n ((n : Int) + 10) (by omega) (by omega) (by rw [hz2]; omega) (by omega)
    have e1 : ((n : Int) + 10).toNat = n + 10 := by omega
    have e2 : madeCells (Value.cells (.int .u8 0)) (n + 10) = (List.replicate (n + 10) (Value.int .u8 0)).toArray := by
      apply Array.ext (by simp [madeCells])
      intro i h1 h2
      simp [madeCells, Value.cells, Nat.mod_one]
    rw [e1, hz1, Nat.mul_one, Int.toNat_natCast, e2] at h
    exact h
  have HN := hide hn
  have HR := hide hr
  clear hn hr
  obtain ⟨Z, hZ⟩ : ∃ Z, List.replicate (n + 10) (Value.int .u8 0) = Z := ⟨_, rfl⟩
  rw [hZ] at hmk
  have hZl := hide (show Z.length = n + 10 by rw [← hZ]; simp)
  obtain ⟨X, hX⟩ : ∃ X, zs.map (Value.int .u8) = X := ⟨_, rfl⟩
  have HX := hide hX
  clear hZ hX
  go_enter Tryd.func117, Tryd.ntmps117
  go_wp2_with (with_reducible refine wpList_copy_splice rfl (.tmp 10) (.tmp 11) _ _ rfl 5 Tryd.underlying22 size_u8 (some ⟨w.heap.size, 0, none⟩) A n (n + 10) n c rfl rfl w.heap.size 0 Z 5 (heap_alloc_new w _) X (by have := HX.out; have := HN.out; subst_vars; simp) (fun hp => ⟨rfl, ?_⟩) ?_ (by have := HX.out; subst_vars; exact ints_one _ _) w.heap.size w ((Below.refl _ _).alloc (Nat.le_refl _) _) (Nat.le_refl _) ?_)
  · have h := HR.out (by have := HX.out; subst_vars; simpa using hp)
    obtain ⟨b, o, rfl, hb, hc⟩ := h
    refine ⟨_, rfl, fun j v hj => ?_⟩
    have hX := HX.out
    subst hX
    obtain ⟨hj', rfl⟩ := List.getElem?_eq_some_iff.1 hj
    rw [List.length_map] at hj'
    rw [Addr.add_lit, World.cell?_alloc_lt _ _ _ hb, hc j hj']
    simp [List.getD, hj']
  · have h1 := HX.out; have h2 := HN.out; have h3 := hZl.out
    subst h1
    simp; omega
  · intro w2 hg2 hb2
    go_wp2
    go_ret
    have h1 := HX.out; have h2 := HN.out; have h3 := hZl.out
    subst h1
    refine ⟨_, rfl, Ow.of_row (Nat.le_refl _) hg2.out h2 (by omega) (by simp only [maxLen]; omega) (by rw [length_splice _ _ _ (by simp; omega)]; exact h3) ?_, hb2⟩
    simp [splice, ← h2]
/-- A value that the function hands back. -/
theorem ow_room {w w' : World} {base : Nat} {v : Value} {zs : List Int} (h : Ow w base 5 .u8 v zs) (hb : Below base w w') : base ≤ w'.heap.size ∨ v = .slice none 0 0 := by
  rcases h.2 with ⟨h2, _⟩ | ⟨g, cap, cur, _, hg, hh, _⟩
  · exact .inr h2
  · have := (Array.getElem?_eq_some_iff.1 hh).1
    have := hb.size
    exact .inl (by omega)
set_option maxRecDepth 100000 in
theorem lay_any (m : Nat) (v : Value) (zs : List Int) (w : World) (base : Nat) (hown : Ow w base 5 .u8 v zs) (hbase : base ≤ w.heap.size) (hm : m < 18446744073709551616) (hroom : zs.length ≤ 1073741824) :
    Calls Tryd.prog 105 #[v, .int .u64 m] w fun e w' => ∃ v', e = .returned v' ∧ Ow w' base 5 .u8 v' (zs ++ enc m) ∧ Below base w w' := by
  obtain ⟨i0, hi0, hz0, hz1, hz2⟩ := info_parts info_u8
  have hl := enc_len10 hm
  have HO := hide hown
  have HI := hide hi0
  clear hown hi0
  go_enter Tryd.func105, Tryd.ntmps105
  go_wp2
  go_loopw [0, 1] (fun v u wr => ∃ (k : Nat) (ys : List Int), u = .int .u64 k ∧ k ≤ m ∧ Ow wr base 5 .u8 v ys ∧ ys ++ enc k = zs ++ enc m ∧ Below base w wr) (fun _ u _ => (intOf u).toNat)
  case atStart => exact ⟨m, zs, rfl, Nat.le_refl _, HO.out, rfl, Below.refl _ _⟩
  case round =>
    obtain ⟨k, ys, rfl, hk, ho, he, hb⟩ := hrel
    have hsz : base ≤ wr.heap.size := Nat.le_trans hbase hb.size
    have hly : ys.length ≤ 1073741834 := by
      have := congrArg List.length he
      simp at this; omega
    have HE := hide he
    have HW := hide ho
    have hor := hide (or128 k)
    clear he ho
    by_cases h128 : 128 ≤ k
    · go_wp2_with (at_builtin; refine wpList_append_one _ rfl (.tmp 7) (.tmp 11) _ rfl base 5 .u8 i0 _ 1 Tryd.underlying22 HI.out hz0 hz1 hz2 rfl (by omega) _ ys rfl HW.out _ rfl (by omega) hsz ?_; intro v1 w1 ho1 hb1)
      go_roundw
      case rel => exact ⟨k / 128, _, by go_num, by omega, ho1, by rw [hor.out, ← HE.out, enc_hi (u := k) (by omega)]; simp, hb.trans hb1⟩
      case measure => simp [intOf]; omega
    · go_wp2_with (at_builtin; refine wpList_append_one _ rfl (.tmp 15) (.tmp 18) _ rfl base 5 .u8 i0 _ 1 Tryd.underlying22 HI.out hz0 hz1 hz2 rfl (by omega) _ ys rfl HW.out _ rfl (by omega) hsz ?_; intro v1 w1 ho1 hb1)
      go_ret
      refine ⟨_, rfl, ?_, hb.trans hb1⟩
      rw [← HE.out, enc_lo (by omega)]
      exact ho1
/-- The bytes of a number that Put writes: none below 0. -/
def encI (n : Int) : List Int := if n < 0 then [] else enc n.toNat
set_option maxRecDepth 100000 in
theorem puts_any (A : Option Addr) (n c : Nat) (zs : List Int) (x : Int) (w : World) (hr : Sl w w.heap.size .u8 A zs) (hn : zs.length = n) (hroom : n ≤ 1073741824) (hx : -9223372036854775808 ≤ x ∧ x ≤ 9223372036854775807) :
    Calls Tryd.prog 114 #[.slice A n c, .int .i64 x] w fun e w' => ∃ v, e = .returned v ∧ Ow w' w.heap.size 5 .u8 v (zs ++ enc (zz x)) ∧ Below w.heap.size w w' := by
  have HF := hide (fresh_any A n c zs w hr hn hroom)
  have HN := hide hn
  clear hr hn
  go_enter Tryd.func114, Tryd.ntmps114
  go_wp2_with (first | (go_at_call 117; refine HF.out.mono ?_; rintro e w1 ⟨v, rfl, ho, hb⟩) | (go_at_call 118; refine (place_any x _ hx).mono ?_; rintro e w' ⟨rfl, rfl⟩) | (go_at_call 105; refine (lay_any (zz x) _ zs _ w.heap.size (by assumption) (by have := hb.size; omega) (zz_lt hx) (by have := HN.out; omega)).mono ?_; rintro e w2 ⟨v2, rfl, ho2, hb2⟩))
  go_ret
  exact ⟨_, rfl, by assumption, by apply Below.trans <;> assumption⟩
/-- All bytes of a list: none of the numbers below 0. -/
def encL (zs : List Int) : List Int := zs.flatMap encI
theorem encL_snoc {zs : List Int} {k : Nat} {x : Int} (h : zs[k]? = some x) : encL (zs.take (k + 1)) = encL (zs.take k) ++ encI x := by
  rw [List.take_add_one, h]; simp [encL]
theorem encI_len {x : Int} (hx : x ≤ 9223372036854775807) : (encI x).length ≤ 9 := by
  unfold encI; split
  · simp
  · exact enc_len9 (by omega)
theorem encL_len : ∀ (zs : List Int), (∀ z ∈ zs, z ≤ 9223372036854775807) → (encL zs).length ≤ 9 * zs.length
  | [], _ => by simp [encL]
  | z :: zs, h => by
    have h1 := encI_len (h z (by simp))
    have h2 := encL_len zs (fun y hy => h y (by simp [hy]))
    simp only [encL, List.flatMap_cons, List.length_append, List.length_cons] at h2 ⊢
    omega
set_option maxRecDepth 100000 in
theorem list_any (A : Option Addr) (n c : Nat) (zs : List Int) (w : World) (hr : Sl w w.heap.size .i64 A zs) (hn : zs.length = n) (hroom : n ≤ 100000) (hz : ∀ z ∈ zs, -9223372036854775808 ≤ z ∧ z ≤ 9223372036854775807) :
    Calls Tryd.prog 95 #[.slice A n c] w fun e w' => ∃ v, e = .returned v ∧ Ow w' w.heap.size 5 .u8 v (encL zs) ∧ Below w.heap.size w w' := by
  have HR := hide hr
  have HN := hide hn
  have HZ := hide hz
  clear hr hn hz
  go_enter Tryd.func95, Tryd.ntmps95
  go_wp2
  go_loopw [3, 8] (fun v i wr => ∃ k : Nat, i = .int .i64 k ∧ k ≤ n ∧ Ow wr w.heap.size 5 .u8 v (encL (zs.take k)) ∧ Below w.heap.size w wr) (fun _ i _ => n - (intOf i).toNat)
  case atStart => exact ⟨0, rfl, Nat.zero_le _, Ow.nil _ _ _ _, Below.refl _ _⟩
  case round =>
    obtain ⟨k, rfl, hk, ho, hb⟩ := hrel
    have HO := hide ho
    clear ho
    by_cases hlt : k < n
    · obtain ⟨b, o, rfl, hbb, hc⟩ := HR.out (by have := HN.out; omega)
      have hlz : k < zs.length := by have := HN.out; omega
      obtain ⟨x, hx⟩ : ∃ x, zs[k]? = some x := ⟨_, List.getElem?_eq_getElem hlz⟩
      have hcx : wr.cell? ⟨b, o + k, none⟩ = some (.int .i64 x) := by rw [hb.cell hbb, hc k hlz]; simp [List.getD, hx]
      have hxb := HZ.out x (List.mem_of_getElem? hx)
      have HX := hide hx
      have hlen : (encL (zs.take k)).length ≤ 9 * n := by
        have := encL_len (zs.take k) (fun z hz => (HZ.out z (List.mem_of_mem_take hz)).2)
        simp at this; omega
      clear hc hlz hx
      by_cases h0 : x < 0
      · have he := hide (show encI x = [] by unfold encI; rw [if_pos h0])
        go_wp2
        go_roundw
        case rel => exact ⟨k + 1, by go_num, by omega, by rw [encL_snoc HX.out, he.out, List.append_nil]; exact HO.out, hb⟩
        case measure => simp [intOf]; omega
      · obtain ⟨m, rfl⟩ : ∃ m : Nat, x = m := ⟨x.toNat, by omega⟩
        have he := hide (show encI (m : Int) = enc m by unfold encI; rw [if_neg h0]; simp)
        go_wp2_with (go_at_call 105; refine (lay_any m _ (encL (zs.take k)) _ w.heap.size HO.out hb.size (by omega) (by omega)).mono ?_; rintro e w2 ⟨v2, rfl, ho2, hb2⟩)
        go_roundw
        case rel => exact ⟨k + 1, by go_num, by omega, by rw [encL_snoc HX.out, he.out]; exact ho2, hb.trans hb2⟩
        case measure => simp [intOf]; omega
    · go_wp2
      go_ret
      exact ⟨_, rfl, by have := HO.out; rw [List.take_of_length_le (by have := HN.out; omega)] at this; exact this, hb⟩
theorem info_i64 : (Tryd.prog.info? 3).map (fun i => (i.zero, i.size, i.bytes)) = some (some (.int .i64 0), 1, 8) := by kernel_rfl
end Go.Proofs.YtpggjolbohffjaaDoor
