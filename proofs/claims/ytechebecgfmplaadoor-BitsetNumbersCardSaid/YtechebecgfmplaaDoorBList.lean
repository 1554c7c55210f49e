/- The contracts of math/bits.TrailingZeros64, over its table, and of List; and of the reference's Ints. Condition: the table of the library lies as its initialiser lays it. -/
import Derived.Test.YtechebecgfmplaaDoorBFact
import Derived.Test.YtechebecgfmplaaDoorBListW
import Derived.Shelf.Spec.TrailingZeros
namespace Go.Proofs.YtechebecgfmplaaDoor
open Go.RowKit

/-- The library's table, as its initialiser lays it. -/
def TabW (w : World) : Prop := 0 < w.heap.size ∧ ∀ j, j < 64 → w.cell? ⟨0, j, none⟩ = some (.int .u8 ((Lib.deBruijn64tab.getD j 0 : Nat) : Int))
theorem TabW.below {w w' : World} {B : Nat} (h : TabW w) (hb : Below B w w') (hB : 0 < B) : TabW w' := ⟨by have := h.1; have := hb.size; omega, fun j hj => (hb.cell (p := ⟨0, j, none⟩) hB).trans (h.2 j hj)⟩

set_option maxRecDepth 100000 in
set_option maxHeartbeats 1000000 in
theorem tz_core (x k idx : Nat) (w : World) (hx0 : ((x : Int) == 0) = false)
    (key : IntKind.u64.wrap (bits BinOp.and IntKind.u64 (x : Int) (IntKind.u64.wrap (-(x : Int))) * 285870213051353865) / 288230376151711744 = (idx : Int))
    (hi : idx < 64) (hk : k < 64) (hcell : w.cell? ⟨0, idx, none⟩ = some (.int .u8 k)) :
    Calls Tryd.prog 31 #[.int .u64 x] w fun e w' => e = .returned (.int .i64 k) ∧ w = w' := by
  go_enter Tryd.func31, Tryd.ntmps31
  go_wp2_with (simp only [key])
  go_ret
  exact ⟨rfl, rfl⟩
theorem tz_any (x : Nat) (w : World) (h0 : x ≠ 0) (hx : x < 18446744073709551616) (hT : TabW w) :
    Calls Tryd.prog 31 #[.int .u64 (x : Int)] w fun e w' => e = .returned (.int .i64 ((Lib.ctz 64 x : Nat) : Int)) ∧ w = w' := by
  obtain ⟨hlow, hk⟩ := Lib.lowest_bit 64 x h0 hx
  obtain ⟨hi, htab⟩ := Lib.deBruijn64_at _ hk
  have hcell := hT.2 _ hi
  rw [htab] at hcell
  exact tz_core x _ _ w (by simp; omega) (tz64_key x _ hx h0 hlow) hi hk hcell

theorem info_int : (Tryd.prog.info? 3).map (fun i => (i.zero, i.size, i.bytes)) = some (some (.int .i64 0), 1, 8) := by kernel_rfl

set_option maxRecDepth 100000 in
set_option maxHeartbeats 1000000 in
theorem list_any (A : Option Addr) (n c : Nat) (ws : List Nat) (w : World) (hr : Sl w w.heap.size .u64 A (nI ws)) (hn : ws.length = n) (hmax : n ≤ 1000000000) (hw : W64 ws) (hT : TabW w) :
    Calls Tryd.prog 18 #[.slice A n c] w fun e w' => ∃ v, e = .returned v ∧ Ow w' w.heap.size 3 .i64 v (listL ws) ∧ Below w.heap.size w w' := by
  obtain ⟨i0, hi0, hz0, hz1, hz2⟩ := info_parts info_int
  have HI := hide hi0
  have HN := hide hn
  have HR := hide hr
  have HW := hide hw
  have HT := hide hT
  have hT0 := hT.1
  have HL := hide (show listL ws = listN ws (64 * n) by rw [listL, hn])
  clear hn hr hw hT hi0
  go_enter Tryd.func18, Tryd.ntmps18
  go_wp2
  go_loopw [3, 8] (fun v i wr => ∃ k : Nat, k ≤ n ∧ i = .int .i64 (k : Int) ∧ Ow wr w.heap.size 3 .i64 v (listN ws (64 * k)) ∧ Below w.heap.size w wr) (fun _ i _ => n - (intOf i).toNat)
  case atStart => exact ⟨0, Nat.zero_le _, rfl, Ow.nil _ _ _ _, Below.refl _ _⟩
  case round =>
    obtain ⟨k, hk, rfl, ho, hb⟩ := hrel
    have HO := hide ho
    clear ho
    by_cases hlt : k < n
    · have hkl : k < ws.length := by have := HN.out; omega
      obtain ⟨b, o, rfl, hbB, hcell⟩ := HR.out (by rw [nI_len]; omega)
      have g1 : wr.cell? ⟨b, o + k, none⟩ = some (.int .u64 ((ws.getD k 0 : Nat) : Int)) := by rw [hb.cell hbB, hcell k (by rw [nI_len]; exact hkl), nI_getD]
      have hx := HW.out.getD k
      have hsn := hide (listN_next ws k)
      have hll := hide (listN_len ws (64 * k))
      clear hcell hkl
      generalize ws.getD k 0 = x at *
      generalize listN ws (64 * k) = L0 at *
      go_wp2
      go_loopw [3, 5] (fun v2 y2 w2 => ∃ (y : Nat) (D : List Int), y2 = .int .u64 (y : Int) ∧ y < 18446744073709551616 ∧ Hid (D ++ (bitsF 64 0 y).map (fun (b : Nat) => ((64 * k + b : Nat) : Int)) = (bitsF 64 0 x).map (fun (b : Nat) => ((64 * k + b : Nat) : Int))) ∧ Ow w2 w.heap.size 3 .i64 v2 (L0 ++ D) ∧ Below w.heap.size w w2) (fun _ y2 _ => (intOf y2).toNat)
      case atStart => exact ⟨x, [], rfl, hx, hide (by simp), by rw [List.append_nil]; exact HO.out, hb⟩
      case round =>
        obtain ⟨y, D, rfl, hy, hD, ho2, hb2⟩ := hrel
        have HO2 := hide ho2
        clear ho2
        by_cases hy0 : y = 0
        · subst hy0
          have hfin := hide (show L0 ++ D = listN ws (64 * (k + 1)) by
            have h := hD.out
            rw [bitsF_zero, List.map_nil, List.append_nil] at h
            rw [hsn.out, h])
          go_wp2
          go_roundw
          case rel => exact ⟨k + 1, by omega, by go_num, by rw [← hfin.out]; exact HO2.out, hb2⟩
          case measure => simp [intOf]; omega
        · obtain ⟨hr1, hr2, hr3⟩ := bits_round hy0 hy
          have hyb : ((y : Int) != 0) = true := by simpa using hy0
          have hy1 : 1 ≤ y := by omega
          have hT2 := hide (HT.out.below hb2 hT0)
          have hy00 := hide hy0
          have hR1 := hide hr1
          have hand1 := hide (u64_and_nat y (y - 1) hy (by omega))
          have hsub := hide (show IntKind.u64.wrap ((y : Int) - 1) = ((y - 1 : Nat) : Int) by rw [IntKind.wrap_u64]; omega)
          have hsub2 := hide (show ((y : Int) - 1) = ((y - 1 : Nat) : Int) by omega)
          have hlen : (L0 ++ D).length ≤ 1000000000000 := by
            have h1 := congrArg List.length hD.out
            have h2 := congrArg List.length hsn.out
            have h3 := listN_len ws (64 * (k + 1))
            rw [List.length_append, List.length_map, List.length_map] at h1
            rw [List.length_append, List.length_map] at h2
            rw [List.length_append]
            omega
          generalize hq : Lib.ctz 64 y = q at *
          have HQ := hide hq
          have hcast := hide (show (k : Int) * 64 + (q : Int) = ((64 * k + q : Nat) : Int) by omega)
          have hnext := hide (show (D ++ [((64 * k + q : Nat) : Int)]) ++ (bitsF 64 0 (y &&& (y - 1))).map (fun (b : Nat) => ((64 * k + b : Nat) : Int)) = (bitsF 64 0 x).map (fun (b : Nat) => ((64 * k + b : Nat) : Int)) by
            rw [← hD.out, hr1, List.map_cons, List.append_assoc]; rfl)
          clear hq hy0 hr1
          go_wp2_with (first
            | (go_at_call 31; refine (tz_any y _ hy00.out hy hT2.out).mono ?_; rw [HQ.out]; rintro e w' ⟨rfl, rfl⟩)
            | (at_builtin; refine wpList_append_one _ rfl (.tmp 19) (.tmp 25) _ rfl w.heap.size 3 .i64 i0 _ 8 Tryd.underlying23 HI.out hz0 hz1 hz2 rfl (by omega) _ (L0 ++ D) rfl HO2.out _ rfl (by omega) hb2.size ?_; rw [hcast.out]; intro v3 w3 ho3 hb3))
          go_roundw
          case rel => exact ⟨y &&& (y - 1), D ++ [((64 * k + q : Nat) : Int)], by first | rw [hsub.out, hand1.out] | rw [hsub2.out, hand1.out], by omega, hnext, by rw [← List.append_assoc]; exact ho3, hb2.trans hb3⟩
          case measure => first | (rw [hsub.out, hand1.out]; simp [intOf]; omega) | (rw [hsub2.out, hand1.out]; simp [intOf]; omega)
    · have hkn := hide (show listN ws (64 * k) = listL ws by rw [HL.out, show k = n by omega])
      go_wp2
      go_ret
      exact ⟨_, rfl, by rw [← hkn.out]; exact HO.out, hb⟩

set_option maxRecDepth 100000 in
theorem ints_yes (A B : Option Addr) (n m c d : Nat) (xs : List Int) (w : World) (Bx By : Nat) (hx : Sl w Bx .i64 A xs) (hy : Sl w By .i64 B xs) (hn : xs.length = n) (hm : xs.length = m) (hmax : n ≤ 4611686018427387904) :
    Calls Tryd.prog 17 #[.slice A n c, .slice B m d] w fun e w' => e = .returned (.bool true) ∧ ∃ q, w' = w.drewN q := by
  have hnm : m = n := by omega
  subst hnm
  have HX := hide hx
  have HY := hide hy
  have HN := hide hn
  clear hx hy hn hm
  go_enter Tryd.func17, Tryd.ntmps17
  go_wp2
  go_loopw [5] (fun i wr => ∃ (k : Nat) (q : Nat), k ≤ m ∧ i = .int .i64 k ∧ wr = w.drewN q) (fun i _ => m - (intOf i).toNat)
  case atStart => exact ⟨0, 0, Nat.zero_le _, rfl, rfl⟩
  case round =>
    obtain ⟨k, q, hk, rfl, rfl⟩ := hrel
    by_cases hlt : k < m
    · have hxl : k < xs.length := by have := HN.out; omega
      obtain ⟨b1, o1, rfl, -, hc1⟩ := HX.out (by omega)
      obtain ⟨b2, o2, rfl, -, hc2⟩ := HY.out (by omega)
      have g1 := hc1 k hxl
      have g2 := hc2 k hxl
      generalize xs.getD k 0 = x at g1 g2
      have hb : (x != x) = false := by simp
      clear hc1 hc2 hxl
      go_wp2
      go_quiet (fail)
      go_wp2
      go_roundw
      case rel => exact ⟨k + 1, _, by omega, by go_num, rfl⟩
      case measure => simp [intOf]; omega
    · go_wp2
      go_ret
      exact ⟨rfl, q, rfl⟩
end Go.Proofs.YtechebecgfmplaaDoor
