/- The contracts of the statements' fixed fact, of great, and of the reference's Same and Words. No condition. -/
import Derived.Test.YteoopilmdlhkhaaDoorPaNP
import Derived.Lib.TrailingZeros
import Derived.Shelf.Spec.TrailingZeros
import Derived.StillTailTactics
set_option linter.unusedSimpArgs false
set_option linter.unusedVariables false
namespace Go.Proofs.YteoopilmdlhkhaaDoor
open Go.RowKit

/-- A slice of integers that is written out, as the call meets it. -/
theorem Sl.lit' (w : World) (e : TypeId) (k : IntKind) (cs : Array Value) (zs : List Int) (h : cs.toList = zs.map (Value.int k)) : Sl (w.alloc (.cells cs e)) (w.alloc (.cells cs e)).heap.size k (some ⟨w.heap.size, 0, none⟩) zs := by
  have := Sl.lit w e k cs zs h
  rwa [show (w.alloc (.cells cs e)).heap.size = w.heap.size + 1 by simp]
end Go.Proofs.YteoopilmdlhkhaaDoor
namespace Go.Proofs.YteoopilmdlhkhaaDoor
open Go.RowKit

end Go.Proofs.YteoopilmdlhkhaaDoor
namespace Go.Proofs.YteoopilmdlhkhaaDoor

/-- The bits of a word from place i on, of so many places. -/
def bitsF : Nat → Nat → Nat → List Nat
  | 0, _, _ => []
  | n + 1, i, x => if x.testBit i then i :: bitsF n (i + 1) x else bitsF n (i + 1) x
theorem bitsF_snoc (x : Nat) : ∀ n i, bitsF (n + 1) i x = bitsF n i x ++ (if x.testBit (i + n) then [i + n] else [])
  | 0, i => by simp [bitsF]
  | n + 1, i => by
    rw [bitsF, bitsF_snoc x n (i + 1), bitsF, show i + 1 + n = i + (n + 1) by omega]
    split <;> simp
theorem bitsF_congr {x y : Nat} : ∀ n i, (∀ j, i ≤ j → x.testBit j = y.testBit j) → bitsF n i x = bitsF n i y
  | 0, _, _ => rfl
  | n + 1, i, h => by
    rw [bitsF, bitsF, h i (Nat.le_refl _), bitsF_congr n (i + 1) fun j hj => h j (by omega)]
theorem bitsF_zero : ∀ n i, bitsF n i 0 = []
  | 0, _ => rfl
  | n + 1, i => by rw [bitsF, bitsF_zero n (i + 1)]; simp
/-- The lowest bit first, then the others. -/
theorem bitsF_low {x y k : Nat} (hk : x.testBit k = true) (hlo : ∀ j, j < k → x.testBit j = false) (hy : ∀ j, j ≤ k → y.testBit j = false) (hxy : ∀ j, k < j → x.testBit j = y.testBit j) :
    ∀ n i, i ≤ k → k < i + n → bitsF n i x = k :: bitsF n i y
  | 0, i, h1, h2 => by omega
  | n + 1, i, h1, h2 => by
    by_cases h : i = k
    · subst h
      rw [bitsF, bitsF, hk, hy i (Nat.le_refl _), bitsF_congr n (i + 1) fun j hj => hxy j (by omega)]
      simp
    · rw [bitsF, bitsF, hlo i (by omega), hy i (by omega), bitsF_low hk hlo hy hxy n (i + 1) (by omega) (by omega)]
      simp
theorem pow_cut (k m j : Nat) : (2 ^ k * (2 * m + 1)).testBit j = if j < k then false else if j = k then true else m.testBit (j - k - 1) := by
  rw [Nat.testBit_two_pow_mul]
  by_cases h : j < k
  · simp [h]; omega
  · rw [if_neg h]
    by_cases h2 : j = k
    · subst h2; simp
    · rw [if_neg h2, show j - k = (j - k - 1) + 1 by omega, Nat.testBit_succ, show (2 * m + 1) / 2 = m by omega]
      simp; omega
theorem pow_less (k m j : Nat) : (2 ^ k * (2 * m + 1) - 1).testBit j = if j < k then true else if j = k then false else m.testBit (j - k - 1) := by
  have hp : 0 < 2 ^ k := Nat.two_pow_pos _
  have e : 2 ^ k * (2 * m + 1) - 1 = 2 ^ k * (2 * m) + (2 ^ k - 1) := by
    rw [Nat.mul_add, Nat.mul_one]; omega
  rw [e, Nat.testBit_two_pow_mul_add _ (by omega)]
  by_cases h : j < k
  · rw [if_pos h, if_pos h, Nat.testBit_two_pow_sub_one]; simpa using h
  · rw [if_neg h, if_neg h]
    by_cases h2 : j = k
    · subst h2; simp
    · rw [if_neg h2, show (2 * m).testBit (j - k) = (2 * m).testBit ((j - k - 1) + 1) by rw [show j - k - 1 + 1 = j - k by omega], Nat.testBit_succ, show (2 * m) / 2 = m by omega]
/-- A round of the walk through a word. -/
theorem bits_round {x : Nat} (h0 : x ≠ 0) (hx : x < 18446744073709551616) : bitsF 64 0 x = Lib.ctz 64 x :: bitsF 64 0 (x &&& (x - 1)) ∧ Lib.ctz 64 x < 64 ∧ (x &&& (x - 1)) < x := by
  obtain ⟨m, hm, hk⟩ := Lib.ctzFrom_spec 64 x (by omega) (by omega)
  have hc : Lib.ctz 64 x = Lib.ctzFrom 64 x := by unfold Lib.ctz; rw [if_neg h0]
  rw [hc]
  generalize Lib.ctzFrom 64 x = k at *
  have b1 : ∀ j, x.testBit j = if j < k then false else if j = k then true else m.testBit (j - k - 1) := fun j => by rw [hm, pow_cut]
  have b2 : ∀ j, (x &&& (x - 1)).testBit j = if j ≤ k then false else m.testBit (j - k - 1) := fun j => by
    rw [Nat.testBit_and, b1 j, hm, pow_less]
    by_cases h : j < k
    · rw [if_pos h, if_pos (by omega : j ≤ k)]; rfl
    · rw [if_neg h, if_neg h]
      by_cases h2 : j = k
      · rw [if_pos h2, if_pos h2, if_pos (by omega)]; simp
      · rw [if_neg h2, if_neg h2, if_neg (by omega)]; simp
  refine ⟨bitsF_low (by rw [b1]; simp) (fun j hj => by rw [b1, if_pos hj]) (fun j hj => by rw [b2, if_pos hj]) (fun j hj => by rw [b1, b2, if_neg (by omega), if_neg (by omega), if_neg (by omega)]) 64 0 (by omega) (by omega), hk, ?_⟩
  have hle : x &&& (x - 1) ≤ x - 1 := Nat.and_le_right
  omega

/-- The numbers below K that are in a set. -/
def listN (s : List Nat) : Nat → List Int
  | 0 => []
  | K + 1 => listN s K ++ (if hasB s (K : Int) then [(K : Int)] else [])
theorem listN_len (s : List Nat) : ∀ K, (listN s K).length ≤ K
  | 0 => Nat.le_refl _
  | K + 1 => by
    have := listN_len s K
    rw [listN, List.length_append]
    split <;> simp <;> omega
theorem listN_mem (s : List Nat) (z : Int) : ∀ K, z ∈ listN s K ↔ (0 ≤ z ∧ z < (K : Int) ∧ hasB s z = true)
  | 0 => by simp [listN]; omega
  | K + 1 => by
    rw [listN, List.mem_append, listN_mem s z K]
    by_cases hz : z = (K : Int)
    · subst hz
      split
      · rename_i h; simp [h]; omega
      · rename_i h; simp [h]
    · have hz2 : z ∈ (if hasB s (K : Int) then [(K : Int)] else []) ↔ False := by
        split
        · simp [hz]
        · simp
      rw [hz2, or_false]
      constructor
      · rintro ⟨h1, h2, h3⟩; exact ⟨h1, by omega, h3⟩
      · rintro ⟨h1, h2, h3⟩; exact ⟨h1, by omega, h3⟩
/-- A word's numbers, from where the words ahead of it end. -/
theorem listN_word (s : List Nat) (i : Nat) : ∀ j, j ≤ 64 → listN s (64 * i + j) = listN s (64 * i) ++ (bitsF j 0 (s.getD i 0)).map fun (b : Nat) => ((64 * i + b : Nat) : Int)
  | 0, _ => by simp [bitsF]
  | j + 1, hj => by
    rw [← Nat.add_assoc, listN, listN_word s i j (by omega), bitsF_snoc, List.map_append, List.append_assoc]
    congr 2
    have h : hasB s ((64 * i + j : Nat) : Int) = (s.getD i 0).testBit (0 + j) := by
      rw [hasB_nat, show (64 * i + j) / 64 = i by omega, show (64 * i + j) % 64 = j by omega, Nat.zero_add]
    rw [h]
    split <;> simp
theorem listN_next (s : List Nat) (i : Nat) : listN s (64 * (i + 1)) = listN s (64 * i) ++ (bitsF 64 0 (s.getD i 0)).map fun (b : Nat) => ((64 * i + b : Nat) : Int) := by
  rw [show 64 * (i + 1) = 64 * i + 64 by omega, listN_word s i 64 (Nat.le_refl _)]
/-- A set's numbers. -/
def listL (s : List Nat) : List Int := listN s (64 * s.length)
theorem listL_mem {s : List Nat} {z : Int} : z ∈ listL s ↔ hasB s z = true := by
  rw [listL, listN_mem]
  constructor
  · rintro ⟨-, -, h⟩; exact h
  · intro h
    refine ⟨?_, ?_, h⟩
    · unfold hasB at h; simp at h; omega
    · rcases Int.lt_or_le z ((64 * s.length : Nat) : Int) with h2 | h2
      · exact h2
      · rw [hasB_out (.inr (by omega))] at h; cases h
/-- What the walks meet of a list that rises. -/
theorem listL_at {s : List Nat} {k : Nat} {z : Int} (h : (listL s)[k]? = some z) : hasB s z = true ∧ 0 ≤ z ∧ z < ((64 * s.length : Nat) : Int) := by
  have h1 := (listN_mem s z _).1 (List.mem_of_getElem? h)
  exact ⟨h1.2.2, h1.1, h1.2.1⟩
theorem listL_len (s : List Nat) : (listL s).length ≤ 64 * s.length := listN_len s _
end Go.Proofs.YteoopilmdlhkhaaDoor
namespace Go.Proofs.YteoopilmdlhkhaaDoor
open Go.RowKit

/-- The library's table, as its initialiser lays it. -/
def TabW (w : World) : Prop := 1 < w.heap.size ∧ ∀ j, j < 64 → w.cell? ⟨1, j, none⟩ = some (.int .u8 ((Lib.deBruijn64tab.getD j 0 : Nat) : Int))
theorem TabW.below {w w' : World} {B : Nat} (h : TabW w) (hb : Below B w w') (hB : 1 < B) : TabW w' := ⟨by have := h.1; have := hb.size; omega, fun j hj => (hb.cell (p := ⟨1, j, none⟩) hB).trans (h.2 j hj)⟩

set_option maxRecDepth 100000 in
set_option maxHeartbeats 1000000 in
theorem tz_core (x k idx : Nat) (w : World) (hx0 : ((x : Int) == 0) = false)
    (key : IntKind.u64.wrap (bits BinOp.and IntKind.u64 (x : Int) (IntKind.u64.wrap (-(x : Int))) * 285870213051353865) / 288230376151711744 = (idx : Int))
    (hi : idx < 64) (hk : k < 64) (hcell : w.cell? ⟨1, idx, none⟩ = some (.int .u8 k)) :
    Calls Tryd.prog 75 #[.int .u64 x] w fun e w' => e = .returned (.int .i64 k) ∧ w = w' := by
  go_enter Tryd.func75, Tryd.ntmps75
  go_wp2_with (simp only [key])
  go_ret
  exact ⟨rfl, rfl⟩
theorem tz_any (x : Nat) (w : World) (h0 : x ≠ 0) (hx : x < 18446744073709551616) (hT : TabW w) :
    Calls Tryd.prog 75 #[.int .u64 (x : Int)] w fun e w' => e = .returned (.int .i64 ((Lib.ctz 64 x : Nat) : Int)) ∧ w = w' := by
  obtain ⟨hlow, hk⟩ := Lib.lowest_bit 64 x h0 hx
  obtain ⟨hi, htab⟩ := Lib.deBruijn64_at _ hk
  have hcell := hT.2 _ hi
  rw [htab] at hcell
  exact tz_core x _ _ w (by simp; omega) (tz64_key x _ hx h0 hlow) hi hk hcell

theorem info_int : (Tryd.prog.info? 3).map (fun i => (i.zero, i.size, i.bytes)) = some (some (.int .i64 0), 1, 8) := by kernel_rfl

set_option maxRecDepth 100000 in
set_option maxHeartbeats 1000000 in
theorem blist_any (A : Option Addr) (n c : Nat) (ws : List Nat) (w : World) (hr : Sl w w.heap.size .u64 A (nI ws)) (hn : ws.length = n) (hmax : n ≤ 1000000000) (hw : W64 ws) (hT : TabW w) :
    Calls Tryd.prog 61 #[.slice A n c] w fun e w' => ∃ v, e = .returned v ∧ Ow w' w.heap.size 3 .i64 v (listL ws) ∧ Below w.heap.size w w' := by
  obtain ⟨i0, hi0, hz0, hz1, hz2⟩ := info_parts info_int
  have HI := hide hi0
  have HN := hide hn
  have HR := hide hr
  have HW := hide hw
  have HT := hide hT
  have hT0 := hT.1
  have HL := hide (show listL ws = listN ws (64 * n) by rw [listL, hn])
  clear hn hr hw hT hi0
  go_enter Tryd.func61, Tryd.ntmps61
  go_wp2
  go_loopw [3, 8] (fun v i wr => ∃ k : Nat, k ≤ n ∧ i = .int .i64 (k : Int) ∧ Ow wr w.heap.size 3 .i64 v (listN ws (64 * k)) ∧ Below w.heap.size w wr) (fun _ i _ => n - (intOf i).toNat)
  case atStart => exact ⟨0, Nat.zero_le _, rfl, Ow.nil _ _ _ _, Below.refl _ _⟩
  case round =>
    obtain ⟨k, hk, rfl, ho, hb⟩ := hrel
    have HO := hide ho
    clear ho
    by_cases hlt : k < n
    · have hkl : k < ws.length := by have := HN.out; omega
      obtain ⟨b, o, rfl, hbB, hcell⟩ := HR.out (by rw [nI_len]; omega)
      have g1 : wr.cell? ⟨b, o + k, none⟩ = some (.int .u64 ((ws.getD k 0 : Nat) : Int)) := by rw [hb.cell hbB, hcell k (by rw [nI_len]; exact hkl), nI_getD]
      have hx := HW.out.getD k
      have hsn := hide (listN_next ws k)
      have hll := hide (listN_len ws (64 * k))
      clear hcell hkl
      generalize ws.getD k 0 = x at *
      generalize listN ws (64 * k) = L0 at *
      go_wp2
      go_loopw [3, 5] (fun v2 y2 w2 => ∃ (y : Nat) (D : List Int), y2 = .int .u64 (y : Int) ∧ y < 18446744073709551616 ∧ Hid (D ++ (bitsF 64 0 y).map (fun (b : Nat) => ((64 * k + b : Nat) : Int)) = (bitsF 64 0 x).map (fun (b : Nat) => ((64 * k + b : Nat) : Int))) ∧ Ow w2 w.heap.size 3 .i64 v2 (L0 ++ D) ∧ Below w.heap.size w w2) (fun _ y2 _ => (intOf y2).toNat)
      case atStart => exact ⟨x, [], rfl, hx, hide (by simp), by rw [List.append_nil]; exact HO.out, hb⟩
      case round =>
        obtain ⟨y, D, rfl, hy, hD, ho2, hb2⟩ := hrel
        have HO2 := hide ho2
        clear ho2
        by_cases hy0 : y = 0
        · subst hy0
          have hfin := hide (show L0 ++ D = listN ws (64 * (k + 1)) by
            have h := hD.out
            rw [bitsF_zero, List.map_nil, List.append_nil] at h
            rw [hsn.out, h])
          go_wp2
          go_roundw
          case rel => exact ⟨k + 1, by omega, by go_num, by rw [← hfin.out]; exact HO2.out, hb2⟩
          case measure => simp [intOf]; omega
        · obtain ⟨hr1, hr2, hr3⟩ := bits_round hy0 hy
          have hyb : ((y : Int) != 0) = true := by simpa using hy0
          have hy1 : 1 ≤ y := by omega
          have hT2 := hide (HT.out.below hb2 hT0)
          have hy00 := hide hy0
          have hR1 := hide hr1
          have hand1 := hide (u64_and_nat y (y - 1) hy (by omega))
          have hsub := hide (show IntKind.u64.wrap ((y : Int) - 1) = ((y - 1 : Nat) : Int) by rw [IntKind.wrap_u64]; omega)
          have hsub2 := hide (show ((y : Int) - 1) = ((y - 1 : Nat) : Int) by omega)
          have hlen : (L0 ++ D).length ≤ 1000000000000 := by
            have h1 := congrArg List.length hD.out
            have h2 := congrArg List.length hsn.out
            have h3 := listN_len ws (64 * (k + 1))
            rw [List.length_append, List.length_map, List.length_map] at h1
            rw [List.length_append, List.length_map] at h2
            rw [List.length_append]
            omega
          generalize hq : Lib.ctz 64 y = q at *
          have HQ := hide hq
          have hcast := hide (show (k : Int) * 64 + (q : Int) = ((64 * k + q : Nat) : Int) by omega)
          have hnext := hide (show (D ++ [((64 * k + q : Nat) : Int)]) ++ (bitsF 64 0 (y &&& (y - 1))).map (fun (b : Nat) => ((64 * k + b : Nat) : Int)) = (bitsF 64 0 x).map (fun (b : Nat) => ((64 * k + b : Nat) : Int)) by
            rw [← hD.out, hr1, List.map_cons, List.append_assoc]; rfl)
          clear hq hy0 hr1
          go_wp2_with (first
            | (go_at_call 75; refine (tz_any y _ hy00.out hy hT2.out).mono ?_; rw [HQ.out]; rintro e w' ⟨rfl, rfl⟩)
            | (at_builtin; refine wpList_append_one _ rfl (.tmp 19) (.tmp 25) _ rfl w.heap.size 3 .i64 i0 _ 8 Tryd.underlying26 HI.out hz0 hz1 hz2 rfl (by omega) _ (L0 ++ D) rfl HO2.out _ rfl (by omega) hb2.size ?_; rw [hcast.out]; intro v3 w3 ho3 hb3))
          go_roundw
          case rel => exact ⟨y &&& (y - 1), D ++ [((64 * k + q : Nat) : Int)], by first | rw [hsub.out, hand1.out] | rw [hsub2.out, hand1.out], by omega, hnext, by rw [← List.append_assoc]; exact ho3, hb2.trans hb3⟩
          case measure => first | (rw [hsub.out, hand1.out]; simp [intOf]; omega) | (rw [hsub2.out, hand1.out]; simp [intOf]; omega)
    · have hkn := hide (show listN ws (64 * k) = listL ws by rw [HL.out, show k = n by omega])
      go_wp2
      go_ret
      exact ⟨_, rfl, by rw [← hkn.out]; exact HO.out, hb⟩

end Go.Proofs.YteoopilmdlhkhaaDoor
namespace Go.Proofs.YteoopilmdlhkhaaDoor
open Go.RowKit

end Go.Proofs.YteoopilmdlhkhaaDoor
namespace Go.Proofs.YteoopilmdlhkhaaDoor
open Go.RowKit

end Go.Proofs.YteoopilmdlhkhaaDoor
namespace Go.Proofs.YteoopilmdlhkhaaDoor
open Go.RowKit

end Go.Proofs.YteoopilmdlhkhaaDoor
