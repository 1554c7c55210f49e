/- The contracts of Without and With, and of Join at sets that are listed at the call. No condition. -/
import Derived.Test.YtechebecgfmplaaDoorBNum
namespace Go.Proofs.YtechebecgfmplaaDoor
open Go.RowKit

set_option maxRecDepth 100000 in
set_option maxHeartbeats 1000000 in
theorem without_any (A T : Option Addr) (n c m d : Nat) (ws : List Nat) (l : List Int) (w : World) (hx : Sl w w.heap.size .u64 A (nI ws)) (hn : ws.length = n) (hmax : n ≤ 1099511627776) (hw : W64 ws) (hr : Sl w w.heap.size .i64 T l) (hm : l.length = m) (hmax2 : m ≤ 1099511627776) (hl : ∀ z ∈ l, -9223372036854775808 ≤ z ∧ z ≤ 9223372036854775807) :
    Calls Tryd.prog 15 #[.slice A n c, .slice T m d] w (Made w (withoutL ws l)) := by
  have HX := hide hx
  have HN := hide hn
  have HW := hide hw
  have HM := hide hm
  have HR := hide hr
  have HL := hide hl
  clear hn hr hl hx hm hw
  go_enter Tryd.func15, Tryd.ntmps15
  go_wp2_with (go_at_call 29; refine (clone_any A n c ws w _ HX.out HN.out (Nat.le_refl _) hmax).mono ?_; rintro e w1 ⟨v1, rfl, ho1, hb1⟩)
  obtain ⟨A1, c1, hv1, -, -, -⟩ := ho1.sl
  rw [nI_len, HN.out] at hv1
  subst hv1
  have HO1 := hide ho1
  clear ho1
  go_wp2
  go_loopw [12] (fun i wr => ∃ k : Nat, k ≤ m ∧ i = .int .i64 (k : Int) ∧ Ow wr w.heap.size 34 .u64 (.slice A1 n c1) (nI (remsL ws (l.take k))) ∧ Below w.heap.size w wr) (fun i _ => m - (intOf i).toNat)
  case atStart => exact ⟨0, Nat.zero_le _, rfl, HO1.out, hb1⟩
  case round =>
    obtain ⟨k, hk, rfl, ho, hb⟩ := hrel
    have HO := hide ho
    clear ho
    by_cases hlt : k < m
    · have hkl : k < l.length := by have := HM.out; omega
      obtain ⟨b, o, rfl, hbB, hcell⟩ := HR.out (by omega)
      obtain ⟨z, hz⟩ : ∃ z, l[k]? = some z := ⟨_, List.getElem?_eq_getElem hkl⟩
      have g1 : wr.cell? ⟨b, o + k, none⟩ = some (.int .i64 z) := by rw [hb.cell hbB, hcell k hkl]; simp [List.getD, hz]
      have hzb := HL.out z (List.mem_of_getElem? hz)
      have hsn := hide (show remsL ws (l.take (k + 1)) = remI (remsL ws (l.take k)) z by rw [List.take_add_one, hz, Option.toList_some, remsL_snoc])
      have hsl := hide (show (remsL ws (l.take k)).length = n by rw [remsL_len, HN.out])
      have hsw := hide (show W64 (remsL ws (l.take k)) from remsL_w64 HW.out _)
      clear hcell hkl hz
      generalize remsL ws (l.take k) = s at *
      by_cases hv : 0 ≤ z ∧ z / 64 < (n : Int)
      · have hrem := hide (show remI s z = s.set (z.toNat / 64) (andN (s.getD (z.toNat / 64) 0) (2 ^ (z.toNat % 64))) by rw [remI, if_pos (by rw [hsl.out]; exact hv)])
        obtain ⟨q, rfl⟩ : ∃ q : Nat, z = q := ⟨z.toNat, by omega⟩
        rw [Int.toNat_natCast] at hrem
        have hyes : q / 64 < n := by omega
        have hql : q / 64 < s.length := by have := hsl.out; omega
        have hget := hide (show (nI s)[q / 64]? = some ((s.getD (q / 64) 0 : Nat) : Int) by rw [nI, List.getElem?_map, get_some hql]; rfl)
        have hxw := hsw.out.getD (q / 64)
        have hor := hide (andN_spell (s.getD (q / 64) 0) (q % 64) hxw (Nat.mod_lt _ (by omega)))
        obtain ⟨g, rfl, hg1, hg2, hcell2, hfrz⟩ := HO.out.block (by rw [nI_len]; omega)
        have q1 : wr.cell? ⟨g, q / 64, none⟩ = some (.int .u64 ((s.getD (q / 64) 0 : Nat) : Int)) := hcell2 _ _ hget.out
        have q2 : wr.frozen? ⟨g, q / 64, none⟩ = false := hfrz _
        have hst := hide (HO.out.stored (q / 64) (bits .andNot .u64 ((s.getD (q / 64) 0 : Nat) : Int) ((2 : Int) ^ (q % 64))))
        rw [hor.out, ← nI_set, ← hrem.out, ← hor.out] at hst
        have hbst := hb.setCell (p := ⟨g, q / 64, none⟩) hg1 (.int .u64 (bits .andNot .u64 ((s.getD (q / 64) 0 : Nat) : Int) ((2 : Int) ^ (q % 64))))
        have i1 : (0 : Int) ≤ (q : Int) / 64 := by omega
        have i2 : (q : Int) / 64 < (n : Int) := by omega
        clear hcell2 hfrz hget hor hrem hql hv
        generalize s.getD (q / 64) 0 = x at *
        go_wp2_with (go_at_call 22; refine (reaches_yes _ _ c1 q _ hyes (by omega) (by omega)).mono ?_; rintro e w' ⟨rfl, rfl⟩)
        have e1 : (q : Int).tdiv 64 = (q : Int) / 64 := Int.tdiv_eq_ediv_of_nonneg (by omega)
        have e2 : ((q : Int) / 64).toNat = q / 64 := by omega
        have e3 : IntKind.i64.wrap ((q : Int) / 64) = (q : Int) / 64 := IntWalk.i64_in _ ⟨by omega, by omega⟩
        go_region_with (first | (go_at_call 23; refine (bit_any q _ (by omega)).mono ?_; rintro e w' ⟨rfl, rfl⟩))
        all_goals
          clear e1 e2 e3
          go_wp2
          go_roundw
          case rel => exact ⟨k + 1, by omega, by go_num, by rw [hsn.out]; exact hst.out, hbst.drew⟩
          case measure => simp [intOf]; omega
      · have hrem := hide (show remI s z = s by rw [remI, if_neg (by rw [hsl.out]; exact hv)])
        have hno : z < 0 ∨ (n : Int) ≤ z / 64 := by omega
        clear hv
        have hno2 := hide hno
        clear hno
        go_wp2_with (go_at_call 22; refine (reaches_no _ _ c1 z _ hno2.out hzb (by omega)).mono ?_; rintro e w' ⟨rfl, rfl⟩)
        go_roundw
        case rel => exact ⟨k + 1, by omega, by go_num, by rw [hsn.out, hrem.out]; exact HO.out, hb⟩
        case measure => simp [intOf]; omega
    · have hfull := hide (show neat (remsL ws (l.take k)) = withoutL ws l by rw [List.take_of_length_le (by have := HM.out; omega)]; rfl)
      go_wp2_with (go_at_call 30; refine (trim_any A1 n c1 _ wr _ HO.out.trimmed.2.2.2.1 HO.out.trimmed.1 HO.out.trimmed.2.1 HO.out.trimmed.2.2.1).mono ?_; rw [hfull.out]; rintro e w' ⟨rfl, rfl⟩)
      go_ret
      have h := HO.out.trimmed
      rw [hfull.out] at h
      have hle : (withoutL ws l).length ≤ n := by have := withoutL_len ws l; have h2 := HN.out; omega
      exact ⟨A1, c1, rfl, by have := h.2.1; omega, h.2.2.1, h.2.2.2.2, hb⟩

/-- A slice of sets that is written out: a new block. -/
theorem Sls.lit (w : World) (e : TypeId) (cs : Array Value) (ls : List (Option Addr × Nat × List Nat)) (h : cs.toList = ls.map fun t => .slice t.1 t.2.2.length t.2.1) : Sls (w.alloc (.cells cs e)) (w.heap.size + 1) (some ⟨w.heap.size, 0, none⟩) ls := fun _ => by
  refine ⟨w.heap.size, 0, rfl, by omega, fun j t ht => ?_⟩
  rw [cell_of_row (w.alloc (.cells cs e)) w.heap.size (0 + j) cs e (0, 0) (heap_alloc_new w _), ← Array.getElem?_toList, h, Nat.zero_add, List.getElem?_map, ht]
  rfl
theorem Good.alloc {w : World} {t : Option Addr × Nat × List Nat} (h : Good w w.heap.size t) (o : Obj) : Good (w.alloc o) (w.heap.size + 1) t := ⟨(h.1.alloc (Nat.le_refl _) o).more (by omega), h.2⟩
theorem good_of {w : World} {B n c : Nat} {A : Option Addr} {xs : List Nat} (h : Sl w B .u64 A (nI xs)) (hw : W64 xs) (hn : xs.length = n) (hc : n ≤ c) (hm : c ≤ 9223372036854775807) : Good w B (A, c, xs) := ⟨h, hw, by rw [← hn] at hc; exact hc, hm⟩
/-- Sets that are listed at the call, joined. -/
theorem join_lit (w : World) (cs : Array Value) (m : Nat) (ls : List (Option Addr × Nat × List Nat)) (h : cs.toList = ls.map fun t => .slice t.1 t.2.2.length t.2.1) (hg : ∀ t ∈ ls, Good w w.heap.size t) (hm : ls.length = m) (hmax : m ≤ 1099511627776) (hlen : maxLenL (wordsOf ls) ≤ 1099511627776) :
    Calls Tryd.prog 25 #[.slice (some ⟨w.heap.size, 0, none⟩) m m] (w.alloc (.cells cs 22)) (Made w (joinL (wordsOf ls))) := by
  have hz : (w.alloc (.cells cs 22)).heap.size = w.heap.size + 1 := by simp
  have hs := Sls.lit w 22 cs ls h
  rw [← hz] at hs
  refine (join_any _ m m ls (w.alloc (.cells cs 22)) hs (fun t ht => by rw [hz]; exact (hg t ht).alloc _) hm hmax hlen).mono fun e w' hh => ?_
  obtain ⟨A, c, he, h1, h2, h3, h4⟩ := hh
  exact ⟨A, c, he, h1, h2, h3, ((Below.refl _ _).alloc (Nat.le_refl _) _).trans (h4.mono (by omega))⟩
theorem join_two (A T : Option Addr) (n c m d : Nat) (xs ys : List Nat) (w : World) (hx : Good w w.heap.size (A, c, xs)) (hy : Good w w.heap.size (T, d, ys)) (hn : xs.length = n) (hm : ys.length = m) (hmax : n ≤ 1099511627776) (hmax2 : m ≤ 1099511627776) :
    Calls Tryd.prog 25 #[.slice (some ⟨w.heap.size, 0, none⟩) 2 2] (w.alloc (.cells #[.slice A n c, .slice T m d] 22)) (Made w (joinL [xs, ys])) := by
  subst hn
  subst hm
  exact join_lit w _ 2 [(A, c, xs), (T, d, ys)] rfl (by simp [hx, hy]) rfl (by omega) (by simp [wordsOf, maxLenL]; omega)
theorem join_three (A T S : Option Addr) (n c m d p b : Nat) (xs ys zs : List Nat) (w : World) (hx : Good w w.heap.size (A, c, xs)) (hy : Good w w.heap.size (T, d, ys)) (hz : Good w w.heap.size (S, b, zs)) (hn : xs.length = n) (hm : ys.length = m) (hp : zs.length = p) (hmax : n ≤ 1099511627776) (hmax2 : m ≤ 1099511627776) (hmax3 : p ≤ 1099511627776) :
    Calls Tryd.prog 25 #[.slice (some ⟨w.heap.size, 0, none⟩) 3 3] (w.alloc (.cells #[.slice A n c, .slice T m d, .slice S p b] 22)) (Made w (joinL [xs, ys, zs])) := by
  subst hn
  subst hm
  subst hp
  exact join_lit w _ 3 [(A, c, xs), (T, d, ys), (S, b, zs)] rfl (by simp [hx, hy, hz]) rfl (by omega) (by simp [wordsOf, maxLenL]; omega)

set_option maxRecDepth 100000 in
theorem with_any (A T : Option Addr) (n c m d : Nat) (ws : List Nat) (l : List Int) (w : World) (hx : Good w w.heap.size (A, c, ws)) (hn : ws.length = n) (hmax : n ≤ 1099511627776) (hr : Sl w w.heap.size .i64 T l) (hm : l.length = m) (hmax2 : m ≤ 1099511627776) (hl : ∀ z ∈ l, -9223372036854775808 ≤ z ∧ z ≤ 9223372036854775807) :
    Calls Tryd.prog 13 #[.slice A n c, .slice T m d] w (Made w (joinL [ws, ofL l])) := by
  have HX := hide hx
  have HN := hide hn
  have HM := hide hm
  have HR := hide hr
  have HL := hide hl
  have hlo := ofL_len l
  clear hx hn hm hr hl
  go_enter Tryd.func13, Tryd.ntmps13
  go_wp2_with (first
    | (go_at_call 11; refine (of_any T m d l w HR.out HM.out hmax2 HL.out).mono ?_; rintro e w1 ⟨A1, c1, rfl, h1, h2, hs1, hb1⟩; have HS1 := hide hs1; clear hs1)
    | (go_at_call 25; refine (join_two A A1 n c _ c1 ws (ofL l) w1 ⟨(HX.out.1.below hb1).more hb1.size, HX.out.2⟩ ⟨HS1.out, ofL_w64 l, h1, h2⟩ HN.out rfl hmax (by omega)).mono ?_; rintro e w2 ⟨A2, c2, rfl, h3, h4, hs2, hb2⟩))
  go_ret
  exact ⟨A2, c2, rfl, h3, h4, hs2, hb1.trans (hb2.mono hb1.size)⟩
end Go.Proofs.YtechebecgfmplaaDoor
