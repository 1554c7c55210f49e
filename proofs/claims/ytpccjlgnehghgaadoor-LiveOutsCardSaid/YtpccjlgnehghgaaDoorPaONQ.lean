/- The contracts of the statements' fixed fact, of great, and of the reference's Same and Words. No condition. -/
import Derived.Test.YtpccjlgnehghgaaDoorPaONP
import Derived.Lib.TrailingZeros
import Derived.Shelf.Spec.TrailingZeros
import Derived.StillTailTactics
set_option linter.unusedSimpArgs false
set_option linter.unusedVariables false
namespace Go.Proofs.YtpccjlgnehghgaaDoor
open Go.RowKit

/-- A slice of integers that is written out, as the call meets it. -/
theorem Sl.lit' (w : World) (e : TypeId) (k : IntKind) (cs : Array Value) (zs : List Int) (h : cs.toList = zs.map (Value.int k)) : Sl (w.alloc (.cells cs e)) (w.alloc (.cells cs e)).heap.size k (some ⟨w.heap.size, 0, none⟩) zs := by
  have := Sl.lit w e k cs zs h
  rwa [show (w.alloc (.cells cs e)).heap.size = w.heap.size + 1 by simp]
set_option maxRecDepth 100000 in
theorem brsame_any (A T : Option Addr) (n c m d : Nat) (xs ys : List Nat) (w : World) (Bx By : Nat) (hx : Sl w Bx .u64 A (nI xs)) (hy : Sl w By .u64 T (nI ys)) (hn : xs.length = n) (hm : ys.length = m) (hmax : n ≤ 1099511627776) (hmax2 : m ≤ 1099511627776) :
    Calls Tryd.prog 54 #[.slice A n c, .slice T m d] w fun e w' => e = .returned (.bool (decide (neat xs = neat ys))) ∧ w = w' := by
  have HX := hide hx
  have HY := hide hy
  have HN := hide hn
  have HM := hide hm
  clear hx hy hn hm
  have hmx : (n < m ∧ max n m = m) ∨ (m ≤ n ∧ max n m = n) := by omega
  obtain ⟨p, hp⟩ : ∃ p, p = max n m := ⟨_, rfl⟩
  have HP := hide hp
  have hp2 : p ≤ 1099511627776 := by omega
  have hcases : (n < m ∧ p = m) ∨ (m ≤ n ∧ p = n) := by omega
  clear hmx hp
  rcases hcases with ⟨hc, he⟩ | ⟨hc, he⟩
  all_goals
    have HE := hide he
    clear he
    go_enter Tryd.func54, Tryd.ntmps54
    go_wp2
    go_loop [5] (fun i => ∃ k : Nat, k ≤ p ∧ i = .int .i64 (k : Int) ∧ Hid (∀ j, j < k → xs.getD j 0 = ys.getD j 0)) (fun i => p - (intOf i).toNat)
    case atStart => exact ⟨0, Nat.zero_le _, rfl, hide fun j hj => by omega⟩
    case round =>
      obtain ⟨k, hk, rfl, hrel⟩ := hrel
      by_cases hlt : k < p
      · have hlt2 : k < n ∨ k < m := by have := HP.out; omega
        have hlt3 := HE.out ▸ hlt
        by_cases hxy : xs.getD k 0 = ys.getD k 0
        · have hnext := hide (show ∀ j, j < k + 1 → xs.getD j 0 = ys.getD j 0 from fun j hj => by
            by_cases h : j = k
            · rw [h]; exact hxy
            · exact hrel.out j (by omega))
          have hb : (((xs.getD k 0 : Nat) : Int) != ((ys.getD k 0 : Nat) : Int)) = false := by rw [hxy]; simp
          generalize hgx : xs.getD k 0 = x at *
          generalize hgy : ys.getD k 0 = y at *
          have HGX := hide hgx
          have HGY := hide hgy
          clear hgx hgy hxy
          go_wp2_with (first
            | (go_at_call_of 81 A; refine (at_any A n c xs k w _ HX.out HN.out (by omega) (by omega)).mono ?_; rw [HGX.out]; rintro e w' ⟨rfl, rfl⟩)
            | (go_at_call_of 81 T; refine (at_any T m d ys k w _ HY.out HM.out (by omega) (by omega)).mono ?_; rw [HGY.out]; rintro e w' ⟨rfl, rfl⟩))
          go_round
          case rel => exact ⟨k + 1, by omega, by go_num, hnext⟩
          case measure => simp [intOf]; omega
        · have hd := hide (show ¬ neat xs = neat ys from fun h => hxy (neat_iff.1 h k))
          have hb : (((xs.getD k 0 : Nat) : Int) != ((ys.getD k 0 : Nat) : Int)) = true := by rw [bne_iff_ne]; omega
          generalize hgx : xs.getD k 0 = x at *
          generalize hgy : ys.getD k 0 = y at *
          have HGX := hide hgx
          have HGY := hide hgy
          clear hgx hgy hxy
          go_wp2_with (first
            | (go_at_call_of 81 A; refine (at_any A n c xs k w _ HX.out HN.out (by omega) (by omega)).mono ?_; rw [HGX.out]; rintro e w' ⟨rfl, rfl⟩)
            | (go_at_call_of 81 T; refine (at_any T m d ys k w _ HY.out HM.out (by omega) (by omega)).mono ?_; rw [HGY.out]; rintro e w' ⟨rfl, rfl⟩))
          go_ret
          exact ⟨ret_bool (by simpa using hd.out), rfl⟩
      · have hd := hide (show neat xs = neat ys from neat_eq fun i => by
          by_cases h : i < p
          · exact hrel.out i (by omega)
          · have := HP.out
            have := HN.out
            have := HM.out
            rw [getD_none (by omega), getD_none (by omega)])
        have hge := HE.out ▸ hlt
        go_wp2
        go_ret
        exact ⟨ret_bool (by simpa using hd.out), rfl⟩
theorem words_yes (A T : Option Addr) (n c m d : Nat) (xs : List Nat) (w : World) (Bx By : Nat) (hx : Sl w Bx .u64 A (nI xs)) (hy : Sl w By .u64 T (nI xs)) (hn : xs.length = n) (hm : xs.length = m) (hmax : n ≤ 1099511627776) :
    Calls Tryd.prog 13 #[.slice A n c, .slice T m d] w fun e w' => e = .returned (.bool true) ∧ w = w' := by
  have hnm : m = n := by omega
  subst hnm
  have H := hide (brsame_any A T m c m d xs xs w Bx By hx hy hn hm hmax hmax)
  clear hx hy hn hm
  go_enter Tryd.func13, Tryd.ntmps13
  go_wp2_with (go_at_call 54; refine H.out.mono ?_; rw [decide_eq_true rfl]; rintro e w' ⟨rfl, rfl⟩)
  go_ret
  exact ⟨rfl, rfl⟩
end Go.Proofs.YtpccjlgnehghgaaDoor
namespace Go.Proofs.YtpccjlgnehghgaaDoor
open Go.RowKit

set_option maxRecDepth 100000 in
set_option maxHeartbeats 1000000 in
theorem each_or (A T : Option Addr) (n c m d : Nat) (xs ys : List Nat) (w : World) (hx : Sl w w.heap.size .u64 A (nI xs)) (hy : Sl w w.heap.size .u64 T (nI ys)) (hn : xs.length = n) (hm : ys.length = m) (hmax : n ≤ 1000000000000) (hmax2 : m ≤ 1000000000000) (wx : W64 xs) (wy : W64 ys) :
    Calls Tryd.prog 72 #[.slice A n c, .slice T m d, .int .i64 0] w (MadeB w (neat (mapR (max n m) fun i => xs.getD i 0 ||| ys.getD i 0))) := by
  obtain ⟨i0, hi0, hz0, hz1, hz2⟩ := info_parts info_u64
  have HI := hide hi0
  have HX := hide hx
  have HY := hide hy
  have HN := hide hn
  have HM := hide hm
  have WX := hide wx
  have WY := hide wy
  clear hx hy hn hm hi0 wx wy
  obtain ⟨p, hp⟩ : ∃ p, max n m = p := ⟨_, rfl⟩
  rw [hp]
  have hp2 : p ≤ 1000000000000 := by omega
  have hcases : (n < m ∧ p = m) ∨ (m ≤ n ∧ p = n) := by omega
  clear hp
  obtain ⟨F, hF⟩ : ∃ F : Nat → Nat, F = fun i => xs.getD i 0 ||| ys.getD i 0 := ⟨_, rfl⟩
  rw [← hF]
  have HF := hide (fun i => congrFun hF i)
  clear hF
  rcases hcases with ⟨hc, he⟩ | ⟨hc, he⟩
  all_goals
    have HE := hide he
    clear he
    go_enter Tryd.func72, Tryd.ntmps72
    go_wp2
    go_loopw [7, 8] (fun v i wr => ∃ k : Nat, k ≤ p ∧ i = .int .i64 (k : Int) ∧ Ow wr w.heap.size 65 .u64 v (nI (mapR k F)) ∧ Below w.heap.size w wr) (fun _ i _ => p - (intOf i).toNat)
    case atStart => exact ⟨0, Nat.zero_le _, rfl, Ow.nil _ _ _ _, Below.refl _ _⟩
    case round =>
      obtain ⟨k, hk, rfl, ho, hb⟩ := hrel
      have HO := hide ho
      have hlen : (nI (mapR k F)).length ≤ 1000000000000 := by rw [nI_len, mapR_len]; omega
      clear ho
      by_cases hlt : k < p
      · have hlt3 := HE.out ▸ hlt
        have hxw := WX.out.getD k
        have hyw := WY.out.getD k
        have hop := hide (show bits .or .u64 ((xs.getD k 0 : Nat) : Int) ((ys.getD k 0 : Nat) : Int) = ((F k : Nat) : Int) by rw [u64_or_nat _ _ hxw hyw, HF.out] <;> rfl)
        have hsn := hide (show nI (mapR k F) ++ [((F k : Nat) : Int)] = nI (mapR (k + 1) F) by rw [mapR_snoc, nI_append]; rfl)
        generalize hgx : xs.getD k 0 = x at *
        generalize hgy : ys.getD k 0 = y at *
        have HGX := hide hgx
        have HGY := hide hgy
        clear hgx hgy
        go_wp2_with (first
          | (go_at_call_of 81 A; refine (at_any A n c xs k wr _ (HX.out.below hb) HN.out (by omega) (by omega)).mono ?_; rw [HGX.out]; rintro e w' ⟨rfl, rfl⟩)
          | (go_at_call_of 81 T; refine (at_any T m d ys k wr _ (HY.out.below hb) HM.out (by omega) (by omega)).mono ?_; rw [HGY.out]; rintro e w' ⟨rfl, rfl⟩)
          | (at_builtin; refine wpList_append_one _ rfl (.tmp 31) (.tmp 39) _ rfl w.heap.size 65 .u64 i0 _ 8 Tryd.underlying31 HI.out hz0 hz1 hz2 rfl (by omega) _ (nI (mapR k F)) rfl HO.out _ rfl (by omega) hb.size ?_; rw [hop.out, hsn.out]; intro v3 w3 ho3 hb3))
        go_roundw
        case rel => exact ⟨k + 1, by omega, by go_num, ho3, hb.trans hb3⟩
        case measure => simp [intOf]; omega
      · have hge := HE.out ▸ hlt
        have hkp := hide (show k = p by omega)
        obtain ⟨A2, c2, rfl, hc2, hcm2, hs2⟩ := HO.out.sl
        have hlp := hide (show (mapR k F).length = (nI (mapR k F)).length by rw [nI_len])
        have HS2 := hide hs2
        have HC2 := hide hcm2
        clear hs2 hcm2
        go_wp2_with (go_at_call 62; refine (neat_any A2 _ c2 (mapR k F) wr HS2.out hlp.out hc2 (by have := HC2.out; simp only [maxLen] at this; omega) (by omega)).mono ?_; rintro e w4 ⟨v4, rfl, ho4, hb4⟩; obtain ⟨A4, c4, rfl, h41, h42, hs4⟩ := ho4.sl)
        go_ret
        exact ⟨A4, c4, ret_slice (by rw [nI_len, hkp.out]), by rw [nI_len, hkp.out] at h41; exact h41, by simp only [maxLen] at h42; omega, by rw [hkp.out] at hs4; exact hs4, hb.trans (hb4.mono hb.size)⟩

theorem joinL_tidy (ls : List (List Nat)) : Tidy (joinL ls) := neat_tidy _
theorem join_next (ls : List (List Nat)) (l : List Nat) : neat (mapR (max (joinL ls).length l.length) fun i => (joinL ls).getD i 0 ||| l.getD i 0) = joinL (ls ++ [l]) :=
  tidy_ext (neat_tidy _) (joinL_tidy _) fun i => by
    rw [neat_getD, mapR_getD_all, joinL_getD, joinL_getD, orAll_snoc]
    intro j hj
    show (joinL ls).getD j 0 ||| l.getD j 0 = 0
    rw [getD_none (by omega), getD_none (by omega)]; rfl

set_option maxRecDepth 100000 in
set_option maxHeartbeats 1000000 in
theorem rjoin_any (L : Option Addr) (m c : Nat) (ls : List (Option Addr × Nat × List Nat)) (w : World) (hl : Sls w w.heap.size L ls) (hg : ∀ t ∈ ls, Good w w.heap.size t) (hm : ls.length = m) (hmax : m ≤ 1000000000000) (hlen : maxLenL (wordsOf ls) ≤ 1000000000000) :
    Calls Tryd.prog 32 #[.slice L m c] w (MadeB w (joinL (wordsOf ls))) := by
  have HL := hide hl
  have HG := hide hg
  have HM := hide hm
  clear hl hg hm
  go_enter Tryd.func32, Tryd.ntmps32
  go_wp2
  go_loopw [3, 4] (fun v i wr => ∃ (k : Nat) (A1 : Option Addr) (c1 : Nat), k ≤ m ∧ i = .int .i64 (k : Int) ∧ v = .slice A1 (joinL (wordsOf (ls.take k))).length c1 ∧ (joinL (wordsOf (ls.take k))).length ≤ c1 ∧ c1 ≤ 9223372036854775807 ∧ Sl wr wr.heap.size .u64 A1 (nI (joinL (wordsOf (ls.take k)))) ∧ Below w.heap.size w wr) (fun _ i _ => m - (intOf i).toNat)
  case atStart => exact ⟨0, none, 0, Nat.zero_le _, rfl, rfl, Nat.le_refl _, by omega, Sl.nil _ _ _ _, Below.refl _ _⟩
  case round =>
    obtain ⟨k, A1, c1, hk, rfl, rfl, h1, h2, hs, hb⟩ := hrel
    have HS := hide hs
    clear hs
    have hjl : (joinL (wordsOf (ls.take k))).length ≤ 1000000000000 := Nat.le_trans (joinL_le (m := maxLenL (wordsOf ls)) (by rw [wordsOf, List.map_take]; exact maxLenL_take _)) hlen
    have hjw := hide (show W64 (joinL (wordsOf (ls.take k))) from joinL_w64 fun l hl => by
      obtain ⟨t, ht', rfl⟩ := List.mem_map.1 hl
      exact (HG.out t (List.mem_of_mem_take ht')).2.1)
    by_cases hlt : k < m
    · have hkl : k < ls.length := by have := HM.out; omega
      obtain ⟨b, o, rfl, hbB, hcell⟩ := HL.out (by omega)
      obtain ⟨⟨T, d, ys⟩, ht⟩ : ∃ t, ls[k]? = some t := ⟨_, List.getElem?_eq_getElem hkl⟩
      have g1 := hcell k _ ht
      have hgd := HG.out _ (List.mem_of_getElem? ht)
      simp only at g1
      have g2 : wr.cell? ⟨b, o + k, none⟩ = some (.slice T ys.length d) := by rw [hb.cell hbB, g1]
      have hyl : ys.length ≤ 1000000000000 := Nat.le_trans (maxLenL_ge (List.mem_map.2 ⟨_, List.mem_of_getElem? ht, rfl⟩)) hlen
      have hsn := hide (show neat (mapR (max (joinL (wordsOf (ls.take k))).length ys.length) fun i => (joinL (wordsOf (ls.take k))).getD i 0 ||| ys.getD i 0) = joinL (wordsOf (ls.take (k + 1))) by
        rw [join_next, take_snoc ht, wordsOf, wordsOf, List.map_append, List.map_cons, List.map_nil])
      have HGD := hide hgd
      clear hcell hkl ht g1 hgd
      generalize joinL (wordsOf (ls.take k)) = js at *
      go_wp2_with (go_at_call 72; refine (each_or A1 T _ c1 _ d js ys wr HS.out ((HGD.out.1.below hb).more hb.size) rfl rfl hjl hyl hjw.out HGD.out.2.1).mono ?_; rw [hsn.out]; rintro e w2 ⟨A3, c3, rfl, h31, h32, hs3, hb3⟩)
      go_roundw
      case rel => exact ⟨k + 1, A3, c3, by omega, by go_num, rfl, h31, h32, hs3, hb.trans (hb3.mono hb.size)⟩
      case measure => simp [intOf]; omega
    · have hfin := hide (show joinL (wordsOf (ls.take k)) = joinL (wordsOf ls) by rw [List.take_of_length_le (by have := HM.out; omega)])
      go_wp2
      go_ret
      exact ⟨A1, c1, ret_slice (by rw [hfin.out]), by rw [← hfin.out]; exact h1, h2, by rw [← hfin.out]; exact HS.out, hb⟩
theorem rjoin_two (A T : Option Addr) (n c m d : Nat) (xs ys : List Nat) (w : World) (hx : Good w w.heap.size (A, c, xs)) (hy : Good w w.heap.size (T, d, ys)) (hn : xs.length = n) (hm : ys.length = m) (hmax : n ≤ 1000000000000) (hmax2 : m ≤ 1000000000000) :
    Calls Tryd.prog 32 #[.slice (some ⟨w.heap.size, 0, none⟩) 2 2] (w.alloc (.cells #[.slice A n c, .slice T m d] 31)) (MadeB w (joinL [xs, ys])) := by
  subst hn
  subst hm
  have hz : (w.alloc (.cells #[.slice A xs.length c, .slice T ys.length d] 31)).heap.size = w.heap.size + 1 := by simp
  have hs := Sls.lit w 31 #[.slice A xs.length c, .slice T ys.length d] [(A, c, xs), (T, d, ys)] rfl
  rw [← hz] at hs
  refine (rjoin_any _ 2 2 [(A, c, xs), (T, d, ys)] _ hs (fun t ht => by
    rw [hz]
    simp only [List.mem_cons, List.not_mem_nil, or_false] at ht
    rcases ht with rfl | rfl
    · exact hx.alloc _
    · exact hy.alloc _) rfl (by omega) (by simp [wordsOf, maxLenL]; omega)).mono fun e w' hh => ?_
  obtain ⟨A, c, he, h1, h2, h3, h4⟩ := hh
  exact ⟨A, c, he, h1, h2, h3, ((Below.refl _ _).alloc (Nat.le_refl _) _).trans (h4.mono (by omega))⟩
end Go.Proofs.YtpccjlgnehghgaaDoor
namespace Go.Proofs.YtpccjlgnehghgaaDoor

end Go.Proofs.YtpccjlgnehghgaaDoor
namespace Go.Proofs.YtpccjlgnehghgaaDoor
open Go.RowKit

/-- The library's table, as its initialiser lays it. -/
def TabW (w : World) : Prop := 0 < w.heap.size ∧ ∀ j, j < 64 → w.cell? ⟨0, j, none⟩ = some (.int .u8 ((Lib.deBruijn64tab.getD j 0 : Nat) : Int))
theorem TabW.below {w w' : World} {B : Nat} (h : TabW w) (hb : Below B w w') (hB : 0 < B) : TabW w' := ⟨by have := h.1; have := hb.size; omega, fun j hj => (hb.cell (p := ⟨0, j, none⟩) hB).trans (h.2 j hj)⟩

end Go.Proofs.YtpccjlgnehghgaaDoor
namespace Go.Proofs.YtpccjlgnehghgaaDoor
open Go.RowKit

end Go.Proofs.YtpccjlgnehghgaaDoor
namespace Go.Proofs.YtpccjlgnehghgaaDoor
open Go.RowKit

end Go.Proofs.YtpccjlgnehghgaaDoor
namespace Go.Proofs.YtpccjlgnehghgaaDoor
open Go.RowKit

end Go.Proofs.YtpccjlgnehghgaaDoor
