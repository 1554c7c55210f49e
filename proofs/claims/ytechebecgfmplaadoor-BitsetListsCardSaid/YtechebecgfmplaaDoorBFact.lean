/- The contracts of the statements' fixed fact, of great, and of the reference's Same and Words. No condition. -/
import Derived.Test.YtechebecgfmplaaDoorBWith
namespace Go.Proofs.YtechebecgfmplaaDoor
open Go.RowKit

/-- A slice of integers that is written out, as the call meets it. -/
theorem Sl.lit' (w : World) (e : TypeId) (k : IntKind) (cs : Array Value) (zs : List Int) (h : cs.toList = zs.map (Value.int k)) : Sl (w.alloc (.cells cs e)) (w.alloc (.cells cs e)).heap.size k (some ⟨w.heap.size, 0, none⟩) zs := by
  have := Sl.lit w e k cs zs h
  rwa [show (w.alloc (.cells cs e)).heap.size = w.heap.size + 1 by simp]
theorem of_lit (w : World) (cs : Array Value) (zs : List Int) (m : Nat) (r : List Nat) (h : cs.toList = zs.map (Value.int .i64)) (hm : zs.length = m) (hmax : m ≤ 1099511627776) (hl : ∀ z ∈ zs, -9223372036854775808 ≤ z ∧ z ≤ 9223372036854775807) (hr : ofL zs = r) :
    Calls Tryd.prog 11 #[.slice (some ⟨w.heap.size, 0, none⟩) m m] (w.alloc (.cells cs 3)) (Made w r) := by
  subst hr
  refine (of_any _ m m zs (w.alloc (.cells cs 3)) (Sl.lit' w _ .i64 cs zs h) hm hmax hl).mono fun e w' hh => ?_
  obtain ⟨A, c, he, h1, h2, h3, h4⟩ := hh
  exact ⟨A, c, he, h1, h2, h3, ((Below.refl _ _).alloc (Nat.le_refl _) _).trans (h4.mono (by simp))⟩
theorem without_lit (A : Option Addr) (n c : Nat) (ws : List Nat) (w : World) (hx : Sl w w.heap.size .u64 A (nI ws)) (hn : ws.length = n) (hmax : n ≤ 1099511627776) (hw : W64 ws) (cs : Array Value) (zs : List Int) (m : Nat) (r : List Nat) (h : cs.toList = zs.map (Value.int .i64)) (hm : zs.length = m) (hmax2 : m ≤ 1099511627776) (hl : ∀ z ∈ zs, -9223372036854775808 ≤ z ∧ z ≤ 9223372036854775807) (hr : withoutL ws zs = r) :
    Calls Tryd.prog 15 #[.slice A n c, .slice (some ⟨w.heap.size, 0, none⟩) m m] (w.alloc (.cells cs 3)) (Made w r) := by
  subst hr
  refine (without_any A _ n c m m ws zs (w.alloc (.cells cs 3)) ((hx.alloc (Nat.le_refl _) _).more (by simp)) hn hmax hw (Sl.lit' w _ .i64 cs zs h) hm hmax2 hl).mono fun e w' hh => ?_
  obtain ⟨A, c, he, h1, h2, h3, h4⟩ := hh
  exact ⟨A, c, he, h1, h2, h3, ((Below.refl _ _).alloc (Nat.le_refl _) _).trans (h4.mono (by simp))⟩

set_option maxRecDepth 100000 in
theorem alive_any (w : World) : Calls Tryd.prog 5 #[] w fun e w' => e = .returned (.bool true) ∧ Below w.heap.size w w' := by
  have e1 := hide (show ofL [1, 70, -1, 4096] = [2, 64] by decide)
  have e2 := hide (show withoutL [2, 64] [70] = [2] by decide)
  have e3 := hide (show hasB [2, 64] 70 = true by decide)
  have e4 := hide (show hasB [2, 64] 2 = false by decide)
  have e5 := hide (show cnt [2, 64] = 2 by decide +kernel)
  have w2 := hide (show W64 [2, 64] from fun x hx => by simp at hx; omega)
  go_enter Tryd.func5, Tryd.ntmps5
  go_wp2_with (first
    | (go_at_call 11; refine (of_lit w _ [1, 70, -1, 4096] 4 [2, 64] rfl rfl (by omega) (by decide) e1.out).mono ?_; rintro e w1 ⟨A1, c1, rfl, h1, h2, hs1, hb1⟩; have HS1 := hide hs1; clear hs1)
    | (go_at_call 15; refine (without_lit A1 2 c1 [2, 64] w1 HS1.out rfl (by omega) w2.out _ [70] 1 [2] rfl rfl (by omega) (by decide) e2.out).mono ?_; rintro e w3 ⟨A3, c3, rfl, -, -, -, hb3⟩; have hc3 := hb1.trans (hb3.mono hb1.size))
    | (go_at_call_of 7 (70 : Int); refine (has_any A1 2 c1 [2, 64] 70 w3 _ (HS1.out.below hb3) rfl (by omega) w2.out (by omega)).mono ?_; rw [e3.out]; rintro e w' ⟨rfl, q, rfl⟩; have hc4 := below_drewN hc3 q)
    | (go_at_call 7; refine (has_any A1 2 c1 [2, 64] 2 _ _ ((HS1.out.below hb3).drewN _) rfl (by omega) w2.out (by omega)).mono ?_; rw [e4.out]; rintro e w' ⟨rfl, q2, rfl⟩; have hc5 := below_drewN hc4 q2)
    | (go_at_call 19; refine (count_any A1 2 c1 [2, 64] _ _ ((HS1.out.below hb3).drewN _) rfl (by omega) w2.out).mono ?_; rw [e5.out]; rintro e w' ⟨rfl, rfl⟩))
  all_goals
    go_ret
    exact ⟨rfl, by rw [← World.drewN_drewN]; exact hc5⟩

theorem great_yes (A T : Option Addr) (n c m d : Nat) (w : World) (h : 100 < n ∨ 100 < m) (hn : n ≤ 9223372036854775807) (hm : m ≤ 9223372036854775807) :
    Calls Tryd.prog 6 #[.slice A n c, .slice T m d] w fun e w' => e = .returned (.bool true) ∧ w = w' := by
  by_cases h1 : 100 < n
  · clear h
    go_enter Tryd.func6, Tryd.ntmps6
    go_wp2
    go_ret
    exact ⟨rfl, rfl⟩
  · have h2 : 100 < m := by omega
    clear h
    go_enter Tryd.func6, Tryd.ntmps6
    go_wp2
    go_ret
    exact ⟨ret_bool (by simp; omega), rfl⟩
theorem great_no (A T : Option Addr) (n c m d : Nat) (w : World) (h : n ≤ 100) (h2 : m ≤ 100) :
    Calls Tryd.prog 6 #[.slice A n c, .slice T m d] w fun e w' => e = .returned (.bool false) ∧ w = w' := by
  go_enter Tryd.func6, Tryd.ntmps6
  go_wp2
  go_ret
  exact ⟨ret_bool (by simp; omega), rfl⟩

set_option maxRecDepth 100000 in
theorem rsame_any (A T : Option Addr) (n c m d : Nat) (xs ys : List Nat) (w : World) (Bx By : Nat) (hx : Sl w Bx .u64 A (nI xs)) (hy : Sl w By .u64 T (nI ys)) (hn : xs.length = n) (hm : ys.length = m) (hmax : n ≤ 1099511627776) (hmax2 : m ≤ 1099511627776) :
    Calls Tryd.prog 24 #[.slice A n c, .slice T m d] w fun e w' => e = .returned (.bool (decide (neat xs = neat ys))) ∧ w = w' := by
  have HX := hide hx
  have HY := hide hy
  have HN := hide hn
  have HM := hide hm
  clear hx hy hn hm
  have hmx : (n < m ∧ max n m = m) ∨ (m ≤ n ∧ max n m = n) := by omega
  obtain ⟨p, hp⟩ : ∃ p, p = max n m := ⟨_, rfl⟩
  have HP := hide hp
  have hp2 : p ≤ 1099511627776 := by omega
  have hcases : (n < m ∧ p = m) ∨ (m ≤ n ∧ p = n) := by omega
  clear hmx hp
  rcases hcases with ⟨hc, he⟩ | ⟨hc, he⟩
  all_goals
    have HE := hide he
    clear he
    go_enter Tryd.func24, Tryd.ntmps24
    go_wp2
    go_loop [5] (fun i => ∃ k : Nat, k ≤ p ∧ i = .int .i64 (k : Int) ∧ Hid (∀ j, j < k → xs.getD j 0 = ys.getD j 0)) (fun i => p - (intOf i).toNat)
    case atStart => exact ⟨0, Nat.zero_le _, rfl, hide fun j hj => by omega⟩
    case round =>
      obtain ⟨k, hk, rfl, hrel⟩ := hrel
      by_cases hlt : k < p
      · have hlt2 : k < n ∨ k < m := by have := HP.out; omega
        have hlt3 := HE.out ▸ hlt
        by_cases hxy : xs.getD k 0 = ys.getD k 0
        · have hnext := hide (show ∀ j, j < k + 1 → xs.getD j 0 = ys.getD j 0 from fun j hj => by
            by_cases h : j = k
            · rw [h]; exact hxy
            · exact hrel.out j (by omega))
          have hb : (((xs.getD k 0 : Nat) : Int) != ((ys.getD k 0 : Nat) : Int)) = false := by rw [hxy]; simp
          generalize hgx : xs.getD k 0 = x at *
          generalize hgy : ys.getD k 0 = y at *
          have HGX := hide hgx
          have HGY := hide hgy
          clear hgx hgy hxy
          go_wp2_with (first
            | (go_at_call_of 35 A; refine (at_any A n c xs k w _ HX.out HN.out (by omega) (by omega)).mono ?_; rw [HGX.out]; rintro e w' ⟨rfl, rfl⟩)
            | (go_at_call_of 35 T; refine (at_any T m d ys k w _ HY.out HM.out (by omega) (by omega)).mono ?_; rw [HGY.out]; rintro e w' ⟨rfl, rfl⟩))
          go_round
          case rel => exact ⟨k + 1, by omega, by go_num, hnext⟩
          case measure => simp [intOf]; omega
        · have hd := hide (show ¬ neat xs = neat ys from fun h => hxy (neat_iff.1 h k))
          have hb : (((xs.getD k 0 : Nat) : Int) != ((ys.getD k 0 : Nat) : Int)) = true := by rw [bne_iff_ne]; omega
          generalize hgx : xs.getD k 0 = x at *
          generalize hgy : ys.getD k 0 = y at *
          have HGX := hide hgx
          have HGY := hide hgy
          clear hgx hgy hxy
          go_wp2_with (first
            | (go_at_call_of 35 A; refine (at_any A n c xs k w _ HX.out HN.out (by omega) (by omega)).mono ?_; rw [HGX.out]; rintro e w' ⟨rfl, rfl⟩)
            | (go_at_call_of 35 T; refine (at_any T m d ys k w _ HY.out HM.out (by omega) (by omega)).mono ?_; rw [HGY.out]; rintro e w' ⟨rfl, rfl⟩))
          go_ret
          exact ⟨ret_bool (by simpa using hd.out), rfl⟩
      · have hd := hide (show neat xs = neat ys from neat_eq fun i => by
          by_cases h : i < p
          · exact hrel.out i (by omega)
          · have := HP.out
            have := HN.out
            have := HM.out
            rw [getD_none (by omega), getD_none (by omega)])
        have hge := HE.out ▸ hlt
        go_wp2
        go_ret
        exact ⟨ret_bool (by simpa using hd.out), rfl⟩
theorem words_yes (A T : Option Addr) (n c m d : Nat) (xs : List Nat) (w : World) (Bx By : Nat) (hx : Sl w Bx .u64 A (nI xs)) (hy : Sl w By .u64 T (nI xs)) (hn : xs.length = n) (hm : xs.length = m) (hmax : n ≤ 1099511627776) :
    Calls Tryd.prog 10 #[.slice A n c, .slice T m d] w fun e w' => e = .returned (.bool true) ∧ w = w' := by
  have hnm : m = n := by omega
  subst hnm
  have H := hide (rsame_any A T m c m d xs xs w Bx By hx hy hn hm hmax hmax)
  clear hx hy hn hm
  go_enter Tryd.func10, Tryd.ntmps10
  go_wp2_with (go_at_call 24; refine H.out.mono ?_; rw [decide_eq_true rfl]; rintro e w' ⟨rfl, rfl⟩)
  go_ret
  exact ⟨rfl, rfl⟩
end Go.Proofs.YtechebecgfmplaaDoor
