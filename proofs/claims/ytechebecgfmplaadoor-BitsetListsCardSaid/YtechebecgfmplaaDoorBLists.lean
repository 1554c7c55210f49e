/- The statement BitsetLists, walked: it answers true. Condition: the library's table lies as its initialiser lays it (more than 60 words: at once). -/
import Derived.Test.YtechebecgfmplaaDoorBList
namespace Go.Proofs.YtechebecgfmplaaDoor
open Go.RowKit

theorem qd {P : Program} {f : FuncId} {args : Array Value} {w : World} {n : Nat} {v : Value} (h : Calls P f args (w.drewN n) fun e w' => e = .returned v ∧ ∃ q, w' = (w.drewN n).drewN q) :
    Calls P f args (w.drewN n) fun e w'' => e = .returned v ∧ ∃ m, w'' = w.drewN m := h.mono fun _ _ ⟨he, q, hw⟩ => ⟨he, n + q, by rw [hw, World.drewN_drewN]⟩
theorem has_is (A : Option Addr) (n c : Nat) (ws : List Nat) (m : Int) (b : Bool) (w : World) (k : Nat) (B : Nat) (hr : Sl w B .u64 A (nI ws)) (hn : ws.length = n) (hmax : n ≤ 1099511627776) (hw : W64 ws) (hm : -9223372036854775808 ≤ m ∧ m ≤ 9223372036854775807) (hb : hasB ws m = b) :
    Calls Tryd.prog 7 #[.slice A n c, .int .i64 m] (w.drewN k) fun e w' => e = .returned (.bool b) ∧ ∃ q, w' = w.drewN q := by
  subst hb
  exact qd (has_any A n c ws m (w.drewN k) B (hr.drewN k) hn hmax hw hm)

set_option maxRecDepth 100000 in
set_option maxHeartbeats 4000000 in
theorem lists_law (A : Option Addr) (n c : Nat) (xs : List Nat) (w : World) (hx : Sl w w.heap.size .u64 A (nI xs)) (hn : xs.length = n) (hc : n ≤ c) (hc2 : c ≤ 9223372036854775807) (wx : W64 xs) (hT : TabW w) :
    Calls Tryd.prog 4 #[.slice A n c] w fun e w' => e = .returned (.bool true) ∧ Below w.heap.size w w' := by
  have HX := hide hx
  have HN := hide hn
  have WX := hide wx
  have HT := hide hT
  have hT0 := hT.1
  by_cases h60 : 60 < n
  · clear hx hn wx hT
    go_enter Tryd.func4, Tryd.ntmps4
    go_wp2_with (go_at_call 5; refine (alive_any _).mono ?_; rintro e w1 ⟨rfl, hb1⟩)
    go_ret
    exact ⟨rfl, hb1⟩
  · have hn60 : n ≤ 60 := by omega
    have hll : (listL xs).length ≤ 3840 := by have := listL_len xs; omega
    have q1 := hide (of_list wx (by omega))
    have q2 := hide (listL_cnt xs)
    have q3 := hide (less_self wx)
    have q5 : (((listL xs).length : Int) == ((cnt xs : Nat) : Int)) = true := by rw [beq_iff_eq, q2.out]
    have hcl : cnt xs ≤ 3840 := by rw [← q2.out]; exact hll
    have hlo : (ofL (listL xs)).length ≤ 64 := ofL_len _
    have HLM := hide (show ∀ z ∈ listL xs, -9223372036854775808 ≤ z ∧ z ≤ 9223372036854775807 from fun z hz => by
      have h := (listN_mem xs z _).1 hz
      have h1 := h.1
      have h2 := h.2.1
      omega)
    clear hx hn wx hT
    go_enter Tryd.func4, Tryd.ntmps4
    go_wp2_with (first
      | (go_at_call 5; refine (alive_any _).mono ?_; rintro e w1 ⟨rfl, hb1⟩)
      | (go_at_call 18; refine (list_any A n c xs w1 ((HX.out.below hb1).more hb1.size) HN.out (by omega) WX.out (HT.out.below hb1 hT0)).mono ?_; rintro e w2 ⟨v2, rfl, ho2, hb2⟩))
    obtain ⟨A2, c2, rfl, hc2a, hc2b, hs2⟩ := ho2.sl
    have HS2 := hide hs2
    have z2 := hb1.trans (hb2.mono hb1.size)
    clear hs2 ho2
    go_loopw [4] (fun i wr => ∃ k : Nat, k ≤ (listL xs).length ∧ i = .int .i64 (k : Int) ∧ Below w.heap.size w wr ∧ Below w2.heap.size w2 wr) (fun i _ => (listL xs).length - (intOf i).toNat)
    case atStart => exact ⟨0, Nat.zero_le _, rfl, z2, Below.refl _ _⟩
    case round =>
      obtain ⟨k, hk, rfl, hb, hbb⟩ := hrel
      by_cases hlt : k < (listL xs).length
      · obtain ⟨b, o, rfl, hbB, hcell⟩ := HS2.out (by omega)
        obtain ⟨z, hz⟩ : ∃ z, (listL xs)[k]? = some z := ⟨_, List.getElem?_eq_getElem hlt⟩
        obtain ⟨hz1, hz2, hz3⟩ := listL_at hz
        have g1 : wr.cell? ⟨b, o + k, none⟩ = some (.int .i64 z) := by rw [hbb.cell hbB, hcell k hlt]; simp [List.getD, hz]
        have HZ := hide hz1
        have hzr : -9223372036854775808 ≤ z ∧ z ≤ 9223372036854775807 := by have := HN.out; omega
        have hslr := hide (HX.out.below hb)
        by_cases hk0 : k = 0
        · subst hk0
          rw [Nat.add_zero] at g1
          clear hcell hz hz1 hz2 hz3
          go_wp2
          go_quiet ((go_at_call 7; exact has_is A n c xs z true _ _ _ hslr.out HN.out (by omega) WX.out hzr HZ.out))
          go_wp2
          go_roundw
          case rel => exact ⟨1, by omega, by go_num, below_drewN hb _, below_drewN hbb _⟩
          case measure => simp [intOf]; omega
        · obtain ⟨j, rfl⟩ : ∃ j, k = j + 1 := ⟨k - 1, by omega⟩
          have hjl : j < (listL xs).length := by omega
          obtain ⟨y, hy⟩ : ∃ y, (listL xs)[j]? = some y := ⟨_, List.getElem?_eq_getElem hjl⟩
          have g2 : wr.cell? ⟨b, o + j, none⟩ = some (.int .i64 y) := by rw [hbb.cell hbB, hcell j hjl]; simp [List.getD, hy]
          have hyz := listL_lt hy hz
          have hge : decide (z ≤ y) = false := by simp <;> omega
          have hge2 : decide (y ≥ z) = false := by simp <;> omega
          have hpos : decide ((0 : Int) < ((j + 1 : Nat) : Int)) = true := by simp <;> omega
          have hpos2 : (0 : Int) < (j : Int) + 1 := by omega
          have e1 : IntKind.i64.wrap ((j : Int) + 1 - 1) = (j : Int) := by rw [show (j : Int) + 1 - 1 = (j : Int) by omega]; exact IntWalk.i64_in _ ⟨by omega, by omega⟩
          clear hcell hz hz1 hz2 hz3 hy
          go_wp2
          go_quiet ((go_at_call 7; exact has_is A n c xs z true _ _ _ hslr.out HN.out (by omega) WX.out hzr HZ.out))
          go_wp2
          go_roundw
          case rel => exact ⟨j + 1 + 1, by omega, by go_num, below_drewN hb _, below_drewN hbb _⟩
          case measure => simp [intOf]; omega
      · have hkl := hide (show (listL xs).length = k by omega)
        have HS3 := hide (HS2.out.below hbb)
        go_wp2_with (first
          | (go_at_call 21; refine (holds_any A A n c n c xs xs (w3.drewN q4) ((HX.out.below z4).more z4.size) ((HX.out.below z4).more z4.size) HN.out HN.out hc hc2 (by omega) WX.out WX.out).mono ?_; rw [decide_eq_true q3.out]; rintro e w5 ⟨rfl, hb5⟩; have z5 := z4.trans (hb5.mono z4.size))
          | (go_at_call_of 20 A3; refine (same_any A3 A _ c3 n c (ofL (listL xs)) xs w3 _ _ hs3.out (HX.out.below z3) rfl HN.out h31 h32 hc hc2 (by omega) (by omega)).mono ?_; rw [decide_eq_true q1.out]; rintro e w' ⟨rfl, q4, rfl⟩; have z4 := below_drewN z3 q4)
          | (go_at_call 20; refine (same_any A A n c n c xs xs w5 _ _ (HX.out.below z5) (HX.out.below z5) HN.out HN.out hc hc2 hc hc2 (by omega) (by omega)).mono ?_; rw [decide_eq_true rfl]; rintro e w' ⟨rfl, q6, rfl⟩; have z6 := below_drewN z5 q6)
          | (go_at_call 11; refine (of_any A2 _ c2 (listL xs) wr (HS3.out.more (by have := hbb.size; omega)) rfl (by omega) HLM.out).mono ?_; rintro e w3 ⟨A3, c3, rfl, h31, h32, hs3', hb3⟩; have hs3 := hide hs3'; clear hs3'; have z3 := hb.trans (hb3.mono hb.size))
          | (go_at_call 19; refine (count_any A n c xs (w3.drewN q4) _ (HX.out.below z4) HN.out (by omega) WX.out).mono ?_; rintro e w' ⟨rfl, rfl⟩))
        all_goals
          go_ret
          exact ⟨rfl, z6⟩
end Go.Proofs.YtechebecgfmplaaDoor
