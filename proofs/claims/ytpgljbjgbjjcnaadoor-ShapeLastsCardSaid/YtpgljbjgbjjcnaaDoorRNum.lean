/- The reference's writer in memory, and the contracts of its Parts, has, field, num. Condition: no more than 2^30 bytes ahead. -/
import Derived.Test.YtpgljbjgbjjcnaaDoorRSame
import Derived.Test.YtpgljbjgbjjcnaaDoorCRead
import Derived.Test.YtpgljbjgbjjcnaaDoorCWIns
import Derived.Test.YtpgljbjgbjjcnaaDoorCMayF
set_option linter.unusedSimpArgs false
set_option linter.unusedVariables false
namespace Go.Proofs.YtpgljbjgbjjcnaaDoor
open Go.RowKit

theorem partsN_at {op : Int} {l : List Nat} (j : Nat) (hj : op = j) (hl : partsT.getD j [] = l) : partsN op = l := by
  subst hj; unfold partsN; rw [if_neg (by omega)]; exact hl
theorem partsN_not {op : Int} (h : ∀ j : Nat, 1 ≤ j → j ≤ 23 → op ≠ j) : partsN op = [] := by
  unfold partsN
  split
  · rfl
  · by_cases hj : op.toNat < 24
    · have h0 : op.toNat = 0 := by
        have := h op.toNat
        omega
      rw [h0]; rfl
    · rw [List.getD, List.getElem?_eq_none (show partsT.length ≤ op.toNat by show 24 ≤ _; omega)]; rfl
set_option maxRecDepth 100000 in
theorem rparts_any (op : Int) (w : World) :
    Calls Tryd.prog 23 #[.int .i64 op] w fun e w' => e = .returned (.string (strOf (partsN op))) ∧ w = w' := by
  by_cases hin : 1 ≤ op ∧ op ≤ 23
  · obtain ⟨h1, h2⟩ := hin
    obtain ⟨j, rfl⟩ : ∃ j : Nat, op = j := ⟨op.toNat, by omega⟩
    have hj : j = 1 ∨ j = 2 ∨ j = 3 ∨ j = 4 ∨ j = 5 ∨ j = 6 ∨ j = 7 ∨ j = 8 ∨ j = 9 ∨ j = 10 ∨ j = 11 ∨ j = 12 ∨ j = 13 ∨ j = 14 ∨ j = 15 ∨ j = 16 ∨ j = 17 ∨ j = 18 ∨ j = 19 ∨ j = 20 ∨ j = 21 ∨ j = 22 ∨ j = 23 := by omega
    clear h1 h2
    rcases hj with rfl | rfl | rfl | rfl | rfl | rfl | rfl | rfl | rfl | rfl | rfl | rfl | rfl | rfl | rfl | rfl | rfl | rfl | rfl | rfl | rfl | rfl | rfl
    all_goals
      go_enter Tryd.func23, Tryd.ntmps23
      go_wp2
      go_ret
      exact ⟨rfl, rfl⟩
  · have he := hide (show strOf (partsN op) = ⟨#[]⟩ by rw [partsN_not (fun j h1 h2 h => hin (by omega))]; rfl)
    have g : ∀ j : Int, 1 ≤ j → j ≤ 23 → (op == j) = false := fun j h1 h2 => by simp; omega
    have g1 := g 1 (by omega) (by omega); have g2 := g 2 (by omega) (by omega); have g3 := g 3 (by omega) (by omega); have g4 := g 4 (by omega) (by omega)
    have g5 := g 5 (by omega) (by omega); have g6 := g 6 (by omega) (by omega); have g7 := g 7 (by omega) (by omega); have g8 := g 8 (by omega) (by omega)
    have g9 := g 9 (by omega) (by omega); have g10 := g 10 (by omega) (by omega); have g11 := g 11 (by omega) (by omega); have g12 := g 12 (by omega) (by omega)
    have g13 := g 13 (by omega) (by omega); have g14 := g 14 (by omega) (by omega); have g15 := g 15 (by omega) (by omega); have g16 := g 16 (by omega) (by omega)
    have g17 := g 17 (by omega) (by omega); have g18 := g 18 (by omega) (by omega); have g19 := g 19 (by omega) (by omega); have g20 := g 20 (by omega) (by omega)
    have g21 := g 21 (by omega) (by omega); have g22 := g 22 (by omega) (by omega); have g23 := g 23 (by omega) (by omega)
    clear g hin
    go_enter Tryd.func23, Tryd.ntmps23
    go_wp2
    go_ret
    exact ⟨ret_str he.out.symm, rfl⟩

set_option maxRecDepth 100000 in
theorem rhas_any (l : List Nat) (c : Nat) (w : World) (hl : ∀ c ∈ l, isLetter c) (hlen : l.length ≤ 100) :
    Calls Tryd.prog 78 #[.string (strOf l), .int .u8 (c : Int)] w fun e w' => e = .returned (.bool (decide (c ∈ l))) ∧ w = w' := by
  obtain ⟨s, hs⟩ : ∃ s, strOf l = s := ⟨_, rfl⟩
  have hz : s.size = l.length := by rw [← hs, strOf_size]
  have hg : ∀ (k d : Nat), l[k]? = some d → ∀ hk : k < s.size, (s[k]'hk).toNat = d := fun k d hd hk => by subst hs; exact strOf_get hl hd hk
  rw [hs]
  have HG := hide hg
  have HZ := hide hz
  have hmx : s.size ≤ 100 := by omega
  clear hg hz hs
  go_enter Tryd.func78, Tryd.ntmps78
  go_wp2
  go_loop [5] (fun i => ∃ k : Nat, k ≤ s.size ∧ i = .int .i64 k ∧ Hid (c ∉ l.take k)) (fun i => s.size - (intOf i).toNat)
  case atStart => exact ⟨0, Nat.zero_le _, rfl, hide (by simp)⟩
  case round =>
    obtain ⟨k, hk, rfl, hno⟩ := hrel
    by_cases hlt : k < s.size
    · obtain ⟨d, hd⟩ : ∃ d, l[k]? = some d := ⟨_, List.getElem?_eq_getElem (by have := HZ.out; omega)⟩
      have e := HG.out k d hd hlt
      have HD := hide hd
      clear hd
      by_cases hcd : d = c
      · subst hcd
        have hv := hide (decide_eq_true (show d ∈ l from List.mem_of_getElem? HD.out))
        go_wp2
        go_ret
        exact ⟨ret_bool hv.out.symm, rfl⟩
      · have hne : ((d : Int) == (c : Int)) = false := by simp; omega
        have hn := hide (show c ∉ l.take (k + 1) by
          rw [List.take_add_one, HD.out]
          intro hm
          rcases List.mem_append.1 hm with h | h
          · exact hno.out h
          · simp at h; exact hcd h.symm)
        clear hcd
        go_wp2
        go_round
        case rel => exact ⟨k + 1, by omega, by go_num, hn⟩
        case measure => simp [intOf]; omega
    · have hv := hide (decide_eq_false (show ¬ c ∈ l from fun h => hno.out (by rw [List.take_of_length_le (by have := HZ.out; omega)]; exact h)))
      go_wp2
      go_ret
      exact ⟨ret_bool hv.out.symm, rfl⟩

theorem rfield_any (x : InsV) (A : Option Addr) (n m c : Nat) (w : World) (hc : isLetter c) :
    Calls Tryd.prog 77 #[.agg #[.int .i64 x.op, .int .i64 x.d, .int .i64 x.a, .int .i64 x.b, .int .i64 x.n, .int .i64 x.m, .slice A n m], .int .u8 (c : Int)] w fun e w' => e = .returned (.int .i64 (fieldOf c x)) ∧ Below w.heap.size w w' := by
  unfold isLetter at hc
  rcases hc with rfl | rfl | rfl | rfl | rfl | rfl | rfl
  all_goals
    go_enter Tryd.func77, Tryd.ntmps77
    go_wp2
    go_ret
    exact ⟨rfl, alloc1 w _⟩

/-- The reference's writer behind a pointer: bytes, and whether all could be put. -/
def RW (w : World) (g : Nat) (s : List Int × Bool) : Prop :=
  ∃ A c, Box w g #[.slice A s.1.length c, .bool s.2] 65 ∧ Sl w w.heap.size .u8 A s.1 ∧ (∀ a, A = some a → a.block ≠ g) ∧ s.1.length ≤ c
theorem RW.lt {w : World} {g : Nat} {s : List Int × Bool} (h : RW w g s) : g < w.heap.size := by
  obtain ⟨A, c, hb, -⟩ := h
  exact hb.lt
theorem Sl.other {w : World} {B g j : Nat} {A : Option Addr} {zs : List Int} {v : Value} (h : Sl w B .u8 A zs) (hg : ∀ a, A = some a → a.block ≠ g) : Sl (w.setCell ⟨g, j, none⟩ v) B .u8 A zs := fun hp => by
  obtain ⟨b, o, e, hb, hc⟩ := h hp
  refine ⟨b, o, e, hb, fun i hi => ?_⟩
  have hne : b ≠ g := hg _ e
  rw [← hc i hi]
  exact World.cell?_of_block (a := ⟨b, o + i, none⟩) (heap_setCell_other w ⟨g, j, none⟩ b v hne)
theorem RW.below {w w1 : World} {g : Nat} {s : List Int × Bool} (h : RW w g s) (hb : Below w.heap.size w w1) : RW w1 g s := by
  obtain ⟨A, c, hx, hs, hg, hc⟩ := h
  exact ⟨A, c, hx.below hb, (hs.below hb).more hb.size, hg, hc⟩
theorem RW.drewN {w : World} {g : Nat} {s : List Int × Bool} (h : RW w g s) (q : Nat) : RW (w.drewN q) g s := h
theorem RW.no {w : World} {g : Nat} {s : List Int × Bool} (h : RW w g s) : RW (w.setCell ⟨g, 1, none⟩ (.bool false)) g (s.1, false) := by
  obtain ⟨A, c, hx, hs, hg, hc⟩ := h
  exact ⟨A, c, hx.set 1 _, (hs.other hg).more (by simp), hg, hc⟩
theorem RW.stored {w : World} {g base : Nat} {u v : Value} {ok : Bool} {zs : List Int} (hx : Box w g #[u, .bool ok] 65) (ho : Ow w base 5 .u8 v zs) (hg : g < base) : RW (w.setCell ⟨g, 0, none⟩ v) g (zs, ok) := by
  have hne : ∀ A n c, v = .slice A n c → ∀ a, A = some a → a.block ≠ g := fun A n c e a ha => by
    subst ha
    rcases ho.2 with ⟨hv, -⟩ | ⟨g', cap, cur, hv, hg', -⟩
    · rw [hv] at e; injection e with e1; cases e1
    · rw [hv] at e; injection e with e1; injection e1 with e2; subst e2; show g' ≠ g; omega
  obtain ⟨A, c, rfl, hc, -, hs⟩ := ho.sl
  exact ⟨A, c, hx.set 0 _, (hs.other (hne _ _ _ rfl)).more (by simp), hne _ _ _ rfl, hc⟩
theorem encL_I (x : Int) : encL [x] = encI x := by simp [encL]

set_option maxRecDepth 100000 in
theorem rnum_any (x : Int) (g : Nat) (s : List Int × Bool) (w : World) (hW : RW w g s) (hx : i64R x) (hroom : s.1.length ≤ 1073741824) :
    Calls Tryd.prog 45 #[.pointer (some ⟨g, 0, none⟩), .int .i64 x] w fun e w' => e = .returned (.tuple #[]) ∧ RW w' g (s.1 ++ encL [x], s.2 && decide (0 ≤ x)) ∧ Read g w w' := by
  have HW := hide hW
  rw [encL_I]
  obtain ⟨A, c, hbx, hs, hg, hc⟩ := hW
  obtain ⟨e0, -⟩ := hbx.cell 0 (v := .slice A s.1.length c) rfl
  obtain ⟨e1, e2⟩ := hbx.cell 1 (v := .bool s.2) rfl
  have e3 := (hbx.cell 0 (v := .slice A s.1.length c) rfl).2
  have hlt := hbx.lt
  by_cases h : x < 0
  · have HX := hide (show RW (w.setCell ⟨g, 1, none⟩ (.bool false)) g (s.1 ++ encI x, s.2 && decide (0 ≤ x)) ∧ Read g w (w.setCell ⟨g, 1, none⟩ (.bool false)) by
      have hn : ¬ 0 ≤ x := by omega
      have he : encI x = [] := by unfold encI; rw [if_pos h]
      rw [he, List.append_nil, decide_eq_false hn, Bool.and_false]
      exact ⟨HW.out.no, (Read.refl g w).set (.inr rfl)⟩)
    clear hbx hs
    go_enter Tryd.func45, Tryd.ntmps45
    go_wp2
    refine bodyPost_ret (results_none rfl _ _ _) rfl ⟨rfl, HX.out⟩
  · have hd : decide (0 ≤ x) = true := by simpa using h
    have HP := hide (rput_any A s.1.length c s.1 x w hs rfl hroom hx)
    have HB := hide hbx
    obtain ⟨ys, ok⟩ := s
    simp only at *
    rw [hd, Bool.and_true]
    generalize ys.length = n at *
    clear hbx hs hd
    go_enter Tryd.func45, Tryd.ntmps45
    go_wp2_with (go_at_call 75; refine HP.out.mono ?_; rintro e w1 ⟨v, rfl, ho, hb1⟩; obtain ⟨A1, c1, hv, -, -, -⟩ := ho.sl; obtain ⟨n1, hn1⟩ : ∃ n1, (ys ++ encI x).length = n1 := ⟨_, rfl⟩; rw [hn1] at hv; subst hv; clear hn1; have hbx := HB.out.below hb1; have f0 := (hbx.cell 0 (v := .slice A n c) rfl); obtain ⟨f1, f2⟩ := f0; have hl1 := hbx.lt; have HB1 := hide hbx; have HO := hide ho; have HBW := hide hb1; clear hbx ho hb1)
    go_end0
    exact ⟨rfl, RW.stored HB1.out HO.out hlt, (Read.of_below HBW.out).set (.inr rfl)⟩
end Go.Proofs.YtpgljbjgbjjcnaaDoor
