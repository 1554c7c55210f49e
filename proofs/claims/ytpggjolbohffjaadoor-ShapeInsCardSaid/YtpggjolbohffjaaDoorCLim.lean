/- The contracts of countLimits' closures, and of limits' block, function, prog. No condition. -/
import Derived.Test.YtpggjolbohffjaaDoorCMem
import Derived.Test.YtpggjolbohffjaaDoorProg
import Derived.BigQuiet
import Derived.Deep.QuietTactic
set_option linter.unusedSimpArgs false
set_option linter.unusedVariables false
namespace Go.Proofs.YtpggjolbohffjaaDoor
open Go.RowKit

theorem from_any (n lo hi : Int) (b1 b2 : Nat) (w : World) (h1 : w.cell? ⟨b1, 0, none⟩ = some (.int .i64 lo)) (h2 : w.cell? ⟨b2, 0, none⟩ = some (.int .i64 hi)) :
    Calls Tryd.prog 53 #[.int .i64 n, .pointer (some ⟨b1, 0, none⟩), .pointer (some ⟨b2, 0, none⟩)] w fun e w' => e = .returned (.bool (decide (lo ≤ n) && decide (n ≤ hi))) ∧ w = w' := by
  go_enter Tryd.func53, Tryd.ntmps53
  go_wp2
  all_goals
    go_ret
    exact ⟨by simp [*] <;> omega, rfl⟩

theorem from_yes (n lo hi : Int) (b1 b2 : Nat) (w : World) (h1 : w.cell? ⟨b1, 0, none⟩ = some (.int .i64 lo)) (h2 : w.cell? ⟨b2, 0, none⟩ = some (.int .i64 hi)) (hl : lo ≤ n) (hh : n ≤ hi) :
    Calls Tryd.prog 53 #[.int .i64 n, .pointer (some ⟨b1, 0, none⟩), .pointer (some ⟨b2, 0, none⟩)] w fun e w' => e = .returned (.bool true) ∧ w = w' :=
  (from_any n lo hi b1 b2 w h1 h2).mono fun e w' ⟨he, hw⟩ => ⟨by rw [he]; simp [hl, hh], hw⟩
theorem from_no (n lo hi : Int) (b1 b2 : Nat) (w : World) (h1 : w.cell? ⟨b1, 0, none⟩ = some (.int .i64 lo)) (h2 : w.cell? ⟨b2, 0, none⟩ = some (.int .i64 hi)) (hh : n < lo ∨ hi < n) :
    Calls Tryd.prog 53 #[.int .i64 n, .pointer (some ⟨b1, 0, none⟩), .pointer (some ⟨b2, 0, none⟩)] w fun e w' => e = .returned (.bool false) ∧ w = w' :=
  (from_any n lo hi b1 b2 w h1 h2).mono fun e w' ⟨he, hw⟩ => ⟨by rw [he]; simp; omega, hw⟩
theorem alloc2 (w : World) (o1 o2 : Obj) : Below w.heap.size w ((w.alloc o1).alloc o2) := ((Below.refl _ _).alloc (Nat.le_refl _) _).alloc (by simp) _
theorem allB_take {α : Type} {p : α → Bool} {l : List α} {k : Nat} {y : α} (h : (l.take k).all p = true) (hy : l[k]? = some y) (hp : p y = true) : (l.take (k + 1)).all p = true := by
  rw [List.take_add_one, List.all_append, h, hy]; simp [hp]
theorem allB_not {α : Type} {p : α → Bool} {l : List α} {k : Nat} {y : α} (hy : l[k]? = some y) (hp : p y = false) : l.all p = false := by
  rw [List.all_eq_false]; exact ⟨y, List.mem_of_getElem? hy, by simp [hp]⟩
theorem allB_end {α : Type} {p : α → Bool} {l : List α} {k n : Nat} (h : (l.take k).all p = true) (hn : l.length = n) (hk : n ≤ k) : l.all p = true := by
  rwa [List.take_of_length_le (by omega)] at h

/-- May the counts of a block be? Of a function? Of a program? -/
def insCnt (x : InsV) : Bool := !(x.op == 19) || decide (x.args.length ≤ 4)
def blkCnt (x : List InsV) : Bool := decide (x.length ≤ 40) && x.all insCnt
def funCnt (f : FunV) : Bool := decide (f.kinds.length ≤ 48) && (decide (f.blocks.length ≤ 40) && f.blocks.all blkCnt)
def cntB (p : List FunV) : Bool := decide (1 ≤ p.length) && (decide (p.length ≤ 8) && p.all funCnt)

set_option maxRecDepth 100000 in
theorem block_any (l0 l1 l2 l3 l4 vc : Value) (x : List InsV) (w : World) (B : Nat) (hB : B ≤ w.heap.size) (hL : LimsC w (· < B) l0 l1 l2 l3 l4) (hx : InssV w (· < B) vc x) :
    Calls Tryd.prog 90 #[.agg #[l0, l1, l2, l3, l4], .agg #[vc]] w fun e w' => e = .returned (.bool (blkCnt x)) ∧ Below w.heap.size w w' := by
  obtain ⟨-, -, -, ⟨b1, b2, rfl, hb1, hb2, hc1, hc2⟩, ⟨b3, b4, rfl, hb3, hb4, hc3, hc4⟩⟩ := hL
  obtain ⟨A, c, rfl, hc, hm⟩ := hx.open'
  obtain ⟨n, hn⟩ : ∃ n, x.length = n := ⟨_, rfl⟩
  have HP := hide (show blkCnt x = (decide (n ≤ 40) && x.all insCnt) by unfold blkCnt; rw [hn])
  rw [hn] at hx hc ⊢
  have HN := hide hn
  have HX := hide hx
  have k1 : ∀ w', Below w.heap.size w w' → w'.cell? ⟨b1, 0, none⟩ = some (.int .i64 0) := fun w' h => (h.cell (p := ⟨b1, 0, none⟩) (Nat.lt_of_lt_of_le hb1 hB)).trans hc1
  have k2 : ∀ w', Below w.heap.size w w' → w'.cell? ⟨b2, 0, none⟩ = some (.int .i64 40) := fun w' h => (h.cell (p := ⟨b2, 0, none⟩) (Nat.lt_of_lt_of_le hb2 hB)).trans hc2
  have k3 : ∀ w', Below w.heap.size w w' → w'.cell? ⟨b3, 0, none⟩ = some (.int .i64 0) := fun w' h => (h.cell (p := ⟨b3, 0, none⟩) (Nat.lt_of_lt_of_le hb3 hB)).trans hc3
  have k4 : ∀ w', Below w.heap.size w w' → w'.cell? ⟨b4, 0, none⟩ = some (.int .i64 4) := fun w' h => (h.cell (p := ⟨b4, 0, none⟩) (Nat.lt_of_lt_of_le hb4 hB)).trans hc4
  have K1 := hide k1; have K2 := hide k2; have K3 := hide k3; have K4 := hide k4
  clear hn hx k1 k2 k3 k4 hc1 hc2 hc3 hc4
  by_cases h40 : n ≤ 40
  · go_enter Tryd.func90, Tryd.ntmps90
    go_wp2_with (go_at_call 53; refine (from_yes _ 0 40 b1 b2 _ (K1.out _ (alloc2 w _ _)) (K2.out _ (alloc2 w _ _)) (by omega) (by omega)).mono ?_; rintro e w' ⟨rfl, rfl⟩)
    go_loopw [17] (fun i wr => ∃ k : Nat, k ≤ n ∧ i = .int .i64 k ∧ Below w.heap.size w wr ∧ w.heap.size + 2 ≤ wr.heap.size ∧ wr.cell? ⟨w.heap.size, 4, none⟩ = some (.func (.func 53) #[] #[.pointer (some ⟨b3, 0, none⟩), .pointer (some ⟨b4, 0, none⟩)]) ∧ Hid ((x.take k).all insCnt = true)) (fun i _ => n - (intOf i).toNat)
    case atStart => exact ⟨0, Nat.zero_le _, rfl, alloc2 w _ _, by simp, by simp, hide (by simp)⟩
    case round =>
      obtain ⟨k, hk, rfl, hb, hsz, e7, hall⟩ := hrel
      by_cases hlt : k < n
      · obtain ⟨y, hy⟩ : ∃ y, x[k]? = some y := ⟨_, List.getElem?_eq_getElem (by have := HN.out; omega)⟩
        obtain ⟨b, o, A1, c1, rfl, hbb, ⟨e0, e1, e2, e3, e4, e5, e6⟩, -⟩ := (HX.out.keep (up hb hB) (fun _ h => h)).get hy
        have hbs : b < wr.heap.size := by omega
        have hs1 : w.heap.size < wr.heap.size := by omega
        have HY := hide hy
        clear hy
        by_cases hop : y.op = 19
        · have hq : (y.op == 19) = true := by simpa using hop
          obtain ⟨m, hm'⟩ : ∃ m, y.args.length = m := ⟨_, rfl⟩
          have HM := hide hm'
          rw [hm'] at e6
          clear hm'
          by_cases h4 : m ≤ 4
          · have hp := hide (show insCnt y = true by unfold insCnt; rw [HM.out]; simp [h4])
            clear hop
            go_wp2_with (go_at_call 53; refine (from_yes _ 0 4 b3 b4 _ (K3.out _ (hb.alloc (by omega) _)) (K4.out _ (hb.alloc (by omega) _)) (by omega) (by omega)).mono ?_; rintro e w' ⟨rfl, rfl⟩)
            go_roundw
            case rel => exact ⟨k + 1, by omega, by go_num, hb.alloc (by omega) _, by simp; omega, (World.cell?_alloc_lt _ _ _ hs1).trans e7, hide (allB_take hall.out HY.out hp.out)⟩
            case measure => simp [intOf]; omega
          · have hp := hide (show insCnt y = false by unfold insCnt; rw [HM.out]; simp [hop, h4])
            clear hop
            go_wp2_with (go_at_call 53; refine (from_no _ 0 4 b3 b4 _ (K3.out _ (hb.alloc (by omega) _)) (K4.out _ (hb.alloc (by omega) _)) (by omega)).mono ?_; rintro e w' ⟨rfl, rfl⟩)
            go_ret
            exact ⟨by rw [HP.out, allB_not HY.out hp.out]; simp, hb.alloc (by omega) _⟩
        · have hq : (y.op == 19) = false := by simpa using hop
          have hp := hide (show insCnt y = true by unfold insCnt; simp [hop])
          clear hop
          go_wp2
          go_roundw
          case rel => exact ⟨k + 1, by omega, by go_num, hb.alloc (by omega) _, by simp; omega, (World.cell?_alloc_lt _ _ _ hs1).trans e7, hide (allB_take hall.out HY.out hp.out)⟩
          case measure => simp [intOf]; omega
      · go_wp2
        go_ret
        exact ⟨by rw [HP.out, allB_end hall.out HN.out (by omega)]; simp [h40], hb⟩
  · go_enter Tryd.func90, Tryd.ntmps90
    go_wp2_with (go_at_call 53; refine (from_no _ 0 40 b1 b2 _ (K1.out _ (alloc2 w _ _)) (K2.out _ (alloc2 w _ _)) (by omega)).mono ?_; rintro e w' ⟨rfl, rfl⟩)
    go_ret
    exact ⟨by rw [HP.out]; simp [h40], alloc2 w _ _⟩
end Go.Proofs.YtpggjolbohffjaaDoor
