/- The contracts of limits' function and prog, and of countLimits. No condition. -/
import Derived.Test.YtpggjolbohffjaaDoorCLim
import Derived.Deep.RegionWith
set_option linter.unusedSimpArgs false
set_option linter.unusedVariables false
namespace Go.Proofs.YtpggjolbohffjaaDoor
open Go.RowKit

/-- The five closures, boxed. -/
def LBox (w : World) (g : Nat) (l0 l1 l2 l3 l4 : Value) : Prop :=
  w.cell? ⟨g, 0, none⟩ = some l0 ∧ w.cell? ⟨g, 1, none⟩ = some l1 ∧ w.cell? ⟨g, 2, none⟩ = some l2 ∧ w.cell? ⟨g, 3, none⟩ = some l3 ∧ w.cell? ⟨g, 4, none⟩ = some l4
theorem LBox.keep {w w' : World} {g : Nat} {l0 l1 l2 l3 l4 : Value} (h : LBox w g l0 l1 l2 l3 l4) (hb : Below w.heap.size w w') (hg : g < w.heap.size) : LBox w' g l0 l1 l2 l3 l4 :=
  ⟨(hb.cell (p := ⟨g, 0, none⟩) hg).trans h.1, (hb.cell (p := ⟨g, 1, none⟩) hg).trans h.2.1, (hb.cell (p := ⟨g, 2, none⟩) hg).trans h.2.2.1, (hb.cell (p := ⟨g, 3, none⟩) hg).trans h.2.2.2.1, (hb.cell (p := ⟨g, 4, none⟩) hg).trans h.2.2.2.2⟩
theorem LimsC.open' {w : World} {S : Nat → Prop} {l0 l1 l2 l3 l4 : Value} (h : LimsC w S l0 l1 l2 l3 l4) : ∃ a0 a1 a2 a3 a4 c0 c1 c2 c3 c4, l0 = .func (.func 53) #[] #[.pointer (some ⟨a0, 0, none⟩), .pointer (some ⟨c0, 0, none⟩)] ∧ l1 = .func (.func 53) #[] #[.pointer (some ⟨a1, 0, none⟩), .pointer (some ⟨c1, 0, none⟩)] ∧
    l2 = .func (.func 53) #[] #[.pointer (some ⟨a2, 0, none⟩), .pointer (some ⟨c2, 0, none⟩)] ∧ l3 = .func (.func 53) #[] #[.pointer (some ⟨a3, 0, none⟩), .pointer (some ⟨c3, 0, none⟩)] ∧ l4 = .func (.func 53) #[] #[.pointer (some ⟨a4, 0, none⟩), .pointer (some ⟨c4, 0, none⟩)] := by
  obtain ⟨⟨a0, c0, rfl, -⟩, ⟨a1, c1, rfl, -⟩, ⟨a2, c2, rfl, -⟩, ⟨a3, c3, rfl, -⟩, ⟨a4, c4, rfl, -⟩⟩ := h
  exact ⟨a0, a1, a2, a3, a4, c0, c1, c2, c3, c4, rfl, rfl, rfl, rfl, rfl⟩
/-- What a closure says, in any later world. -/
theorem LimC.say {w : World} {B : Nat} {a c : Nat} {lo hi : Int} (h : LimC w (· < B) (.func (.func 53) #[] #[.pointer (some ⟨a, 0, none⟩), .pointer (some ⟨c, 0, none⟩)]) lo hi) (hB : B ≤ w.heap.size) :
    ∀ w', Below w.heap.size w w' → w'.cell? ⟨a, 0, none⟩ = some (.int .i64 lo) ∧ w'.cell? ⟨c, 0, none⟩ = some (.int .i64 hi) := fun w' hb => by
  obtain ⟨b1, b2, e, h1, h2, h3, h4⟩ := h
  injection e with _ _ e
  simp at e
  obtain ⟨rfl, rfl⟩ := e
  exact ⟨(hb.cell (p := ⟨a, 0, none⟩) (Nat.lt_of_lt_of_le h1 hB)).trans h3, (hb.cell (p := ⟨c, 0, none⟩) (Nat.lt_of_lt_of_le h2 hB)).trans h4⟩

set_option maxRecDepth 100000 in
theorem function_any (l0 l1 l2 l3 l4 vk vb vs : Value) (f : FunV) (w : World) (B : Nat) (hB : B ≤ w.heap.size) (hL : LimsC w (· < B) l0 l1 l2 l3 l4) (hf : FunI w (· < B) vk vb vs f) :
    Calls Tryd.prog 73 #[.agg #[l0, l1, l2, l3, l4], .agg #[vk, vb, .int .i64 f.params, .int .i64 f.result, vs]] w fun e w' => e = .returned (.bool (funCnt f)) ∧ Below w.heap.size w w' := by
  have HL := hide hL
  obtain ⟨-, a1, a2, -, -, -, c1, c2, -, -, -, rfl, rfl, -, -⟩ := hL.open'
  have K1 := hide (hL.2.1.say hB)
  have K2 := hide (hL.2.2.1.say hB)
  obtain ⟨hk, hbs, hx, -, -⟩ := hf
  obtain ⟨Ak, ck, rfl, -, -⟩ := hk.open'
  obtain ⟨Ab, cb, rfl, -, -⟩ := hbs.open'
  obtain ⟨A, c, rfl, hc, hm⟩ := hx.open'
  obtain ⟨n, hn⟩ : ∃ n, f.blocks.length = n := ⟨_, rfl⟩
  obtain ⟨m, hm'⟩ : ∃ m, f.kinds.length = m := ⟨_, rfl⟩
  have HP := hide (show funCnt f = (decide (m ≤ 48) && (decide (n ≤ 40) && f.blocks.all blkCnt)) by unfold funCnt; rw [hn, hm'])
  have hml : m ≤ 9223372036854775807 := by
    obtain ⟨A', c', e, h1, h2, -⟩ := hk
    rw [← hm']; omega
  rw [hn] at hx hc ⊢
  rw [hm']
  have HN := hide hn
  have HX := hide hx
  clear hn hx hk hbs hm' hL
  by_cases h48 : m ≤ 48
  · by_cases h40 : n ≤ 40
    · go_enter Tryd.func73, Tryd.ntmps73
      go_wp2_with (first
        | (go_at_call_of 53 a1; refine (from_yes _ 0 48 a1 c1 _ (K1.out _ (alloc2 w _ _)).1 (K1.out _ (alloc2 w _ _)).2 (by omega) (by omega)).mono ?_; rintro e w' ⟨rfl, rfl⟩)
        | (go_at_call_of 53 a2; refine (from_yes _ 0 40 a2 c2 _ (K2.out _ (alloc2 w _ _)).1 (K2.out _ (alloc2 w _ _)).2 (by omega) (by omega)).mono ?_; rintro e w' ⟨rfl, rfl⟩))
      go_loopw [26] (fun i wr => ∃ k : Nat, k ≤ n ∧ i = .int .i64 k ∧ Below w.heap.size w wr ∧ w.heap.size + 2 ≤ wr.heap.size ∧ LBox wr w.heap.size l0 (.func (.func 53) #[] #[.pointer (some ⟨a1, 0, none⟩), .pointer (some ⟨c1, 0, none⟩)]) (.func (.func 53) #[] #[.pointer (some ⟨a2, 0, none⟩), .pointer (some ⟨c2, 0, none⟩)]) l3 l4 ∧ Hid ((f.blocks.take k).all blkCnt = true)) (fun i _ => n - (intOf i).toNat)
      case atStart => exact ⟨0, Nat.zero_le _, rfl, alloc2 w _ _, by simp, by simp [LBox], hide (by simp)⟩
      case round =>
        obtain ⟨k, hk, rfl, hb, hsz, hbox, hall⟩ := hrel
        have HBX := hide hbox
        obtain ⟨x0, x1, x2, x3, x4⟩ := hbox
        have hs1 : w.heap.size < wr.heap.size := by omega
        by_cases hlt : k < n
        · obtain ⟨y, hy⟩ : ∃ y, f.blocks[k]? = some y := ⟨_, List.getElem?_eq_getElem (by have := HN.out; omega)⟩
          obtain ⟨b, o, A1, c1', rfl, hbb, e0, hi⟩ := (HX.out.keep (up hb hB) (fun _ h => h)).get hy
          have hbs : b < wr.heap.size := by omega
          have HI := hide hi
          have HY := hide hy
          clear hy hi
          by_cases hp0 : blkCnt y = true
          · have hp := hide hp0
            have HC := hide (fun (W : World) (hW : Below wr.heap.size wr W) => (block_any _ _ _ _ _ (.slice A1 y.length c1') y W B (by have := hW.size; omega) (HL.out.keep (up (hb.trans (hW.mono (by omega))) hB) (fun _ h => h)) (HI.out.keep (up hW (by omega)) (fun _ h => h))))
            rw [hp0] at HC
            clear hp0
            go_wp2_with (go_at_call 90; refine (HC.out _ ((Below.refl _ _).alloc (Nat.le_refl _) _)).mono ?_; rintro e w1 ⟨rfl, hb1⟩)
            have hb2 := ((Below.refl wr.heap.size wr).alloc (Nat.le_refl _) (.cells #[.slice A1 y.length c1'] 52)).trans (hb1.mono (by simp))
            go_roundw
            case rel => exact ⟨k + 1, by omega, by go_num, hb.trans (hb2.mono (by omega)), by have := hb2.size; omega, HBX.out.keep hb2 hs1, hide (allB_take hall.out HY.out hp.out)⟩
            case measure => simp [intOf]; omega
          · have hp := hide (Bool.eq_false_iff.2 hp0)
            have HC := hide (fun (W : World) (hW : Below wr.heap.size wr W) => (block_any _ _ _ _ _ (.slice A1 y.length c1') y W B (by have := hW.size; omega) (HL.out.keep (up (hb.trans (hW.mono (by omega))) hB) (fun _ h => h)) (HI.out.keep (up hW (by omega)) (fun _ h => h))))
            rw [hp.out] at HC
            clear hp0
            go_wp2_with (go_at_call 90; refine (HC.out _ ((Below.refl _ _).alloc (Nat.le_refl _) _)).mono ?_; rintro e w1 ⟨rfl, hb1⟩)
            have hb2 := ((Below.refl wr.heap.size wr).alloc (Nat.le_refl _) (.cells #[.slice A1 y.length c1'] 52)).trans (hb1.mono (by simp))
            go_ret
            exact ⟨by rw [HP.out, allB_not HY.out hp.out]; simp, hb.trans (hb2.mono (by omega))⟩
        · go_wp2
          go_ret
          exact ⟨by rw [HP.out, allB_end hall.out HN.out (by omega)]; simp [h40, h48], hb⟩
    · go_enter Tryd.func73, Tryd.ntmps73
      go_wp2_with (first
        | (go_at_call_of 53 a1; refine (from_yes _ 0 48 a1 c1 _ (K1.out _ (alloc2 w _ _)).1 (K1.out _ (alloc2 w _ _)).2 (by omega) (by omega)).mono ?_; rintro e w' ⟨rfl, rfl⟩)
        | (go_at_call_of 53 a2; refine (from_no _ 0 40 a2 c2 _ (K2.out _ (alloc2 w _ _)).1 (K2.out _ (alloc2 w _ _)).2 (by omega)).mono ?_; rintro e w' ⟨rfl, rfl⟩))
      go_ret
      exact ⟨by rw [HP.out]; simp [h40], alloc2 w _ _⟩
  · go_enter Tryd.func73, Tryd.ntmps73
    go_wp2_with (go_at_call 53; refine (from_no _ 0 48 a1 c1 _ (K1.out _ (alloc2 w _ _)).1 (K1.out _ (alloc2 w _ _)).2 (by omega)).mono ?_; rintro e w' ⟨rfl, rfl⟩)
    go_ret
    exact ⟨by rw [HP.out]; simp [h48], alloc2 w _ _⟩
end Go.Proofs.YtpggjolbohffjaaDoor
