/- The contracts of limits.prog and of countLimits. No condition. -/
import Derived.Test.YtpggjolbohffjaaDoorCLim2
import Derived.Laws.EntriesVeiled
import Derived.Deep.RegionHeld3
set_option linter.unusedSimpArgs false
set_option linter.unusedVariables false
namespace Go.Proofs.YtpggjolbohffjaaDoor
open Go.RowKit

set_option maxRecDepth 100000 in
theorem lprog_any (l0 l1 l2 l3 l4 vp : Value) (p : List FunV) (w : World) (B : Nat) (hB : B ≤ w.heap.size) (hL : LimsC w (· < B) l0 l1 l2 l3 l4) (hp : FunsV w (· < B) vp p) :
    Calls Tryd.prog 49 #[.agg #[l0, l1, l2, l3, l4], .agg #[vp]] w fun e w' => e = .returned (.bool (cntB p)) ∧ Below w.heap.size w w' := by
  have HL := hide hL
  obtain ⟨a1, -, -, -, -, c1, -, -, -, -, rfl, -, -, -, -⟩ := hL.open'
  have K1 := hide (hL.1.say hB)
  obtain ⟨A, c, rfl, hc, hm⟩ := hp.open'
  obtain ⟨n, hn⟩ : ∃ n, p.length = n := ⟨_, rfl⟩
  have HP := hide (show cntB p = (decide (1 ≤ n) && (decide (n ≤ 8) && p.all funCnt)) by unfold cntB; rw [hn])
  rw [hn] at hp hc ⊢
  have HN := hide hn
  have HX := hide hp
  clear hn hp hL
  by_cases h48 : 1 ≤ n ∧ n ≤ 8
  · obtain ⟨hn1, hn8⟩ := h48
    go_enter Tryd.func49, Tryd.ntmps49
    go_wp2_with (go_at_call 53; refine (from_yes _ 1 8 a1 c1 _ (K1.out _ (alloc2 w _ _)).1 (K1.out _ (alloc2 w _ _)).2 (by omega) (by omega)).mono ?_; rintro e w' ⟨rfl, rfl⟩)
    go_loopw [17] (fun i wr => ∃ k : Nat, k ≤ n ∧ i = .int .i64 k ∧ Below w.heap.size w wr ∧ w.heap.size + 2 ≤ wr.heap.size ∧ LBox wr w.heap.size (.func (.func 53) #[] #[.pointer (some ⟨a1, 0, none⟩), .pointer (some ⟨c1, 0, none⟩)]) l1 l2 l3 l4 ∧ Hid ((p.take k).all funCnt = true)) (fun i _ => n - (intOf i).toNat)
    case atStart => exact ⟨0, Nat.zero_le _, rfl, alloc2 w _ _, by simp, by simp [LBox], hide (by simp)⟩
    case round =>
      obtain ⟨k, hk, rfl, hb, hsz, hbox, hall⟩ := hrel
      have HBX := hide hbox
      obtain ⟨x0, x1, x2, x3, x4⟩ := hbox
      have hs1 : w.heap.size < wr.heap.size := by omega
      by_cases hlt : k < n
      · obtain ⟨y, hy⟩ : ∃ y, p[k]? = some y := ⟨_, List.getElem?_eq_getElem (by have := HN.out; omega)⟩
        obtain ⟨b, o, Ak, ck, Ab, cb, As, cs, rfl, hbb, ⟨e0, e1, e2, e3, e4⟩, hi⟩ := (HX.out.keep (up hb hB) (fun _ h => h)).get hy
        have hbs : b < wr.heap.size := by omega
        have HI := hide hi
        have HY := hide hy
        clear hy hi
        have hC := fun (W : World) (hW : Below wr.heap.size wr W) => (function_any _ _ _ _ _ (.slice Ak y.kinds.length ck) (.slice Ab y.base.length cb) (.slice As y.blocks.length cs) y W B (by have := hW.size; omega) (HL.out.keep (up (hb.trans (hW.mono (by omega))) hB) (fun _ h => h)) (HI.out.keep (up hW (by omega)) (fun _ h => h)))
        generalize y.kinds.length = lk at *
        generalize y.base.length = lb at *
        generalize y.blocks.length = ls at *
        by_cases hp0 : funCnt y = true
        · have hp := hide hp0
          rw [hp0] at hC
          have HC := hide hC
          clear hp0 hC
          go_wp2_with (go_at_call 73; refine (HC.out _ ((Below.refl _ _).alloc (Nat.le_refl _) _)).mono ?_; rintro e w1 ⟨rfl, hb1⟩)
          have hb2 := ((Below.refl wr.heap.size wr).alloc (Nat.le_refl _) (.cells #[.slice Ak lk ck, .slice Ab lb cb, .int .i64 y.params, .int .i64 y.result, .slice As ls cs] 38)).trans (hb1.mono (by simp))
          go_roundw
          case rel => exact ⟨k + 1, by omega, by go_num, hb.trans (hb2.mono (by omega)), by have := hb2.size; omega, HBX.out.keep hb2 hs1, hide (allB_take hall.out HY.out hp.out)⟩
          case measure => simp [intOf]; omega
        · have hp := hide (Bool.eq_false_iff.2 hp0)
          rw [hp.out] at hC
          have HC := hide hC
          clear hp0 hC
          go_wp2_with (go_at_call 73; refine (HC.out _ ((Below.refl _ _).alloc (Nat.le_refl _) _)).mono ?_; rintro e w1 ⟨rfl, hb1⟩)
          have hb2 := ((Below.refl wr.heap.size wr).alloc (Nat.le_refl _) (.cells #[.slice Ak lk ck, .slice Ab lb cb, .int .i64 y.params, .int .i64 y.result, .slice As ls cs] 38)).trans (hb1.mono (by simp))
          go_ret
          exact ⟨by rw [HP.out, allB_not HY.out hp.out]; simp, hb.trans (hb2.mono (by omega))⟩
      · go_wp2
        go_ret
        exact ⟨by rw [HP.out, allB_end hall.out HN.out (by omega)]; simp [hn1, hn8], hb⟩
  · go_enter Tryd.func49, Tryd.ntmps49
    go_wp2_with (go_at_call 53; refine (from_no _ 1 8 a1 c1 _ (K1.out _ (alloc2 w _ _)).1 (K1.out _ (alloc2 w _ _)).2 (by omega)).mono ?_; rintro e w' ⟨rfl, rfl⟩)
    go_ret
    exact ⟨by rw [HP.out]; simp; omega, alloc2 w _ _⟩

theorem same_set {S : Nat → Prop} {w : World} {g j : Nat} {v : Value} (h : ∀ b, S b → b ≠ g) : Same' S w (w.setCell ⟨g, j, none⟩ v) := fun b o hb => World.cell?_setCell_far _ _ _ _ (by simpa using (h b hb).symm)
theorem Same'.trans {S : Nat → Prop} {w w1 w2 : World} (h : Same' S w w1) (h2 : Same' S w1 w2) : Same' S w w2 := fun b o hb => (h2 b o hb).trans (h b o hb)
theorem same_set5 {S : Nat → Prop} {w : World} {g j0 j1 j2 j3 j4 : Nat} {v0 v1 v2 v3 v4 : Value} (h : ∀ b, S b → b ≠ g) : Same' S w (((((w.setCell ⟨g, j0, none⟩ v0).setCell ⟨g, j1, none⟩ v1).setCell ⟨g, j2, none⟩ v2).setCell ⟨g, j3, none⟩ v3).setCell ⟨g, j4, none⟩ v4) :=
  ((((same_set h).trans (same_set h)).trans (same_set h)).trans (same_set h)).trans (same_set h)
theorem below_set5 {B : Nat} {a w : World} {g j0 j1 j2 j3 j4 : Nat} {v0 v1 v2 v3 v4 : Value} (h : Below B a w) (hg : B ≤ g) : Below B a (((((w.setCell ⟨g, j0, none⟩ v0).setCell ⟨g, j1, none⟩ v1).setCell ⟨g, j2, none⟩ v2).setCell ⟨g, j3, none⟩ v3).setCell ⟨g, j4, none⟩ v4) :=
  ((((h.setCell hg _).setCell hg _).setCell hg _).setCell hg _).setCell hg _
theorem lim_end {w1 w : World} {s g j0 j1 j2 j3 j4 : Nat} {v0 v1 v2 v3 v4 v : Value} {lo hi : Int} (h : LimC w1 (fun b => s ≤ b ∧ b < w1.heap.size) v lo hi) (hb : Below w1.heap.size w1 w) (hg : g < s) :
    LimC (((((w.setCell ⟨g, j0, none⟩ v0).setCell ⟨g, j1, none⟩ v1).setCell ⟨g, j2, none⟩ v2).setCell ⟨g, j3, none⟩ v3).setCell ⟨g, j4, none⟩ v4) (fun b => b < (((((w.setCell ⟨g, j0, none⟩ v0).setCell ⟨g, j1, none⟩ v1).setCell ⟨g, j2, none⟩ v2).setCell ⟨g, j3, none⟩ v3).setCell ⟨g, j4, none⟩ v4).heap.size) v lo hi := by
  have hs := hb.size
  have h1 : LimC w (fun b => s ≤ b ∧ b < w1.heap.size) v lo hi := h.keep (fun b o h => hb.cell (p := ⟨b, o, none⟩) h.2) (fun _ h => h)
  refine h1.keep (same_set5 fun b h => by omega) (fun b h => ?_)
  simp only [World.size_setCell]
  omega
/-- What a box of the call's own has, in any later world. -/
theorem box_cells {w w' : World} {cs : Array Value} {t : TypeId} (hb : Below (w.heap.size + 1) (w.alloc (.cells cs t)) w') (j : Nat) {v : Value} (hv : cs[j]? = some v) : w'.cell? ⟨w.heap.size, j, none⟩ = some v ∧ w'.frozen? ⟨w.heap.size, j, none⟩ = false := by
  constructor
  · rw [hb.cell (p := ⟨w.heap.size, j, none⟩) (by simp), ← hv]; simp
  · rw [hb.frozen (p := ⟨w.heap.size, j, none⟩) (by simp)]; simp
theorem made_any (lo hi : Int) (w : World) :
    Calls Tryd.prog 52 #[.int .i64 lo, .int .i64 hi] w fun e w' => ∃ v, e = .returned v ∧ LimC w' (fun b => w.heap.size ≤ b ∧ b < w'.heap.size) v lo hi ∧ Below w.heap.size w w' := by
  have hmf : ∀ (fn : Fn) (first cap : Array Value) (w : World), (Instr.makeFunc fn first cap).run Tryd.prog w = .ok (.func fn first cap) w := fun _ _ _ _ => rfl
  go_enter Tryd.func52, Tryd.ntmps52
  go_wp2
  go_ret
  refine ⟨_, rfl, ⟨_, _, rfl, by simp; omega, by simp, by simp, by simp⟩, alloc2 w _ _⟩

set_option maxRecDepth 100000 in
theorem limits_any (w : World) :
    Calls Tryd.prog 30 #[] w fun e w' => ∃ l0 l1 l2 l3 l4, e = .returned (.agg #[l0, l1, l2, l3, l4]) ∧ LimsC w' (fun b => b < w'.heap.size) l0 l1 l2 l3 l4 ∧ Below w.heap.size w w' := by
  go_enter Tryd.func30, Tryd.ntmps30
  go_wp2_with (first
    | (go_at_call 52; (with_reducible refine (made_any 0 4 w4).mono ?_); rintro e w5 ⟨l4, rfl, hl4, hb5⟩; have HL4 := hide hl4; clear hl4; obtain ⟨a4, c4, rfl, -⟩ := HL4.out; have hb := hb1.trans ((hb2.trans ((hb3.trans ((hb4.trans (hb5.mono hb4.size)).mono hb3.size)).mono hb2.size)).mono hb1.size); simp only [World.size_alloc] at hb; obtain ⟨x0, y0⟩ := box_cells hb 0 (v := .nilFunc) rfl; obtain ⟨x1, y1⟩ := box_cells hb 1 (v := .nilFunc) rfl; obtain ⟨x2, y2⟩ := box_cells hb 2 (v := .nilFunc) rfl; obtain ⟨x3, y3⟩ := box_cells hb 3 (v := .nilFunc) rfl; obtain ⟨x4, y4⟩ := box_cells hb 4 (v := .nilFunc) rfl)
    | (go_at_call 52; (with_reducible refine (made_any 0 40 w3).mono ?_); rintro e w4 ⟨l3, rfl, hl3, hb4⟩; have HL3 := hide hl3; clear hl3; obtain ⟨a3, c3, rfl, -⟩ := HL3.out)
    | (go_at_call 52; (with_reducible refine (made_any 0 40 w2).mono ?_); rintro e w3 ⟨l2, rfl, hl2, hb3⟩; have HL2 := hide hl2; clear hl2; obtain ⟨a2, c2, rfl, -⟩ := HL2.out)
    | (go_at_call 52; (with_reducible refine (made_any 0 48 w1).mono ?_); rintro e w2 ⟨l1, rfl, hl1, hb2⟩; have HL1 := hide hl1; clear hl1; obtain ⟨a1, c1, rfl, -⟩ := HL1.out)
    | (go_at_call 52; refine (made_any 1 8 _).mono ?_; rintro e w1 ⟨l0, rfl, hl0, hb1⟩; have HL0 := hide hl0; clear hl0; obtain ⟨a0, c0, rfl, -⟩ := HL0.out))
  have z0 : w.heap.size + 1 ≤ w1.heap.size := by have := hb1.size; simpa using this
  refine bodyPost_ret (v := .agg #[.func (.func 53) #[] #[.pointer (some ⟨a0, 0, none⟩), .pointer (some ⟨c0, 0, none⟩)], .func (.func 53) #[] #[.pointer (some ⟨a1, 0, none⟩), .pointer (some ⟨c1, 0, none⟩)], .func (.func 53) #[] #[.pointer (some ⟨a2, 0, none⟩), .pointer (some ⟨c2, 0, none⟩)], .func (.func 53) #[] #[.pointer (some ⟨a3, 0, none⟩), .pointer (some ⟨c3, 0, none⟩)], .func (.func 53) #[] #[.pointer (some ⟨a4, 0, none⟩), .pointer (some ⟨c4, 0, none⟩)]])
    (by simp [results, Tryd.results30, go_sem, x0, x1, x2, x3, x4]) rfl ⟨_, _, _, _, _, rfl, ⟨?_, ?_, ?_, ?_, ?_⟩, below_set5 ((Below.refl _ _ |>.alloc (Nat.le_refl _) _).trans (hb.mono (by omega))) (Nat.le_refl _)⟩
  · exact lim_end HL0.out (hb2.trans ((hb3.trans ((hb4.trans (hb5.mono hb4.size)).mono hb3.size)).mono hb2.size)) (by simp)
  · exact lim_end HL1.out (hb3.trans ((hb4.trans (hb5.mono hb4.size)).mono hb3.size)) (by omega)
  · exact lim_end HL2.out (hb4.trans (hb5.mono hb4.size)) (by have := hb2.size; omega)
  · exact lim_end HL3.out hb5 (by have := hb2.size; have := hb3.size; omega)
  · exact lim_end HL4.out (Below.refl _ _) (by have := hb2.size; have := hb3.size; have := hb4.size; omega)
end Go.Proofs.YtpggjolbohffjaaDoor
