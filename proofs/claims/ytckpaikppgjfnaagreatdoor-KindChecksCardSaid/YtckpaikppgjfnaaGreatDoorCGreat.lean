/- The contract of the reference's Great: it answers (whatever it answers). No condition. -/
import Derived.Test.YtckpaikppgjfnaaGreatDoorMB
import Derived.Test.YtckpaikppgjfnaaGreatDoorProg
set_option linter.unusedSimpArgs false
set_option linter.unusedVariables false
namespace Go.Proofs.YtckpaikppgjfnaaGreatDoor
open Go.RowKit

set_option maxHeartbeats 1000000 in
set_option maxRecDepth 100000 in
theorem great_any (vp : Value) (p : List FunV) (w : World) (B : Nat) (hB : B ≤ w.heap.size) (hp : FunsV w (· < B) vp p) :
    Calls Tryz.prog 9 #[.agg #[vp]] w fun e w' => ∃ b : Bool, e = .returned (.bool b) ∧ Below w.heap.size w w' := by
  obtain ⟨A, c, rfl, hpc, hpm⟩ := hp.open'
  obtain ⟨n, hn⟩ : ∃ n, p.length = n := ⟨_, rfl⟩
  rw [hn] at hp hpc ⊢
  have HP := hide hp; have HN := hide hn
  clear hp hn
  go_enter Tryz.func9, Tryz.ntmps9
  go_wp2
  go_loopw [3, 4] (fun nn i wr => ∃ (z : Int) (k : Nat), nn = .int .i64 z ∧ k ≤ n ∧ i = .int .i64 k ∧ Below w.heap.size w wr ∧ w.heap.size < wr.heap.size ∧ wr.cell? ⟨w.heap.size, 0, none⟩ = some (.slice A n c)) (fun _ i _ => n - (intOf i).toNat)
  case atStart => exact ⟨n, 0, rfl, Nat.zero_le _, rfl, (Below.refl _ _).alloc (Nat.le_refl _) _, by simp, by simp⟩
  case round =>
    obtain ⟨z, k, rfl, hk, rfl, hb, hs, hx⟩ := hrel
    by_cases hlt : k < n
    · by_cases hz : z ≤ 3000
      · obtain ⟨y, hy⟩ : ∃ y, p[k]? = some y := ⟨_, List.getElem?_eq_getElem (by have := HN.out; omega)⟩
        obtain ⟨b, o, Ak, ck, Ab, cb, As, cs, rfl, hbb, ⟨e0, e1, e2, e3, e4⟩, hi⟩ := (HP.out.keep (up hb hB) (fun _ h => h)).get hy
        have hbs : b < wr.heap.size := by omega
        obtain ⟨-, -, hbl, -, -⟩ := hi
        obtain ⟨As', cs', heq, hl1, hl2⟩ := hbl.open'
        injection heq with hA0 _ hcs
        subst hA0
        subst hcs
        obtain ⟨l, hl⟩ : ∃ l, y.blocks.length = l := ⟨_, rfl⟩
        rw [hl] at e4 hbl hl1
        have HBL := hide hbl; have HL := hide hl
        obtain ⟨wo, rfl⟩ : ∃ wo, wo = wr := ⟨_, rfl⟩
        generalize y.kinds.length = lk at *
        generalize y.base.length = lb at *
        clear hy hbl hl
        go_wp2
        go_loop [3, 6] (fun nn i => ∃ (z : Int) (q : Nat), nn = .int .i64 z ∧ q ≤ l ∧ i = .int .i64 q) (fun _ i => l - (intOf i).toNat)
        case atStart => exact ⟨_, 0, rfl, Nat.zero_le _, rfl⟩
        case round =>
          obtain ⟨z2, q, rfl, hq, rfl⟩ := hrel
          by_cases hlq : q < l
          · by_cases hz2 : z2 ≤ 3000
            · obtain ⟨x, hx2⟩ : ∃ x, y.blocks[q]? = some x := ⟨_, List.getElem?_eq_getElem (by have := HL.out; omega)⟩
              obtain ⟨b1, o1, A1, c1, rfl, hb1, f0, hx1⟩ := HBL.out.get hx2
              have hb1s : b1 < wo.heap.size := by omega
              obtain ⟨A1', c1', heq1, hm1, hm2⟩ := hx1.open'
              injection heq1 with hA1 _ hcs1
              subst hA1
              subst hcs1
              obtain ⟨m, hm⟩ : ∃ m, x.length = m := ⟨_, rfl⟩
              rw [hm] at f0 hx1 hm1
              have HX1 := hide hx1; have HM := hide hm
              clear hx2 hx1 hm
              go_wp2
              go_loop [3, 7] (fun nn i => ∃ (z : Int) (j : Nat), nn = .int .i64 z ∧ j ≤ m ∧ i = .int .i64 j) (fun _ i => m - (intOf i).toNat)
              case atStart => exact ⟨_, 0, rfl, Nat.zero_le _, rfl⟩
              case round =>
                obtain ⟨z3, j, rfl, hj, rfl⟩ := hrel
                by_cases hlj : j < m
                · by_cases hz3 : z3 ≤ 3000
                  · obtain ⟨u, hu⟩ : ∃ u, x[j]? = some u := ⟨_, List.getElem?_eq_getElem (by have := HM.out; omega)⟩
                    obtain ⟨b2, o2, A2, c2, rfl, hb2, ⟨g0, g1, g2, g3, g4, g5, g6⟩, -⟩ := HX1.out.get hu
                    have hb2s : b2 < wo.heap.size := by omega
                    clear hu
                    go_wp2
                    go_round
                    case rel => exact ⟨_, j + 1, rfl, by omega, by go_num⟩
                    case measure => simp [intOf]; omega
                  · have hzd : decide (z3 ≤ 3000) = false := by simpa using hz3
                    clear hz3
                    go_wp2
                    go_round
                    case rel => exact ⟨_, q + 1, rfl, by omega, by go_num⟩
                    case measure => simp [intOf]; omega
                · go_wp2
                  go_round
                  case rel => exact ⟨_, q + 1, rfl, by omega, by go_num⟩
                  case measure => simp [intOf]; omega
            · have hzd : decide (z2 ≤ 3000) = false := by simpa using hz2
              clear hz2
              go_wp2
              go_roundw
              case rel => exact ⟨_, k + 1, rfl, by omega, by go_num, hb.alloc (by omega) _, by simp; omega, (World.cell?_alloc_lt _ _ _ hs).trans hx⟩
              case measure => simp [intOf]; omega
          · go_wp2
            go_roundw
            case rel => exact ⟨_, k + 1, rfl, by omega, by go_num, hb.alloc (by omega) _, by simp; omega, (World.cell?_alloc_lt _ _ _ hs).trans hx⟩
            case measure => simp [intOf]; omega
      · have hzd : decide (z ≤ 3000) = false := by simpa using hz
        clear hz
        go_wp2
        go_ret
        exact ⟨_, rfl, hb⟩
    · go_wp2
      go_ret
      exact ⟨_, rfl, hb⟩
end Go.Proofs.YtckpaikppgjfnaaGreatDoor
