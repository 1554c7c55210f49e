/- The contract of funcMay. Condition: the table of parts reads as listed. -/
import Derived.Test.YtpggjolbohffjaaDoorCMay
set_option linter.unusedSimpArgs false
set_option linter.unusedVariables false
namespace Go.Proofs.YtpggjolbohffjaaDoor
open Go.RowKit

theorem zip_get {xs ys : List Int} {k : Nat} {x y : Int} (h1 : xs[k]? = some x) (h2 : ys[k]? = some y) : (xs.zip ys)[k]? = some (x, y) := by
  rw [List.getElem?_zip_eq_some]; exact ⟨h1, h2⟩
theorem alloc1 (w : World) (o : Obj) : Below w.heap.size w (w.alloc o) := (Below.refl _ _).alloc (Nat.le_refl _) _

set_option maxHeartbeats 1000000 in
set_option maxRecDepth 100000 in
theorem funcMay_any (vk vb vs : Value) (f : FunV) (w : World) (B : Nat) (hB : B ≤ w.heap.size) (hT : TabP w) (hf : FunI w (· < B) vk vb vs f) :
    Calls Tryd.prog 50 #[.agg #[vk, vb, .int .i64 f.params, .int .i64 f.result, vs]] w fun e w' => e = .returned (.bool (funMayB f)) ∧ Below w.heap.size w w' := by
  obtain ⟨hk, hb, hs, -, -⟩ := hf
  obtain ⟨Ak, ck, rfl, -, -⟩ := hk.open'
  obtain ⟨Ab, cb, rfl, -, -⟩ := hb.open'
  obtain ⟨As, cs, rfl, hsc, hsm⟩ := hs.open'
  obtain ⟨n, hn⟩ : ∃ n, f.kinds.length = n := ⟨_, rfl⟩
  obtain ⟨m, hm⟩ : ∃ m, f.base.length = m := ⟨_, rfl⟩
  obtain ⟨l, hl⟩ : ∃ l, f.blocks.length = l := ⟨_, rfl⟩
  have HV := hide (show funMayB f = ((decide (m = n) && (decide (0 ≤ f.params) && decide (0 ≤ f.result))) && ((f.kinds.zip f.base).all varMayB && f.blocks.all (fun b => b.all insMayB))) by unfold funMayB; rw [hn, hm])
  rw [hn] at hk ⊢
  rw [hm] at hb ⊢
  rw [hl] at hs hsc ⊢
  have hnl := (len_le hk).1
  have HK := hide hk; have HBs := hide hb; have HS := hide hs; have HN := hide hn; have HM := hide hm; have HL := hide hl; have HT := hide hT
  clear hk hb hs hn hm hl hT
  generalize f.params = fp at *
  generalize f.result = fr at *
  by_cases hmn : m = n
  · subst hmn
    by_cases hp : fp < 0
    · have hv := hide (show funMayB f = false by rw [HV.out]; simp [show ¬ 0 ≤ fp by omega])
      go_enter Tryd.func50, Tryd.ntmps50
      go_wp2
      go_ret
      exact ⟨ret_bool hv.out.symm, alloc1 w _⟩
    · by_cases hr : fr < 0
      · have hv := hide (show funMayB f = false by rw [HV.out]; simp [show ¬ 0 ≤ fr by omega])
        go_enter Tryd.func50, Tryd.ntmps50
        go_wp2
        go_ret
        exact ⟨ret_bool hv.out.symm, alloc1 w _⟩
      · have hv := hide (show funMayB f = ((f.kinds.zip f.base).all varMayB && f.blocks.all (fun b => b.all insMayB)) by rw [HV.out]; simp [show 0 ≤ fr by omega, show 0 ≤ fp by omega])
        go_enter Tryd.func50, Tryd.ntmps50
        go_wp2
        go_loop [29] (fun i => ∃ k : Nat, k ≤ m ∧ i = .int .i64 k ∧ Hid (((f.kinds.zip f.base).take k).all varMayB = true)) (fun i => m - (intOf i).toNat)
        case atStart => exact ⟨0, Nat.zero_le _, rfl, hide (by simp)⟩
        case round =>
          obtain ⟨k, hk, rfl, hall⟩ := hrel
          by_cases hlt : k < m
          · obtain ⟨x, hx⟩ : ∃ x, f.kinds[k]? = some x := ⟨_, List.getElem?_eq_getElem (by have := HN.out; omega)⟩
            obtain ⟨y, hy⟩ : ∃ y, f.base[k]? = some y := ⟨_, List.getElem?_eq_getElem (by have := HM.out; omega)⟩
            obtain ⟨b1, o1, rfl, hb1, e1, -⟩ := HK.out.get hx
            obtain ⟨b2, o2, rfl, hb2, e2, -⟩ := HBs.out.get hy
            have g1 := ((alloc1 w (.cells #[.slice (some ⟨b1, o1, none⟩) m ck, .slice (some ⟨b2, o2, none⟩) m cb, .int .i64 fp, .int .i64 fr, .slice As l cs] 38)).cell (p := ⟨b1, o1 + k, none⟩) (by show b1 < _; omega)).trans e1
            have g2 := ((alloc1 w (.cells #[.slice (some ⟨b1, o1, none⟩) m ck, .slice (some ⟨b2, o2, none⟩) m cb, .int .i64 fp, .int .i64 fr, .slice As l cs] 38)).cell (p := ⟨b2, o2 + k, none⟩) (by show b2 < _; omega)).trans e2
            have HZ := hide (zip_get hx hy)
            clear hx hy e1 e2
            by_cases hkd : kindB x = true
            · by_cases hbs : baseB x y = true
              · have hp' := hide (show varMayB (x, y) = true by unfold varMayB; rw [hkd, hbs]; rfl)
                have C1 := hide (fun W => isKind_any x W)
                have C2 := hide (fun W => baseMay_any x y W)
                rw [hkd] at C1
                rw [hbs] at C2
                clear hkd hbs
                go_wp2_with (first | (go_at_call 74; refine (C1.out _).mono ?_; rintro e w' ⟨rfl, rfl⟩) | (go_at_call 75; refine (C2.out _).mono ?_; rintro e w' ⟨rfl, rfl⟩))
                go_round
                case rel => exact ⟨k + 1, by omega, by go_num, hide (allB_take hall.out HZ.out hp'.out)⟩
                case measure => simp [intOf]; omega
              · have hbf := Bool.eq_false_iff.2 hbs
                have hp' := hide (show varMayB (x, y) = false by unfold varMayB; rw [hkd, hbf]; rfl)
                have hv2 := hide (show funMayB f = false by rw [hv.out, allB_not HZ.out hp'.out]; rfl)
                have C1 := hide (fun W => isKind_any x W)
                have C2 := hide (fun W => baseMay_any x y W)
                rw [hkd] at C1
                rw [hbf] at C2
                clear hkd hbs hbf
                go_wp2_with (first | (go_at_call 74; refine (C1.out _).mono ?_; rintro e w' ⟨rfl, rfl⟩) | (go_at_call 75; refine (C2.out _).mono ?_; rintro e w' ⟨rfl, rfl⟩))
                go_ret
                exact ⟨ret_bool hv2.out.symm, alloc1 w _⟩
            · have hkf := Bool.eq_false_iff.2 hkd
              have hp' := hide (show varMayB (x, y) = false by unfold varMayB; rw [hkf]; rfl)
              have hv2 := hide (show funMayB f = false by rw [hv.out, allB_not HZ.out hp'.out]; rfl)
              have C1 := hide (fun W => isKind_any x W)
              rw [hkf] at C1
              clear hkd hkf
              go_wp2_with (go_at_call 74; refine (C1.out _).mono ?_; rintro e w' ⟨rfl, rfl⟩)
              go_ret
              exact ⟨ret_bool hv2.out.symm, alloc1 w _⟩
          · have hv2 := hide (show funMayB f = f.blocks.all (fun b => b.all insMayB) by
              rw [hv.out, allB_end hall.out (n := m) (by have := HN.out; have := HM.out; simp; omega) (by omega)]; rfl)
            clear hall
            go_wp2
            go_loopw [51] (fun i wr => ∃ k : Nat, k ≤ l ∧ i = .int .i64 k ∧ Hid ((f.blocks.take k).all (fun b => b.all insMayB) = true) ∧ Below w.heap.size w wr) (fun i _ => l - (intOf i).toNat)
            case atStart => exact ⟨0, Nat.zero_le _, rfl, hide (by simp), alloc1 w _⟩
            case round =>
              obtain ⟨i, hi, rfl, hall, hbw⟩ := hrel
              obtain ⟨wo, rfl⟩ : ∃ wo, wo = wr := ⟨_, rfl⟩
              have hsz := hbw.size
              by_cases hlt : i < l
              · obtain ⟨x, hx⟩ : ∃ x, f.blocks[i]? = some x := ⟨_, List.getElem?_eq_getElem (by have := HL.out; omega)⟩
                obtain ⟨b1, o1, A1, c1, rfl, hb1, e1, hx1⟩ := (HS.out.keep (up hbw hB) (fun _ h => h)).get hx
                have hs1 : b1 < wo.heap.size := by omega
                obtain ⟨d1, hd1⟩ : ∃ d, x.length = d := ⟨_, rfl⟩
                rw [hd1] at e1 hx1
                have hdl : d1 ≤ 9223372036854775807 := by
                  obtain ⟨A', c', e, h1, h2, -⟩ := hx1
                  injection e with _ e1 e2
                  omega
                have HX1 := hide hx1
                have HD := hide hd1
                have HX := hide hx
                clear hx hx1 hd1
                go_wp2
                go_loopw [58] (fun j wr => ∃ q : Nat, q ≤ d1 ∧ j = .int .i64 q ∧ Hid ((x.take q).all insMayB = true) ∧ Below wo.heap.size wo wr) (fun j _ => d1 - (intOf j).toNat)
                case atStart => exact ⟨0, Nat.zero_le _, rfl, hide (by simp), alloc1 wo _⟩
                case round =>
                  obtain ⟨q, hq, rfl, hall2, hbq⟩ := hrel
                  have hszq := hbq.size
                  by_cases hlq : q < d1
                  · obtain ⟨y, hy⟩ : ∃ y, x[q]? = some y := ⟨_, List.getElem?_eq_getElem (by have := HD.out; omega)⟩
                    obtain ⟨b2, o2, A2, c2, rfl, hb2, ⟨f0, f1, f2, f3, f4, f5, f6⟩, hy1⟩ := (HX1.out.keep (up hbq (by omega)) (fun _ h => h)).get hy
                    have hs2 : b2 < wr.heap.size := by omega
                    have hC := fun (W : World) (hW : Below wr.heap.size wr W) => insMay_any (.slice A2 y.args.length c2) y W B (by have := hW.size; omega) (((HT.out.below hbw HT.out.1).below hbq (by have := HT.out.1; omega)).below hW (by have := HT.out.1; omega)) (hy1.keep (up hW (by omega)) (fun _ h => h))
                    generalize y.args.length = l2 at *
                    have HY := hide hy
                    clear hy hy1
                    by_cases hp0 : insMayB y = true
                    · rw [hp0] at hC
                      have HC := hide hC
                      have HP := hide hp0
                      clear hC hp0
                      go_wp2_with (go_at_call 76; refine (HC.out _ (alloc1 wr _)).mono ?_; rintro e w1 ⟨rfl, hb1⟩)
                      have hb2 := (alloc1 wr (.cells #[.int .i64 y.op, .int .i64 y.d, .int .i64 y.a, .int .i64 y.b, .int .i64 y.n, .int .i64 y.m, .slice A2 l2 c2] 41)).trans (hb1.mono (by simp))
                      go_roundw
                      case rel => exact ⟨q + 1, by omega, by go_num, hide (allB_take hall2.out HY.out HP.out), hbq.trans (hb2.mono hszq)⟩
                      case measure => simp [intOf]; omega
                    · have hpf := Bool.eq_false_iff.2 hp0
                      rw [hpf] at hC
                      have HC := hide hC
                      have hv3 := hide (show funMayB f = false by rw [hv2.out]; exact allB_not HX.out (allB_not HY.out hpf))
                      clear hC hp0 hpf
                      go_wp2_with (go_at_call 76; refine (HC.out _ (alloc1 wr _)).mono ?_; rintro e w1 ⟨rfl, hb1⟩)
                      have hb2 := (alloc1 wr (.cells #[.int .i64 y.op, .int .i64 y.d, .int .i64 y.a, .int .i64 y.b, .int .i64 y.n, .int .i64 y.m, .slice A2 l2 c2] 41)).trans (hb1.mono (by simp))
                      go_ret
                      exact ⟨ret_bool hv3.out.symm, hbw.trans ((hbq.trans (hb2.mono hszq)).mono hsz)⟩
                  · have hend := hide (allB_end hall2.out HD.out (by omega))
                    go_wp2
                    go_roundw
                    case rel => exact ⟨i + 1, by omega, by go_num, hide (allB_take hall.out HX.out hend.out), hbw.trans (hbq.mono hsz)⟩
                    case measure => simp [intOf]; omega
              · have hv3 := hide (show funMayB f = true by rw [hv2.out]; exact allB_end hall.out HL.out (by omega))
                go_wp2
                go_ret
                exact ⟨ret_bool hv3.out.symm, hbw⟩
  · have hv := hide (show funMayB f = false by rw [HV.out]; simp [hmn])
    have hb' : (((m : Nat) : Int) != ((n : Nat) : Int)) = true := by simp; omega
    clear hmn
    go_enter Tryd.func50, Tryd.ntmps50
    go_wp2
    go_ret
    exact ⟨ret_bool hv.out.symm, alloc1 w _⟩
end Go.Proofs.YtpggjolbohffjaaDoor
