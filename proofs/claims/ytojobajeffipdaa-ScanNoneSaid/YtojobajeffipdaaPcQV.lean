/- The statement ScanNone, walked: it answers true. No condition. -/
import Derived.Test.YtojobajeffipdaaPcQZ
set_option linter.unusedSimpArgs false
set_option linter.unusedVariables false
namespace Go.Proofs.Ytojobajeffipdaa
open Go.RowKit

def liveB (s x : SpV) : Bool := !x.c && decide (x.f ≤ s.f) && decide (s.f ≤ x.t)
def liveK (ss : List SpV) (s : SpV) (k : Nat) : Nat := (ss.take k).countP (liveB s)
theorem liveK_next {ss : List SpV} {s y : SpV} {k : Nat} (hy : ss[k]? = some y) : liveK ss s (k + 1) = liveK ss s k + (if liveB s y = true then 1 else 0) := by
  unfold liveK
  rw [List.take_add_one, hy, Option.toList_some, List.countP_append, List.countP_cons, List.countP_nil, Nat.zero_add]
theorem liveK_end {ss : List SpV} {s : SpV} {n : Nat} (h : ss.length = n) : liveK ss s n = liveN ss s := by
  unfold liveK liveN
  rw [List.take_of_length_le (by omega)]
  rfl
theorem inv_noclash {ss : List SpV} {regs : Int} {n : Nat} {ls : List LcV} (hn : ss.length = n) (h : InvS ss regs n ls) : clashB ss ls = false := by
  refine clash_no fun i hi k hk => ?_
  unfold pairB
  by_cases e : lcAt ls i = lcAt ls k
  · have t := h.apart k i hk (by omega) e.symm
    rw [meet_comm16] at t
    rw [t]
    simp
  · rw [decide_eq_false e]
    rfl
theorem loc_case {ss : List SpV} {regs : Int} {n : Nat} {ls : List LcV} (hn : ss.length = n) (h : InvS ss regs n ls) (hd : Dense ls) {j : Nat} {y : SpV} {x : LcV} (hy : ss[j]? = some y) (hx : ls[j]? = some x) :
    (y.c = true ∧ x.k = 2 ∧ 0 ≤ x.n ∧ x.n < n) ∨ (y.c = false ∧ x.k = 1 ∧ 0 ≤ x.n ∧ x.n < regs) ∨ (y.c = false ∧ x.k = 2 ∧ 0 ≤ x.n ∧ x.n < n) := by
  have hj : j < n := by have := (List.getElem?_eq_some_iff.1 hy).1; omega
  have k1 := h.kind j hj
  have k2 := h.call j hj
  have k3 := hd j
  have k4 := cnt2_le ls
  have k5 := h.len
  rw [lcAt_of hx] at k1 k2 k3
  rw [spAt_of hy] at k2
  cases hc : y.c
  · rcases k1 with ⟨a, b, c⟩ | ⟨a, b, c⟩
    · exact .inr (.inl ⟨rfl, a, b, c⟩)
    · have := k3 a
      exact .inr (.inr ⟨rfl, a, b, by omega⟩)
  · have a := k2 hc
    have := k3 a
    exact .inl ⟨rfl, a, by omega, by omega⟩
set_option maxHeartbeats 8000000 in
set_option maxRecDepth 100000 in
theorem none_law (v : Value) (ss : List SpV) (regs : Int) (w : World) (hs : SpsV w (· < w.heap.size) v ss) :
    Calls Try.prog 5 #[v, .int .i64 regs] w fun e w' => e = .returned (.bool true) ∧ Below w.heap.size w w' := by
  have HAL := hide (fun (W : World) => alive16_any W)
  obtain ⟨A, c, rfl, hc, hcm⟩ := hs.open'
  obtain ⟨n, hn⟩ := letl ss.length
  rw [hn] at hs hc ⊢
  by_cases h100 : n ≤ 100
  rotate_left
  · clear hs hn
    have hgt : 100 < n := by omega
    go_enter Try.func5, Try.ntmps5
    go_wp2_with (go_at_call 8; refine (HAL.out w).mono ?_; rintro e w1 ⟨rfl, hb1⟩)
    go_ret
    exact ⟨rfl, hb1⟩
  have HSC := hide (fun (W : World) (hW : Below w.heap.size w W) => (show Calls Try.prog 9 #[.slice A n c, .int .i64 regs] W (ScanA W ss regs n) from by have t := qscan_any (.slice A n c) ss regs W (hs.up hW) (by omega); rwa [hn] at t))
  by_cases hin : rightB16 ss = true ∧ 0 ≤ regs ∧ regs ≤ 32
  rotate_left
  · have HI0 := hide (fun (e : Ending) (W W' : World) (h : ScanA W ss regs n e W') => h.no hin)
    clear hs hn hin
    go_enter Try.func5, Try.ntmps5
    go_upto_region 5 with (go_at_call 8; refine (HAL.out w).mono ?_; rintro e w1 ⟨rfl, hb1⟩; have HB1 := hide hb1; clear hb1)
    go_wp2_with (go_at_call 9; (with_reducible refine (HSC.out w1 HB1.out).mono ?_); intro e w2 h2; obtain ⟨rfl, hb2⟩ := HI0.out _ _ _ h2; have HB2 := hide (HB1.out.trans (hb2.mono HB1.out.size)); clear h2 hb2)
    go_ret
    exact ⟨by simp, HB2.out⟩
  obtain ⟨hn48, hlo, hll, hinv, hdense⟩ := scan_list (regs := regs) hin hn
  have HY := hide (fun (e : Ending) (W W' : World) (h' : ScanA W ss regs n e W') => h'.yes hin)
  have HSV := hide (fun (W : World) (hW : Below w.heap.size w W) => hs.up hW)
  have HSP := hide (fun (W : World) (hW : Below w.heap.size w W) (b o : Nat) (hA : A = some ⟨b, o, none⟩) (j : Nat) (y : SpV) (hy : ss[j]? = some y) => (hA ▸ hs).at' hW hy)
  have HSA := hide (fun (j : Nat) (y : SpV) (hy : ss[j]? = some y) => (show (∃ b o, A = some ⟨b, o, none⟩) from by
    obtain ⟨b, o, e, -⟩ := hs.get hy
    exact ⟨b, o, e⟩))
  have HN := hide hn
  have HROOM := hide (fun (M : Nat) (hM : ∀ j, j < n → liveN ss (spAt ss j) ≤ M) (hr : (M : Int) ≤ regs) (j : Nat) (y : SpV) (x : LcV) (hy : ss[j]? = some y) (hx : (scanL ss regs n)[j]? = some x) (hc : y.c = false) => (show x.k = 1 from by
    have hj : j < n := by have := (List.getElem?_eq_some_iff.1 hy).1; omega
    have t := roomy_all (regs := regs) (okS_of hin.1) (fun i hi _ => by have := hM i (by omega); omega) n (by omega) j hj (by rw [spAt_of hy]; exact hc)
    rwa [lcAt_of hx] at t))
  obtain ⟨ls, hls⟩ := letl (scanL ss regs n)
  rw [hls] at hlo hll hinv hdense HY HROOM
  have HCASE := hide (fun (j : Nat) (y : SpV) (x : LcV) (hy : ss[j]? = some y) (hx : ls[j]? = some x) => loc_case hn hinv hdense hy hx)
  have HNC := hide (inv_noclash hn hinv)
  have HLS := hide (fun (g : Nat) (W : World) (h : Box W g (lcsA ls) 37) => (show LcsV W (· < W.heap.size) (.slice (some ⟨g, 0, none⟩) n n) ls from lcs_of_box h hlo hll (Nat.le_refl _) (by omega)))
  have HLL := hide hll
  have hreg := hin.2
  clear hs hn hlo hll hinv hdense hls hin
  go_enter Try.func5, Try.ntmps5
  go_upto_region 5 with (go_at_call 8; refine (HAL.out w).mono ?_; rintro e w1 ⟨rfl, hb1⟩; have HB1 := hide hb1; clear hb1)
  go_upto_region 8 with (go_at_call 9; (with_reducible refine (HSC.out w1 HB1.out).mono ?_); intro e w2 h2; obtain ⟨g, rfl, hx2, hb2⟩ := HY.out _ _ _ h2; have HX2 := hide hx2; have HB2 := hide (HB1.out.trans (hb2.mono HB1.out.size)); clear h2 hx2 hb2)
  have HQC := hide (show Calls Try.prog 17 #[.slice A n c, .slice (some ⟨g, 0, none⟩) n n] w2 fun e w' => e = .returned (.bool false) ∧ Below w2.heap.size w2 w' from by
    have t := qclash_any (.slice A n c) (.slice (some ⟨g, 0, none⟩) n n) ss ls w2 (HSV.out w2 HB2.out) (HLS.out g w2 HX2.out) (by have := HN.out; omega) (by have := HLL.out; omega)
    rwa [HNC.out] at t)
  clear HNC HSV
  go_upto_region 10 with (go_at_call 17; (with_reducible refine HQC.out.mono ?_); rintro e w3 ⟨rfl, hb3⟩; have HX3 := hide (HX2.out.below hb3); have HB3 := hide (HB2.out.trans (hb3.mono HB2.out.size)); clear hb3)
  clear HQC HX2
  have HLC := hide (fun (W : World) (hW : Below w3.heap.size w3 W) (j : Nat) (y : LcV) (hy : ls[j]? = some y) => (show W.cell? ⟨g, j * 2, none⟩ = some (.int .i64 y.k) ∧ W.cell? ⟨g, j * 2 + 1, none⟩ = some (.int .i64 y.n) ∧ g < W.heap.size from by
    have t := (HLS.out g w3 HX3.out).at' hW hy
    simp only [Nat.zero_add] at t
    exact ⟨t.1, t.2.1, Nat.lt_of_lt_of_le HX3.out.lt hW.size⟩))
  clear HX3 HLS HSC HY HAL
  go_wp2
  go_loopw [7, 8] (fun a z wr => ∃ (i M : Nat), i ≤ n ∧ M ≤ 100 ∧ a = .int .i64 M ∧ z = .int .i64 i ∧ Below w3.heap.size w3 wr ∧ Hid (∀ j, j < i → liveN ss (spAt ss j) ≤ M)) (fun _ z _ => n - (intOf z).toNat)
  case atStart => exact ⟨0, 0, Nat.zero_le _, by omega, rfl, rfl, Below.refl _ _, hide (fun j h => absurd h (by omega))⟩
  case round =>
    obtain ⟨i, M, hi, hM, rfl, rfl, hb, HP⟩ := hrel
    obtain ⟨wo, rfl⟩ : ∃ wo, wo = wr := ⟨_, rfl⟩
    have HBW := hide hb
    clear hb
    by_cases hlt : i < n
    case neg =>
      have HR2 := hide (HROOM.out M (fun j hj => HP.out j (by omega)))
      clear HROOM HCASE HP
      go_wp2
      go_loopw [11] (fun z wr => ∃ k : Nat, k ≤ n ∧ z = .int .i64 k ∧ Below w3.heap.size w3 wr) (fun z _ => n - (intOf z).toNat)
      case atStart => exact ⟨0, Nat.zero_le _, rfl, HBW.out⟩
      case round =>
        obtain ⟨k, hk, rfl, hb⟩ := hrel
        obtain ⟨wx, rfl⟩ : ∃ wo, wo = wr := ⟨_, rfl⟩
        have HBX := hide hb
        clear hb
        rcases (show (k < n ∧ (M : Int) ≤ regs) ∨ ¬ k < n ∨ (k < n ∧ ¬ (M : Int) ≤ regs) by omega) with ⟨hkn, hmr⟩ | hkn | ⟨hkn, hmr⟩
        rotate_left
        · go_wp2
          go_ret
          exact ⟨rfl, HB3.out.trans (HBX.out.mono HB3.out.size)⟩
        · have hkm : (k : Int) < n := by omega
          go_wp2
          go_ret
          exact ⟨rfl, HB3.out.trans (HBX.out.mono HB3.out.size)⟩
        obtain ⟨y, hy⟩ : ∃ y, ss[k]? = some y := ⟨_, List.getElem?_eq_getElem (by have := HN.out; omega)⟩
        obtain ⟨x, hx⟩ : ∃ y, ls[k]? = some y := ⟨_, List.getElem?_eq_getElem (by have := HLL.out; omega)⟩
        obtain ⟨bs, os, hA⟩ := HSA.out k y hy
        subst hA
        obtain ⟨s0, s1, s2, s3, s4⟩ := HSP.out wx (HB3.out.trans (HBX.out.mono HB3.out.size)) bs os rfl k y hy
        obtain ⟨l0, l1, l2⟩ := HLC.out wx HBX.out k x hx
        have hx1 := HR2.out hmr k y x hy hx
        obtain ⟨yv, yf, yt, yc⟩ := y
        obtain ⟨xk, xn⟩ := x
        replace hx1 : yc = false → xk = 1 := hx1
        have hkm : (k : Int) < n := by omega
        clear hy hx HR2
        cases yc
        · obtain rfl := hx1 rfl
          go_wp2
          go_roundw
          case rel => exact ⟨k + 1, by omega, by go_num, HBX.out⟩
          case measure => simp [intOf]; omega
        · go_wp2
          go_roundw
          case rel => exact ⟨k + 1, by omega, by go_num, HBX.out⟩
          case measure => simp [intOf]; omega
    obtain ⟨y, hy⟩ : ∃ y, ss[i]? = some y := ⟨_, List.getElem?_eq_getElem (by have := HN.out; omega)⟩
    obtain ⟨x, hx⟩ : ∃ y, ls[i]? = some y := ⟨_, List.getElem?_eq_getElem (by have := HLL.out; omega)⟩
    obtain ⟨bs, os, hA⟩ := HSA.out i y hy
    subst hA
    obtain ⟨s0, s1, s2, s3, s4⟩ := HSP.out wo (HB3.out.trans (HBW.out.mono HB3.out.size)) bs os rfl i y hy
    obtain ⟨l0, l1, l2⟩ := HLC.out wo HBW.out i x hx
    have hcase := HCASE.out i y x hy hx
    have HKP := hide (fun (q : Nat) (hq : q = liveK ss y n) (j : Nat) (hj : j < i + 1) => (show liveN ss (spAt ss j) ≤ max M q from by
      by_cases e : j = i
      · subst e
        rw [spAt_of hy, ← liveK_end HN.out, ← hq]
        omega
      · have := HP.out j (by omega)
        omega))
    have HLN := hide (fun (k : Nat) (b : SpV) (hb : ss[k]? = some b) => liveK_next (s := y) hb)
    have HSY := hide (fun (W : World) (hW : Below w3.heap.size w3 W) => (HSP.out W (HB3.out.trans (hW.mono HB3.out.size)) bs os rfl i y hy).2.1)
    obtain ⟨yv, yf, yt, yc⟩ := y
    obtain ⟨xk, xn⟩ := x
    have hin : (i : Int) < n := by omega
    replace hcase : (yc = true ∧ xk = 2 ∧ 0 ≤ xn ∧ xn < n) ∨ (yc = false ∧ xk = 1 ∧ 0 ≤ xn ∧ xn < regs) ∨ (yc = false ∧ xk = 2 ∧ 0 ≤ xn ∧ xn < n) := hcase
    clear hy hx HROOM HCASE HP HLC
    go_upto_region 14 with (fail)
    go_cut [107] from 44 to 106 (fun p wx => p = .bool false ∧ wx = wo)
    case first =>
      rcases hcase with ⟨rfl, rfl, h1, h2⟩ | ⟨rfl, rfl, h1, h2⟩ | ⟨rfl, rfl, h1, h2⟩
      · have hd1 : decide ((n : Int) ≤ xn) = false := by simp; omega
        go_wp2_with fail
        go_meet
        exact ⟨rfl, rfl⟩
      · have hd1 : decide (xn < 0) = false := by simp; omega
        have hd2 : decide (regs ≤ xn) = false := by simp; omega
        go_wp2_with fail
        go_meet
        exact ⟨rfl, rfl⟩
      · have hd1 : decide ((n : Int) ≤ xn) = false := by simp; omega
        go_wp2_with fail
        go_meet
        exact ⟨rfl, rfl⟩
    case rest =>
      obtain ⟨rfl, rfl⟩ := hcut
      clear hcase s0 s1 s2 s3 l0 l1
      go_wp2
      go_loopw [9, 10] (fun a z wr => ∃ (k q : Nat), k ≤ n ∧ q ≤ k ∧ a = .int .i64 q ∧ z = .int .i64 k ∧ Below w3.heap.size w3 wr ∧ Hid (q = liveK ss ⟨yv, yf, yt, yc⟩ k)) (fun _ z _ => n - (intOf z).toNat)
      case atStart => exact ⟨0, 0, Nat.zero_le _, Nat.le_refl _, rfl, rfl, HBW.out, hide rfl⟩
      case round =>
        obtain ⟨k, q, hk, hq, rfl, rfl, hb, HQ⟩ := hrel
        obtain ⟨wx, rfl⟩ : ∃ wo, wo = wr := ⟨_, rfl⟩
        have HBX := hide hb
        clear hb
        by_cases hki : k < n
        case neg =>
          have HF := hide (HKP.out q (by have t := HQ.out; rwa [show k = n by omega] at t))
          go_wp2
          go_roundw
          case rel => exact ⟨i + 1, max M q, by omega, by omega, by congr 1; omega, by go_num, HBX.out, hide (fun j hj => HF.out j hj)⟩
          case measure => simp [intOf]; omega
        obtain ⟨b, hb⟩ : ∃ y, ss[k]? = some y := ⟨_, List.getElem?_eq_getElem (by have := HN.out; omega)⟩
        obtain ⟨t0, t1, t2, t3, t4⟩ := HSP.out wx (HB3.out.trans (HBX.out.mono HB3.out.size)) bs os rfl k b hb
        have s1 := HSY.out wx HBX.out
        have HL2 := hide (HLN.out k b hb)
        have hkn : (k : Int) < n := by omega
        obtain ⟨bv, bf, bt, bc⟩ := b
        clear hb
        replace s1 : wx.cell? ⟨bs, os + i * 4 + 1, none⟩ = some (.int .i64 yf) := s1
        have HYB := hide (show liveB ⟨yv, yf, yt, yc⟩ ⟨bv, bf, bt, bc⟩ = (!bc && decide (bf ≤ yf) && decide (yf ≤ bt)) from rfl)
        rcases (show (bc = true) ∨ (bc = false ∧ ¬ bf ≤ yf) ∨ (bc = false ∧ bf ≤ yf ∧ ¬ yf ≤ bt) ∨ (bc = false ∧ bf ≤ yf ∧ yf ≤ bt) by cases bc <;> simp <;> omega) with rfl | ⟨rfl, h1⟩ | ⟨rfl, h1, h2⟩ | ⟨rfl, h1, h2⟩
        · have HV := hide (show q = liveK ss ⟨yv, yf, yt, yc⟩ (k + 1) by rw [HL2.out, HYB.out, ← HQ.out]; simp)
          clear HQ HL2 HYB
          go_wp2
          go_quiet (fail)
          go_wp2
          go_roundw
          case rel => exact ⟨k + 1, q, by omega, by omega, rfl, by go_num, below_drewN HBX.out _, hide HV.out⟩
          case measure => simp [intOf]; omega
        · have HV := hide (show q = liveK ss ⟨yv, yf, yt, yc⟩ (k + 1) by rw [HL2.out, HYB.out, ← HQ.out]; simp [h1])
          have hd1 : decide (bf ≤ yf) = false := by simpa using h1
          clear HQ HL2 HYB
          go_wp2
          go_quiet (fail)
          go_wp2
          go_roundw
          case rel => exact ⟨k + 1, q, by omega, by omega, rfl, by go_num, below_drewN HBX.out _, hide HV.out⟩
          case measure => simp [intOf]; omega
        · have HV := hide (show q = liveK ss ⟨yv, yf, yt, yc⟩ (k + 1) by rw [HL2.out, HYB.out, ← HQ.out]; simp [h2])
          have hd1 : decide (bf ≤ yf) = true := by simpa using h1
          have hd2 : decide (yf ≤ bt) = false := by simpa using h2
          clear HQ HL2 HYB
          go_wp2
          go_quiet (fail)
          go_wp2
          go_roundw
          case rel => exact ⟨k + 1, q, by omega, by omega, rfl, by go_num, below_drewN HBX.out _, hide HV.out⟩
          case measure => simp [intOf]; omega
        · have HV := hide (show q + 1 = liveK ss ⟨yv, yf, yt, yc⟩ (k + 1) by rw [HL2.out, HYB.out, ← HQ.out]; simp [h1, h2])
          have hd1 : decide (bf ≤ yf) = true := by simpa using h1
          have hd2 : decide (yf ≤ bt) = true := by simpa using h2
          clear HQ HL2 HYB
          go_wp2
          go_quiet (fail)
          go_wp2
          go_roundw
          case rel => exact ⟨k + 1, q + 1, by omega, by omega, by go_num, by go_num, below_drewN HBX.out _, hide HV.out⟩
          case measure => simp [intOf]; omega
end Go.Proofs.Ytojobajeffipdaa
