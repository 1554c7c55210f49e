/- Layer 16, the reference: Scan. Condition: no more than 10^12 spans. -/
import Derived.Test.YtojobajeffipdaaPaQI
set_option linter.unusedSimpArgs false
set_option linter.unusedVariables false
namespace Go.Proofs.Ytojobajeffipdaa
open Go.RowKit

def intsA (zs : List Int) : Array Value := (zs.map (Value.int .i64)).toArray
theorem Box.it {w : World} {g : Nat} {zs : List Int} {T : TypeId} (b : Box w g (intsA zs) T) {j : Nat} {z : Int} (hj : zs[j]? = some z) : w.cell? ⟨g, j, none⟩ = some (.int .i64 z) ∧ w.frozen? ⟨g, j, none⟩ = false :=
  b.cell j (by unfold intsA; rw [List.getElem?_toArray, List.getElem?_map, hj]; rfl)
theorem Box.itSet {w : World} {g : Nat} {zs : List Int} {T : TypeId} (b : Box w g (intsA zs) T) (j : Nat) (z : Int) : Box (w.setCell ⟨g, j, none⟩ (.int .i64 z)) g (intsA (zs.set j z)) T := by
  have h := b.set j (.int .i64 z)
  unfold intsA at h ⊢
  rwa [List.setIfInBounds_toArray, ← List.map_set] at h
theorem info_int16 : (Try.prog.info? 3).map (fun i => (i.zero, i.size, i.bytes)) = some (some (.int .i64 0), 1, 8) := by kernel_rfl
theorem madeCells_int16 (k : Nat) : madeCells (Value.int .i64 0).cells (k * 1) = intsA (List.replicate k 0) := by
  unfold madeCells intsA
  apply Array.ext
  · simp
  · intro i h1 h2
    simp [Value.cells, Nat.mod_one]
theorem taken_swap {a b : List LcV} {ss : List SpV} {m : Nat} (hl : a.length = b.length) (h : ∀ j, j ≠ m → lcAt a j = lcAt b j) (ha : (lcAt a m).k ≠ 2) (hb : (lcAt b m).k ≠ 2) (n : Int) (s : SpV) : takenB a ss 2 n s = takenB b ss 2 n s := by
  have key : ∀ (a b : List LcV), a.length = b.length → (∀ j, j ≠ m → lcAt a j = lcAt b j) → (lcAt a m).k ≠ 2 → takenB a ss 2 n s = true → takenB b ss 2 n s = true := fun a b hl h ha ht => by
    obtain ⟨j, h1, h2, h3, h4⟩ := taken_at.1 ht
    have hj : j ≠ m := fun e => ha (by rw [← e, h3])
    exact taken_at.2 ⟨j, by omega, h2, by rw [← h j hj, h3], h4⟩
  exact Bool.eq_iff_iff.2 ⟨key a b hl h ha, key b a hl.symm (fun j hj => (h j hj).symm) hb⟩
theorem least_swap {a b : List LcV} {ss : List SpV} {m : Nat} (hl : a.length = b.length) (h : ∀ j, j ≠ m → lcAt a j = lcAt b j) (ha : (lcAt a m).k ≠ 2) (hb : (lcAt b m).k ≠ 2) (s : SpV) : leastN a ss 2 s = leastN b ss 2 s := by
  unfold leastN
  rw [hl]
  congr 1
  funext n
  rw [taken_swap hl h ha hb]
theorem step_call {ss : List SpV} {regs : Int} {k : Nat} (hc : (spAt ss k).c = true) : scanL ss regs (k + 1) = (scanL ss regs k).set k ⟨2, ((leastN (scanL ss regs k) ss 2 (spAt ss k) : Nat) : Int)⟩ := by
  rw [scanL]
  unfold stepL
  rw [if_pos hc]
  rfl
theorem step_reg {ss : List SpV} {R k l : Nat} (hok : OkS ss) (h : InvS ss R k (scanL ss R k)) (hk : k < ss.length) (hc : (spAt ss k).c = false) (hl : l < R) (h1 : whoF (scanL ss R k) ss (spAt ss k).f l k < 0) (h2 : ∀ q : Nat, q < l → 0 ≤ whoF (scanL ss R k) ss (spAt ss k).f q k) : scanL ss R (k + 1) = (scanL ss R k).set k ⟨1, (l : Int)⟩ := by
  have e := least_who hok h hk h1 h2
  rw [scanL]
  unfold stepL
  rw [if_neg (by rw [hc]; simp), e, if_pos (by omega)]
theorem step_far {ss : List SpV} {R k m : Nat} (hok : OkS ss) (h : InvS ss R k (scanL ss R k)) (hk : k < ss.length) (hc : (spAt ss k).c = false) (hq : ∀ q : Nat, q < R → 0 ≤ whoF (scanL ss R k) ss (spAt ss k).f q k) (hm : farN (scanL ss R k) ss (spAt ss k).f k R = m) :
    (m = k → scanL ss R (k + 1) = (scanL ss R k).set k ⟨2, ((leastN (scanL ss R k) ss 2 (spAt ss k) : Nat) : Int)⟩) ∧
    (m ≠ k → m < k ∧ scanL ss R (k + 1) = (((scanL ss R k).set k (lcAt (scanL ss R k) m)).set m ⟨0, 0⟩).set m ⟨2, ((leastN (((scanL ss R k).set k (lcAt (scanL ss R k) m)).set m ⟨0, 0⟩) ss 2 (spAt ss m) : Nat) : Int)⟩) := by
  have hl := h.len
  have e1 := far_last hok h hk hq
  rw [hm] at e1
  have e0 : scanL ss R (k + 1) = putL ((scanL ss R k).set k (lcAt (scanL ss R k) m)) ss m := by
    rw [scanL]
    unfold stepL
    rw [if_neg (by rw [hc]; simp), if_neg (least_full hok h hk hq), ← e1]
  have hs := (last_spec (scanL ss R k) ss k k).1
  rw [← e1] at hs
  refine ⟨fun e => ?_, fun e => ?_⟩
  · subst e
    rw [e0, set_self (by omega)]
    rfl
  · rcases hs with hs | ⟨hs1, hs2⟩
    · exact absurd hs e
    · refine ⟨hs1, ?_⟩
      rw [e0]
      unfold putL
      rw [List.set_set, least_swap (a := (scanL ss R k).set k (lcAt (scanL ss R k) m)) (b := ((scanL ss R k).set k (lcAt (scanL ss R k) m)).set m ⟨0, 0⟩) (m := m) (by simp) (fun j hj => by
        rw [lcAt_set (ls := (scanL ss R k).set k (lcAt (scanL ss R k) m)) (by rw [List.length_set]; omega), if_neg hj]) (by rw [lcAt_set (by omega), if_neg e, hs2]; omega) (by rw [lcAt_set (by rw [List.length_set]; omega), if_pos rfl]; simp)]
theorem who_one {ls : List LcV} {ss : List SpV} {f r : Int} {k : Nat} {x : LcV} {y : SpV} (hx : ls[k]? = some x) (hy : ss[k]? = some y) : whoF ls ss f r (k + 1) = if x = ⟨1, r⟩ ∧ f ≤ y.t then (k : Int) else whoF ls ss f r k := by
  rw [whoF, lcAt_of hx, spAt_of hy]
set_option maxHeartbeats 8000000 in
set_option maxRecDepth 100000 in
theorem rscan_any (v : Value) (ss : List SpV) (regs : Int) (w : World) (hs : SpsV w (· < w.heap.size) v ss) (hm : ss.length ≤ 9223372036854775807) :
    Calls Try.prog 10 #[v, .int .i64 regs] w (ScanA w ss regs ss.length) := by
  have HRI := hide (rrightS_any v ss w hs hm)
  obtain ⟨A, c, rfl, hc, hcm⟩ := hs.open'
  obtain ⟨n, hn⟩ := letl ss.length
  rw [hn] at HRI hs hc hm ⊢
  obtain ⟨b, hb⟩ := letl (rightB16 ss)
  rw [hb] at HRI
  by_cases hin : b = true ∧ 0 ≤ regs ∧ regs ≤ 32
  rotate_left
  · have HA := hide (fun (W : World) (hW : Below w.heap.size w W) => (show ScanA w ss regs n (.returned (.tuple #[.slice none 0 0, .int .i64 1])) W from ⟨⟨fun h => absurd (by rw [← hb]; exact h) hin, fun _ => rfl⟩, hW⟩))
    clear hs hn
    rcases (show b = false ∨ (b = true ∧ regs < 0) ∨ (b = true ∧ ¬ regs < 0 ∧ 32 < regs) by cases b <;> simp at hin ⊢; omega) with rfl | ⟨rfl, h1⟩ | ⟨rfl, h1, h2⟩
    all_goals
      clear hin hb
      go_enter Try.func10, Try.ntmps10
      go_wp2_with (go_at_call 13; (with_reducible refine HRI.out.mono ?_); rintro e w2 ⟨rfl, hb2⟩)
      go_ret2
      exact HA.out _ hb2
  obtain ⟨rfl, hr1, hr2⟩ := hin
  obtain ⟨R, hR⟩ : ∃ R : Nat, regs = R := ⟨regs.toNat, by omega⟩
  subst hR
  have hok := okS_of hb
  have hn48 : n ≤ 48 := by have := hok.len; omega
  have HOK := hide hok
  have HINV := hide (fun (i : Nat) (hi : i ≤ n) => inv_all (regs := (R : Int)) hok i (by omega))
  have HSP := hide (fun (W : World) (hW : Below w.heap.size w W) (b o : Nat) (hA : A = some ⟨b, o, none⟩) (j : Nat) (y : SpV) (hy : ss[j]? = some y) => (hA ▸ hs).at' hW hy)
  have HSV := hide (fun (W : World) (hW : Below w.heap.size w W) => hs.up hW)
  have HAD := hide (fun (j : Nat) (y : SpV) (hy : ss[j]? = some y) => (show (∃ b o, A = some ⟨b, o, none⟩) from by
    obtain ⟨b, o, e, -⟩ := hs.get hy
    exact ⟨b, o, e⟩))
  have HN := hide hn
  have HA := hide (fun (W : World) (g : Nat) (hW : Below w.heap.size w W) (hx : Box W g (lcsA (scanL ss R n)) 37) (hg : w.heap.size ≤ g) => (show ScanA w ss R n (.returned (.tuple #[.slice (some ⟨g, 0, none⟩) n n, .int .i64 0])) W from ⟨⟨fun _ => ⟨g, rfl, hx, hg⟩, fun h => absurd ⟨hb, hr1, hr2⟩ h⟩, hW⟩))
  have j1 : ¬ (R : Int) < 0 := by omega
  have j2 : ¬ (32 : Int) < (R : Int) := by omega
  have hR32 : R ≤ 32 := by omega
  clear hs hn hok hb
  go_enter Try.func10, Try.ntmps10
  go_upto_region 3 with (go_at_call 13; (with_reducible refine HRI.out.mono ?_); rintro e w2 ⟨rfl, hb2⟩)
  have HB2 := hide hb2
  clear hb2 j1 j2
  have hmk := mkz_run 24 37 Try.underlying24 info_lc (by omega) n (by omega) w2
  rw [madeCells_lc] at hmk
  go_upto_region 4 with (fail)
  obtain ⟨w3, hw3⟩ := letr (w2.alloc (.cells (lcsA (List.replicate n ⟨0, 0⟩)) 37))
  obtain ⟨g, hg⟩ := letl w2.heap.size
  have HX0 := lBox hw3 hg
  have HB3 := lBel hw3
  have HGW := hide (show w.heap.size ≤ g by have := HB2.out.size; omega)
  rw [← hw3, hg]
  clear hw3 hg hmk
  have HB4 := hide (HB2.out.trans (HB3.out.mono HB2.out.size))
  have HZ := hide (show Box w3 g (lcsA (scanL ss R 0)) 37 by have t := HX0.out; rwa [show scanL ss R 0 = List.replicate n ⟨0, 0⟩ by rw [scanL, HN.out]])
  go_wp2
  go_loopw [7] (fun z wr => ∃ k : Nat, k ≤ n ∧ z = .int .i64 k ∧ Below w.heap.size w wr ∧ Box wr g (lcsA (scanL ss R k)) 37) (fun z _ => n - (intOf z).toNat)
  case atStart => exact ⟨0, Nat.zero_le _, rfl, HB4.out, HZ.out⟩
  case round =>
    obtain ⟨k, hk, rfl, hb, hx⟩ := hrel
    obtain ⟨wo, rfl⟩ : ∃ wo, wo = wr := ⟨_, rfl⟩
    have HB := hide hb
    have HX := hide hx
    clear hb hx
    by_cases hlt : k < n
    case neg =>
      have e : k = n := by omega
      subst e
      go_wp2
      go_ret2
      exact HA.out _ g HB.out HX.out HGW.out
    obtain ⟨y, hy⟩ : ∃ y, ss[k]? = some y := ⟨_, List.getElem?_eq_getElem (by have := HN.out; omega)⟩
    obtain ⟨bs, os, hA⟩ := HAD.out k y hy
    subst hA
    have HINK := hide (HINV.out k (by omega))
    have HKN := hide (show k < ss.length by have := HN.out; omega)
    obtain ⟨xi, hxi⟩ : ∃ x, (scanL ss R k)[k]? = some x := ⟨_, List.getElem?_eq_getElem (by have := HINK.out.len; have := HN.out; omega)⟩
    have HLI := hide (fun (W : World) (hW : Below wo.heap.size wo W) => (HX.out.below hW).lc hxi)
    have HXB := hide (fun (W : World) (hW : Below wo.heap.size wo W) => HX.out.below hW)
    have hgl := HX.out.lt
    have HSL := hide (fun (W : World) (hW : Below wo.heap.size wo W) => rslot_any g 0 n n c k (some ⟨bs, os, none⟩) (scanL ss R k) ss W (lcs_of_box (HX.out.below hW) (lcOk_of HINK.out hr2) (by rw [HINK.out.len, HN.out]) (Nat.le_refl _) (by omega)) (HSV.out W (HB.out.trans (hW.mono HB.out.size))) (by rw [HINK.out.len, HN.out]) HN.out hlt hn48)
    have HSK := hide (fun (W : World) (hW : Below w.heap.size w W) => HSP.out W hW bs os rfl k _ hy)
    have HYE := hide (spAt_of hy)
    obtain ⟨yv, yf, yt, yc⟩ := y
    obtain ⟨s0, s1, s2, s3, s4⟩ := HSK.out wo HB.out
    have hki : (k : Int) < n := by omega
    clear hy hxi
    cases yc
    rotate_left
    · have HST := hide (step_call (regs := (R : Int)) (show (spAt ss k).c = true by rw [HYE.out]))
      obtain ⟨z, hz⟩ := letl (leastN (scanL ss R k) ss 2 (spAt ss k))
      rw [hz] at HSL HST
      clear hz
      go_wp2_with (go_at_call 20; (with_reducible refine (HSL.out wo (Below.refl _ _)).mono ?_); rintro e w5 ⟨rfl, hb5⟩; obtain ⟨⟨c0, f0⟩, c1, f1⟩ := HLI.out w5 hb5; have lg : g < w5.heap.size := Nat.lt_of_lt_of_le hgl hb5.size)
      go_roundw
      case rel => exact ⟨k + 1, by omega, by go_num, ((HB.out.trans (hb5.mono HB.out.size)).setCell (p := ⟨g, k * 2, none⟩) HGW.out _).setCell (p := ⟨g, k * 2 + 1, none⟩) HGW.out _, by rw [HST.out]; exact (HXB.out w5 hb5).lcSet k 2 (z : Int)⟩
      case measure => simp [intOf]; omega
    have HCF := hide (show (spAt ss k).c = false by rw [HYE.out])
    have HFF := hide (show (spAt ss k).f = yf by rw [HYE.out])
    have hmk2 := mkz_run 44 3 Try.underlying44 info_int16 (by omega) R (by omega) wo
    rw [madeCells_int16] at hmk2
    go_upto_region 10 with (fail)
    obtain ⟨w6, hw6⟩ := letr (wo.alloc (.cells (intsA (List.replicate R 0)) 3))
    obtain ⟨hw, hhw⟩ := letl wo.heap.size
    have HW0 := lBox hw6 hhw
    have HB6 := lBel hw6
    have HWG := hide (show w.heap.size ≤ hw by have := HB.out.size; omega)
    have HNE := hide (show hw ≠ g by omega)
    rw [← hw6, hhw]
    clear hw6 hhw hmk2 s0 s1 s2 s3 s4
    have HC6 := hide (HB.out.trans (HB6.out.mono HB.out.size))
    have HX6 := hide (HXB.out w6 HB6.out)
    obtain ⟨ls, hls⟩ := letl (scanL ss R k)
    rw [hls] at HX6
    have HLS := hide hls
    have HLL := hide (show ls.length = n by rw [← hls, HINK.out.len, HN.out])
    have HOKL := hide (show LcOk ls from hls ▸ lcOk_of HINK.out hr2)
    have HWP := hide (fun (f r : Int) => who_range ls ss f r k)
    clear hls
    go_wp2
    go_loopw [9, 10] (fun a z wr => ∃ (q : Nat) (zs : List Int) (lw : Int), q ≤ R ∧ z = .int .i64 ((q : Int) - 1) ∧ a = .int .i64 lw ∧ Below w.heap.size w wr ∧ Box wr g (lcsA ls) 37 ∧ Box wr hw (intsA zs) 3 ∧ Hid (zs.length = R ∧ (∀ j : Nat, q ≤ j → j < R → zs[j]? = some (whoF ls ss yf j k)) ∧ ((lw = -1 ∧ ∀ j : Nat, q ≤ j → j < R → 0 ≤ whoF ls ss yf j k) ∨ ∃ l : Nat, lw = l ∧ q ≤ l ∧ l < R ∧ whoF ls ss yf l k < 0 ∧ ∀ j : Nat, q ≤ j → j < l → 0 ≤ whoF ls ss yf j k))) (fun _ z _ => (intOf z + 1).toNat)
    case atStart => exact ⟨R, List.replicate R 0, -1, Nat.le_refl _, by first | rfl | (congr 1; omega), rfl, HC6.out, HX6.out, HW0.out, hide ⟨by simp, fun j h1 h2 => absurd h2 (by omega), .inl ⟨rfl, fun j h1 h2 => absurd h2 (by omega)⟩⟩⟩
    case round =>
      obtain ⟨q, zs, lw, hq, rfl, rfl, hb, hx, hwz, HQ⟩ := hrel
      obtain ⟨wx, rfl⟩ : ∃ wo, wo = wr := ⟨_, rfl⟩
      have HBX := hide hb
      have HXX := hide hx
      have HWX := hide hwz
      clear hb hx hwz
      rcases q with _ | p
      · have hneg : ¬ (0 : Int) ≤ ((0 : Nat) : Int) - 1 := by omega
        have hd : decide ((0 : Int) ≤ ((0 : Nat) : Int) - 1) = false := by simp
        obtain ⟨hzl, hzs, hlw⟩ := HQ.out
        have HZS := hide hzs
        have HZL := hide hzl
        clear hzl hzs HQ
        rcases hlw with ⟨rfl, hall⟩ | ⟨l, rfl, -, hl2, hl3, hl4⟩
        · have HALL := hide hall
          clear hall
          go_wp2
          go_loopw [12, 13] (fun a z wr => ∃ r m : Nat, r ≤ R ∧ z = .int .i64 r ∧ a = .int .i64 m ∧ m ≤ k ∧ Below wx.heap.size wx wr ∧ Hid (farN ls ss yf k r = m)) (fun _ z _ => R - (intOf z).toNat)
          case atStart => exact ⟨0, k, Nat.zero_le _, rfl, rfl, Nat.le_refl _, Below.refl _ _, hide rfl⟩
          case round =>
            obtain ⟨r, m, hr, rfl, rfl, hmk', hb, HFM⟩ := hrel
            obtain ⟨wz, rfl⟩ : ∃ wo, wo = wr := ⟨_, rfl⟩
            have HBR := hide hb
            have HBZ := hide (HBX.out.trans (hb.mono HBX.out.size))
            clear hb
            by_cases hrR : r < R
            case neg =>
              have e : r = R := by omega
              subst e
              have HSF := hide (show (m = k → scanL ss r (k + 1) = ls.set k ⟨2, ((leastN ls ss 2 (spAt ss k) : Nat) : Int)⟩) ∧ (m ≠ k → m < k ∧ scanL ss r (k + 1) = ((ls.set k (lcAt ls m)).set m ⟨0, 0⟩).set m ⟨2, ((leastN ((ls.set k (lcAt ls m)).set m ⟨0, 0⟩) ss 2 (spAt ss m) : Nat) : Int)⟩) by
                have t := step_far (m := m) HOK.out HINK.out HKN.out HCF.out (fun q hq => by rw [HFF.out, HLS.out]; exact HALL.out q (Nat.zero_le _) hq) (by rw [HFF.out, HLS.out]; exact HFM.out)
                rwa [HLS.out] at t)
              have HXR := hide (fun (W : World) (hW : Below wz.heap.size wz W) => (HXX.out.below (HBR.out.trans (hW.mono HBR.out.size))))
              have HSR := hide (fun (W : World) (hW : Below w.heap.size w W) => HSV.out W hW)
              obtain ⟨xk, hxk⟩ : ∃ x, ls[k]? = some x := ⟨_, List.getElem?_eq_getElem (by have := HLL.out; omega)⟩
              by_cases hmk2 : m = k
              · subst hmk2
                have HST := hide (HSF.out.1 rfl)
                have HSL2 := hide (rslot_any g 0 n n c m (some ⟨bs, os, none⟩) ls ss wz (lcs_of_box (HXR.out wz (Below.refl _ _)) HOKL.out HLL.out (Nat.le_refl _) (by omega)) (HSV.out wz HBZ.out) HLL.out HN.out hlt hn48)
                have HLK := hide (fun (W : World) (hW : Below wz.heap.size wz W) => And.intro ((HXR.out W hW).lc hxk) (HXR.out W hW).lt)
                obtain ⟨zz, hzz⟩ := letl (leastN ls ss 2 (spAt ss m))
                rw [hzz] at HST HSL2
                clear hzz hxk
                go_wp2_with (go_at_call 20; (with_reducible refine HSL2.out.mono ?_); rintro e w5 ⟨rfl, hb5⟩; obtain ⟨⟨⟨c0, f0⟩, c1, f1⟩, lg⟩ := HLK.out w5 hb5)
                go_roundw
                case rel => exact ⟨m + 1, by omega, by go_num, ((HBZ.out.trans (hb5.mono HBZ.out.size)).setCell (p := ⟨g, m * 2, none⟩) HGW.out _).setCell (p := ⟨g, m * 2 + 1, none⟩) HGW.out _, by rw [HST.out]; exact (HXR.out w5 hb5).lcSet m 2 (zz : Int)⟩
                case measure => simp [intOf]; omega
              obtain ⟨hml, hst⟩ := HSF.out.2 hmk2
              have HST := hide hst
              have hmki : ¬ (m : Int) = (k : Int) := by omega
              have hmn : (m : Int) < n := by omega
              obtain ⟨⟨e0, g0⟩, e1, g1⟩ := (HXR.out wz (Below.refl _ _)).lc (lcAt_some (ls := ls) (i := m) (by have := HLL.out; omega))
              obtain ⟨⟨c0, f0⟩, c1, f1⟩ := (HXR.out wz (Below.refl _ _)).lc hxk
              have lg := (HXR.out wz (Below.refl _ _)).lt
              obtain ⟨xm, hxm⟩ := letl (lcAt ls m)
              have HOX := hide (show i64R xm.k ∧ i64R xm.n by rw [← hxm]; exact HOKL.out.at' m)
              rw [hxm] at HST e0 e1
              obtain ⟨mk, mn⟩ := xm
              clear hst hxm hxk HSF
              go_upto_region 33 with (fail)
              obtain ⟨w8, hw8⟩ := letr ((wz.setCell ⟨g, k * 2, none⟩ (.int .i64 mk)).setCell ⟨g, k * 2 + 1, none⟩ (.int .i64 mn))
              have HX8 := hide (show Box w8 g (lcsA (ls.set k ⟨mk, mn⟩)) 37 by rw [hw8]; exact (HXR.out wz (Below.refl _ _)).lcSet k mk mn)
              have HB8 := hide (show Below w.heap.size w w8 by rw [hw8]; exact (HBZ.out.setCell (p := ⟨g, k * 2, none⟩) HGW.out _).setCell (p := ⟨g, k * 2 + 1, none⟩) HGW.out _)
              rw [← hw8]
              clear hw8 e0 g0 e1 g1 c0 f0 c1 f1 lg
              obtain ⟨⟨c0, f0⟩, c1, f1⟩ := HX8.out.lc (lcAt_some (ls := ls.set k ⟨mk, mn⟩) (i := m) (by rw [List.length_set]; have := HLL.out; omega))
              have lg := HX8.out.lt
              go_upto_region 34 with (fail)
              obtain ⟨w9, hw9⟩ := letr ((w8.setCell ⟨g, m * 2, none⟩ (.int .i64 0)).setCell ⟨g, m * 2 + 1, none⟩ (.int .i64 0))
              have HX9 := hide (show Box w9 g (lcsA ((ls.set k ⟨mk, mn⟩).set m ⟨0, 0⟩)) 37 by rw [hw9]; exact HX8.out.lcSet m 0 0)
              have HB9 := hide (show Below w.heap.size w w9 by rw [hw9]; exact (HB8.out.setCell (p := ⟨g, m * 2, none⟩) HGW.out _).setCell (p := ⟨g, m * 2 + 1, none⟩) HGW.out _)
              rw [← hw9]
              clear hw9 c0 f0 c1 f1 lg
              have HLE := hide (show ((ls.set k ⟨mk, mn⟩).set m ⟨0, 0⟩).length = n by rw [List.length_set, List.length_set]; exact HLL.out)
              have HSL2 := hide (rslot_any g 0 n n c m (some ⟨bs, os, none⟩) ((ls.set k ⟨mk, mn⟩).set m ⟨0, 0⟩) ss w9 (lcs_of_box HX9.out ((HOKL.out.set k HOX.out).set m ⟨⟨by simp, by simp⟩, by simp, by simp⟩) HLE.out (Nat.le_refl _) (by omega)) (HSV.out w9 HB9.out) HLE.out HN.out (by omega) hn48)
              obtain ⟨l9, hl9⟩ := letl ((ls.set k ⟨mk, mn⟩).set m ⟨0, 0⟩)
              rw [hl9] at HSL2 HST HX9 HLE
              have HLK := hide (fun (W : World) (hW : Below w9.heap.size w9 W) => And.intro ((HX9.out.below hW).lc (lcAt_some (ls := l9) (i := m) (by have := HLE.out; omega))) (HX9.out.below hW).lt)
              obtain ⟨zz, hzz⟩ := letl (leastN l9 ss 2 (spAt ss m))
              rw [hzz] at HST HSL2
              clear hzz hl9
              go_wp2_with (go_at_call 20; (with_reducible refine HSL2.out.mono ?_); rintro e w5 ⟨rfl, hb5⟩; obtain ⟨⟨⟨c0, f0⟩, c1, f1⟩, lg⟩ := HLK.out w5 hb5)
              go_roundw
              case rel => exact ⟨k + 1, by omega, by go_num, ((HB9.out.trans (hb5.mono HB9.out.size)).setCell (p := ⟨g, m * 2, none⟩) HGW.out _).setCell (p := ⟨g, m * 2 + 1, none⟩) HGW.out _, by rw [HST.out]; exact (HX9.out.below hb5).lcSet m 2 (zz : Int)⟩
              case measure => simp [intOf]; omega
            have HZR := hide (HZS.out r (Nat.zero_le _) hrR)
            obtain ⟨j, hj⟩ : ∃ j : Nat, whoF ls ss yf r k = j := ⟨(whoF ls ss yf r k).toNat, by have := HALL.out r (Nat.zero_le _) hrR; omega⟩
            have hjk : j < k := by have := (HWP.out yf r).2; omega
            have HFN := hide (show farN ls ss yf k (r + 1) = if endsB16 (spAt ss m) (spAt ss j) = true then j else m by rw [farN, HFM.out, hj, Int.toNat_natCast])
            rw [hj] at HZR
            obtain ⟨c0, -⟩ := (HWX.out.below HBR.out).it HZR.out
            have lwz := (HWX.out.below HBR.out).lt
            obtain ⟨x, hx⟩ : ∃ x, ss[j]? = some x := ⟨_, List.getElem?_eq_getElem (by have := HN.out; omega)⟩
            obtain ⟨u, hu⟩ : ∃ x, ss[m]? = some x := ⟨_, List.getElem?_eq_getElem (by have := HN.out; omega)⟩
            rw [spAt_of hx, spAt_of hu] at HFN
            obtain ⟨t0, t1, t2, t3, t4⟩ := HSP.out wz HBZ.out bs os rfl j x hx
            obtain ⟨v0, v1, v2, v3, v4⟩ := HSP.out wz HBZ.out bs os rfl m u hu
            obtain ⟨xv, xf, xt, xc⟩ := x
            obtain ⟨uv, uf, ut, uc⟩ := u
            have hji : (j : Int) < n := by omega
            have hmi : (m : Int) < n := by omega
            have hrr : (r : Int) < R := by omega
            have hj0 : (0 : Int) ≤ (j : Int) := by omega
            have hm0 : (0 : Int) ≤ (m : Int) := by omega
            clear hj hx hu
            rcases (show ut < xt ∨ (¬ ut < xt ∧ ¬ xt = ut) ∨ (¬ ut < xt ∧ xt = ut ∧ uv < xv) ∨ (¬ ut < xt ∧ xt = ut ∧ ¬ uv < xv) by omega) with h1 | ⟨h1, h2⟩ | ⟨h1, rfl, h3⟩ | ⟨h1, rfl, h3⟩
            · have HE := hide (show farN ls ss yf k (r + 1) = j by rw [HFN.out, if_pos (by unfold endsB16; simp; omega)])
              have d1 : decide (ut < xt) = true := by simp <;> omega
              clear HFN
              go_wp2
              go_quiet (fail)
              go_wp2
              go_roundw
              case rel => exact ⟨r + 1, j, by omega, by go_num, rfl, by omega, below_drewN HBR.out _, HE⟩
              case measure => simp [intOf]; omega
            · have HE := hide (show farN ls ss yf k (r + 1) = m by rw [HFN.out, if_neg (by unfold endsB16; simp; omega)])
              have d1 : decide (ut < xt) = false := by simp <;> omega
              have d2 : decide (xt = ut) = false := by simp <;> omega
              clear HFN
              go_wp2
              go_quiet (fail)
              go_wp2
              go_roundw
              case rel => exact ⟨r + 1, m, by omega, by go_num, rfl, hmk', below_drewN HBR.out _, HE⟩
              case measure => simp [intOf]; omega
            · have HE := hide (show farN ls ss yf k (r + 1) = j by rw [HFN.out, if_pos (by unfold endsB16; simp; omega)])
              have d1 : decide (xt < xt) = false := by simp
              have d3 : decide (uv < xv) = true := by simp <;> omega
              clear HFN
              go_wp2
              go_quiet (fail)
              go_wp2
              go_roundw
              case rel => exact ⟨r + 1, j, by omega, by go_num, rfl, by omega, below_drewN HBR.out _, HE⟩
              case measure => simp [intOf]; omega
            · have HE := hide (show farN ls ss yf k (r + 1) = m by rw [HFN.out, if_neg (by unfold endsB16; simp; omega)])
              have d1 : decide (xt < xt) = false := by simp
              have d3 : decide (uv < xv) = false := by simp <;> omega
              clear HFN
              go_wp2
              go_quiet (fail)
              go_wp2
              go_roundw
              case rel => exact ⟨r + 1, m, by omega, by go_num, rfl, hmk', below_drewN HBR.out _, HE⟩
              case measure => simp [intOf]; omega
        · have HST := hide (show scanL ss R (k + 1) = ls.set k ⟨1, (l : Int)⟩ by rw [← HLS.out]; exact step_reg HOK.out HINK.out HKN.out HCF.out hl2 (by rw [HFF.out, HLS.out]; exact hl3) (fun q hq => by rw [HFF.out, HLS.out]; exact hl4 q (Nat.zero_le _) hq))
          have hl0 : (0 : Int) ≤ (l : Int) := by omega
          obtain ⟨x, hx⟩ : ∃ x, ls[k]? = some x := ⟨_, List.getElem?_eq_getElem (by have := HLL.out; omega)⟩
          obtain ⟨⟨c0, f0⟩, c1, f1⟩ := HXX.out.lc hx
          have lg := HXX.out.lt
          have HBS := hide (HXX.out.lcSet k 1 (l : Int))
          clear hx hl3 hl4
          go_wp2
          go_roundw
          case rel => exact ⟨k + 1, by omega, by go_num, (HBX.out.setCell (p := ⟨g, k * 2, none⟩) HGW.out _).setCell (p := ⟨g, k * 2 + 1, none⟩) HGW.out _, by rw [HST.out]; exact HBS.out⟩
          case measure => simp [intOf]; omega
      have hp1 : ((p + 1 : Nat) : Int) - 1 = (p : Int) := by omega
      rw [hp1]
      have hp0 : (0 : Int) ≤ (p : Int) := by omega
      have hpR : (p : Int) < R := by omega
      obtain ⟨z0, hz0⟩ : ∃ z, zs[p]? = some z := ⟨_, List.getElem?_eq_getElem (by have := HQ.out.1; omega)⟩
      obtain ⟨c0, f0⟩ := HWX.out.it hz0
      have lw' := HWX.out.lt
      clear hz0
      go_upto_region 15 with (fail)
      obtain ⟨w7, hw7⟩ := letr (wx.setCell ⟨hw, p, none⟩ (.int .i64 (-1)))
      have HW7 := hide (show Box w7 hw (intsA (zs.set p (whoF ls ss yf p 0))) 3 by rw [hw7]; exact HWX.out.itSet p (-1))
      have HX7 := hide (show Box w7 g (lcsA ls) 37 by rw [hw7]; exact HXX.out.other (fun e => HNE.out e.symm))
      have HB7 := hide (show Below w.heap.size w w7 by rw [hw7]; exact HBX.out.setCell (p := ⟨hw, p, none⟩) HWG.out _)
      rw [← hw7]
      clear hw7 c0 f0 lw'
      go_wp2
      go_loopw [11] (fun z wr => ∃ j : Nat, j ≤ k ∧ z = .int .i64 j ∧ Below w.heap.size w wr ∧ Box wr g (lcsA ls) 37 ∧ Box wr hw (intsA (zs.set p (whoF ls ss yf p j))) 3) (fun z _ => k - (intOf z).toNat)
      case atStart => exact ⟨0, Nat.zero_le _, rfl, HB7.out, HX7.out, HW7.out⟩
      case round =>
        obtain ⟨j, hj, rfl, hb, hx, hwz⟩ := hrel
        obtain ⟨wz, rfl⟩ : ∃ wo, wo = wr := ⟨_, rfl⟩
        have HBZ := hide hb
        have HXZ := hide hx
        have HWZ := hide hwz
        clear hb hx hwz
        obtain ⟨c0, f0⟩ := HWZ.out.it (j := p) (z := whoF ls ss yf p j) (by rw [List.getElem?_set, if_pos rfl, if_pos (by have := HQ.out.1; omega)])
        have lwz := HWZ.out.lt
        by_cases hjk : j < k
        case neg =>
          have e : j = k := by omega
          subst e
          have HEX := hide (fun (lw2 : Int) (h : (0 ≤ whoF ls ss yf p j ∧ lw2 = lw) ∨ (whoF ls ss yf p j < 0 ∧ lw2 = p)) => (show (zs.set p (whoF ls ss yf p j)).length = R ∧ (∀ i : Nat, p ≤ i → i < R → (zs.set p (whoF ls ss yf p j))[i]? = some (whoF ls ss yf i j)) ∧ ((lw2 = -1 ∧ ∀ i : Nat, p ≤ i → i < R → 0 ≤ whoF ls ss yf i j) ∨ ∃ l : Nat, lw2 = l ∧ p ≤ l ∧ l < R ∧ whoF ls ss yf l j < 0 ∧ ∀ i : Nat, p ≤ i → i < l → 0 ≤ whoF ls ss yf i j) from by
            obtain ⟨a1, a2, a3⟩ := HQ.out
            refine ⟨by rw [List.length_set]; exact a1, fun i h1 h2 => ?_, ?_⟩
            · rw [List.getElem?_set]
              by_cases e : p = i
              · subst e; rw [if_pos rfl, if_pos (by omega)]
              · rw [if_neg e]; exact a2 i (by omega) h2
            · rcases h with ⟨h1, rfl⟩ | ⟨h1, rfl⟩
              · rcases a3 with ⟨a3, a4⟩ | ⟨l, b1, b2, b3, b4, b5⟩
                · refine .inl ⟨a3, fun i h3 h4 => ?_⟩
                  by_cases e : p = i
                  · subst e; exact h1
                  · exact a4 i (by omega) h4
                · refine .inr ⟨l, b1, by omega, b3, b4, fun i h3 h4 => ?_⟩
                  by_cases e : p = i
                  · subst e; exact h1
                  · exact b5 i (by omega) h4
              · exact .inr ⟨p, rfl, Nat.le_refl _, by omega, h1, fun i h3 h4 => absurd h4 (by omega)⟩))
          obtain ⟨wh, hwh⟩ := letl (whoF ls ss yf p j)
          rw [hwh] at HWZ HEX c0
          clear hwh
          by_cases hneg : wh < 0
          · have hd : decide (wh < 0) = true := by simp [hneg]
            have HE2 := hide (HEX.out p (.inr ⟨hneg, rfl⟩))
            clear HEX
            go_wp2
            go_roundw
            case rel => exact ⟨p, _, p, by omega, by first | rfl | (congr 1; omega), rfl, HBZ.out, HXZ.out, HWZ.out, HE2⟩
            case measure => simp [intOf] <;> omega
          · have hd : decide (wh < 0) = false := by simp [hneg]
            have HE2 := hide (HEX.out lw (.inl ⟨by omega, rfl⟩))
            clear HEX
            go_wp2
            go_roundw
            case rel => exact ⟨p, _, lw, by omega, by first | rfl | (congr 1; omega), rfl, HBZ.out, HXZ.out, HWZ.out, HE2⟩
            case measure => simp [intOf] <;> omega
        obtain ⟨x, hx⟩ : ∃ x, ls[j]? = some x := ⟨_, List.getElem?_eq_getElem (by have := HLL.out; omega)⟩
        obtain ⟨u, hu⟩ : ∃ x, ss[j]? = some x := ⟨_, List.getElem?_eq_getElem (by have := HN.out; omega)⟩
        have HW1 := hide (who_one (f := yf) (r := (p : Int)) hx hu)
        obtain ⟨⟨d0, -⟩, d1, -⟩ := HXZ.out.lc hx
        have lgz := HXZ.out.lt
        obtain ⟨t0, t1, t2, t3, t4⟩ := HSP.out wz HBZ.out bs os rfl j u hu
        obtain ⟨s0, s1, s2, s3, s4⟩ := HSK.out wz HBZ.out
        obtain ⟨xk, xn⟩ := x
        obtain ⟨uv, uf, ut, uc⟩ := u
        have hjn : j < n := by omega
        have hji : (j : Int) < n := by omega
        clear hx hu
        by_cases hxe : xk = 1 ∧ xn = (p : Int)
        rotate_left
        · have HE := hide (show whoF ls ss yf p (j + 1) = whoF ls ss yf p j by rw [HW1.out, if_neg (fun e => hxe (by have e1 := e.1; injection e1 with e1 e2; exact ⟨e1, e2⟩))])
          rcases (show ¬ xk = 1 ∨ (xk = 1 ∧ ¬ xn = (p : Int)) by omega) with hne | ⟨rfl, hne⟩
          all_goals
            clear hxe
            go_wp2
            go_quiet (fail)
            go_wp2
            go_roundw
            case rel => exact ⟨j + 1, by omega, by go_num, below_drewN HBZ.out _, HXZ.out, by rw [HE.out]; exact HWZ.out⟩
            case measure => simp [intOf]; omega
        obtain ⟨rfl, rfl⟩ := hxe
        by_cases hft : yf ≤ ut
        · have hd : decide (yf ≤ ut) = true := by simp [hft]
          have HE := hide (show whoF ls ss yf p (j + 1) = j by rw [HW1.out, if_pos ⟨rfl, hft⟩])
          have HWS := hide (show Box (wz.setCell ⟨hw, p, none⟩ (.int .i64 (j : Int))) hw (intsA (zs.set p (j : Int))) 3 by have t := HWZ.out.itSet p (j : Int); rwa [List.set_set] at t)
          have HXS := hide (show Box (wz.setCell ⟨hw, p, none⟩ (.int .i64 (j : Int))) g (lcsA ls) 37 from HXZ.out.other (fun e => HNE.out e.symm))
          go_wp2
          go_quiet (fail)
          go_wp2
          go_roundw
          case rel => exact ⟨j + 1, by omega, by go_num, (below_drewN HBZ.out nq).setCell (p := ⟨hw, p, none⟩) HWG.out _, HXS.out, by rw [HE.out]; exact HWS.out⟩
          case measure => simp [intOf]; omega
        · have hd : decide (yf ≤ ut) = false := by simp [hft]
          have HE := hide (show whoF ls ss yf p (j + 1) = whoF ls ss yf p j by rw [HW1.out, if_neg (fun e => hft e.2)])
          go_wp2
          go_quiet (fail)
          go_wp2
          go_roundw
          case rel => exact ⟨j + 1, by omega, by go_num, below_drewN HBZ.out _, HXZ.out, by rw [HE.out]; exact HWZ.out⟩
          case measure => simp [intOf]; omega
end Go.Proofs.Ytojobajeffipdaa
