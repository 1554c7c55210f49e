/- Layer 16: homes; the reference: Clash. Condition: no more than 1000. -/
import Derived.Test.YtojobajeffipdaaPcQT
set_option linter.unusedSimpArgs false
set_option linter.unusedVariables false
namespace Go.Proofs.Ytojobajeffipdaa
open Go.RowKit

theorem home_next {ss : List SpV} {ls : List LcV} {k : Nat} {y : SpV} {x : LcV} (hy : ss[k]? = some y) (hx : ls[k]? = some x) : ((ss.zip ls).take (k + 1)).filter homeB = ((ss.zip ls).take k).filter homeB ++ (if homeB (y, x) = true then [(y, x)] else []) := by
  have hz : (ss.zip ls)[k]? = some (y, x) := List.getElem?_zip_eq_some.2 ⟨hy, hx⟩
  rw [List.take_add_one, hz, Option.toList_some, List.filter_append, List.filter_cons, List.filter_nil]
theorem home_end {ss : List SpV} {ls : List LcV} {k : Nat} (h : min ss.length ls.length ≤ k) : ((ss.zip ls).take k).filter homeB = homesL ss ls := by
  unfold homesL
  rw [List.take_of_length_le (by rw [List.length_zip]; exact h)]
theorem home_len (ss : List SpV) (ls : List LcV) (k : Nat) : (((ss.zip ls).take k).filter homeB).length ≤ k := by
  refine Nat.le_trans (List.length_filter_le _ _) ?_
  rw [List.length_take]
  omega
theorem info_home : (Try.prog.info? 53).map (fun i => (i.zero, i.size, i.bytes)) = some (some (.agg #[.int .i64 0, .int .i64 0, .int .i64 0, .bool false, .int .i64 0, .int .i64 0]), 6, 48) := by kernel_rfl
theorem homeC_one (p : HomeV) : ∀ u ∈ homeC p, u.oneCell' = true := by
  intro u hu
  simp only [homeC, List.mem_cons, List.mem_nil_iff, or_false] at hu
  rcases hu with rfl | rfl | rfl | rfl | rfl | rfl <;> rfl
set_option maxHeartbeats 4000000 in
set_option maxRecDepth 100000 in
theorem qhomes_any (v u : Value) (ss : List SpV) (ls : List LcV) (w : World) (hs : SpsV w (· < w.heap.size) v ss) (hl : LcsV w (· < w.heap.size) u ls) (hm1 : ss.length ≤ 1000) (hm2 : ls.length ≤ 1000) :
    Calls Try.prog 22 #[v, u] w fun e w' => ∃ v', e = .returned v' ∧ OwC homeC 53 6 w' w.heap.size v' (homesL ss ls) ∧ Below w.heap.size w w' := by
  obtain ⟨A, c, rfl, hc, hcm⟩ := hs.open'
  obtain ⟨B, d, rfl, hd, hdm⟩ := hl.open'
  obtain ⟨n, hn⟩ := letl ss.length
  obtain ⟨m, hm⟩ := letl ls.length
  rw [hn] at hs hc hm1 ⊢
  rw [hm] at hl hd hm2 ⊢
  have HSP := hide (fun (W : World) (hW : Below w.heap.size w W) (b o : Nat) (hA : A = some ⟨b, o, none⟩) (j : Nat) (y : SpV) (hy : ss[j]? = some y) => (hA ▸ hs).at' hW hy)
  have HLC := hide (fun (W : World) (hW : Below w.heap.size w W) (b o : Nat) (hA : B = some ⟨b, o, none⟩) (j : Nat) (y : LcV) (hy : ls[j]? = some y) => (hA ▸ hl).at' hW hy)
  have HSA := hide (fun (j : Nat) (y : SpV) (hy : ss[j]? = some y) => (show (∃ b o, A = some ⟨b, o, none⟩) from by
    obtain ⟨b, o, e, -⟩ := hs.get hy
    exact ⟨b, o, e⟩))
  have HLA := hide (fun (j : Nat) (y : LcV) (hy : ls[j]? = some y) => (show (∃ b o, B = some ⟨b, o, none⟩) from by
    obtain ⟨b, o, e, -⟩ := hl.get hy
    exact ⟨b, o, e⟩))
  have HN := hide hn
  have HM := hide hm
  obtain ⟨i0, hi0, iz0, iz1, iz2⟩ := info_parts info_home
  have HI := hide hi0
  clear hs hl hn hm hi0
  rcases Nat.lt_or_ge m n with hnm | hnm
  · have HEND := hide (show ∀ k, m ≤ k → ((ss.zip ls).take k).filter homeB = homesL ss ls from fun k hk => home_end (by rw [HN.out, HM.out]; omega))
    have hmi : (m : Int) < (n : Int) := by omega
    go_enter Try.func22, Try.ntmps22
    go_wp2
    try (exfalso; omega)
    go_loopw [5, 13] (fun a z wr => ∃ k : Nat, k ≤ m ∧ z = .int .i64 k ∧ Below w.heap.size w wr ∧ Hid (OwC homeC 53 6 wr w.heap.size a (((ss.zip ls).take k).filter homeB))) (fun _ z _ => m - (intOf z).toNat)
    case atStart => exact ⟨0, Nat.zero_le _, rfl, Below.refl _ _, hide (OwC.nil _ _)⟩
    case round =>
      obtain ⟨k, hk, rfl, hb, HO⟩ := hrel
      obtain ⟨wo, rfl⟩ : ∃ wo, wo = wr := ⟨_, rfl⟩
      have HBW := hide hb
      clear hb
      by_cases hlt : k < m
      case neg =>
        have HO2 := hide (show OwC homeC 53 6 wo w.heap.size u5 (homesL ss ls) from by have t := HO.out; rwa [HEND.out k (by omega)] at t)
        go_wp2
        go_ret
        exact ⟨_, rfl, HO2.out, HBW.out⟩
      obtain ⟨y, hy⟩ : ∃ y, ss[k]? = some y := ⟨_, List.getElem?_eq_getElem (by have := HN.out; omega)⟩
      obtain ⟨x, hx⟩ : ∃ y, ls[k]? = some y := ⟨_, List.getElem?_eq_getElem (by have := HM.out; omega)⟩
      obtain ⟨bs, os, hA⟩ := HSA.out k y hy
      obtain ⟨bl, ol, hB⟩ := HLA.out k x hx
      subst hA
      subst hB
      have HNX := hide (home_next hy hx)
      have hHL := home_len ss ls k
      have HLX := hide (fun (W : World) (hW : Below wo.heap.size wo W) => HLC.out W (HBW.out.trans (hW.mono HBW.out.size)) bl ol rfl k x hx)
      obtain ⟨s0, s1, s2, s3, s4⟩ := HSP.out wo HBW.out bs os rfl k y hy
      obtain ⟨L, hL⟩ := letl (((ss.zip ls).take k).filter homeB)
      rw [hL] at HO HNX hHL
      have HLL := hide (show L.length ≤ k from hHL)
      obtain ⟨yv, yf, yt, yc⟩ := y
      obtain ⟨xk, xn⟩ := x
      have hkn : (k : Int) < n := by omega
      have hkm : (k : Int) < m := by omega
      clear hx hy hL hHL
      go_upto_region 6 with (fail)
      obtain ⟨w4, hw4⟩ := letr (wo.alloc (.cells #[.int .i64 yv, .int .i64 yf, .int .i64 yt, .bool yc] 35))
      obtain ⟨h4, hh4⟩ := letl wo.heap.size
      have HX := lBox hw4 hh4
      have HB4 := lBel hw4
      rw [← hw4, hh4]
      clear hw4 hh4 s0 s1 s2 s3 s4
      have HC := hide (HBW.out.trans (HB4.out.mono HBW.out.size))
      have HO4 := hide (HO.out.below HB4.out)
      obtain ⟨c0, c1, cb⟩ := HLX.out w4 HB4.out
      obtain ⟨q0, q1, q2, q3⟩ := And.intro (HX.out.cell 0 (v := .int .i64 yv) rfl).1 (And.intro (HX.out.cell 1 (v := .int .i64 yf) rfl).1 (And.intro (HX.out.cell 2 (v := .int .i64 yt) rfl).1 (HX.out.cell 3 (v := .bool yc) rfl).1))
      have lx := HX.out.lt
      by_cases hk0 : xk = 0
      · have HE := hide (show ((ss.zip ls).take (k + 1)).filter homeB = L by rw [HNX.out, if_neg (by unfold homeB; simp [hk0])]; simp)
        go_wp2
        go_roundw
        case rel => exact ⟨k + 1, by omega, by go_num, HC.out, hide (by rw [HE.out]; exact HO4.out)⟩
        case measure => simp [intOf]; omega
      have HM2 := hide (fun (W : World) => qmeet_any ⟨yv, yf, yt, yc⟩ ⟨yv, yf, yt, yc⟩ W)
      obtain ⟨b, hbm⟩ := letl (meetB ⟨yv, yf, yt, yc⟩ ⟨yv, yf, yt, yc⟩)
      have HHB := hide (show homeB (⟨yv, yf, yt, yc⟩, ⟨xk, xn⟩) = b by unfold homeB; simp only; rw [hbm]; simp [hk0])
      rw [hbm] at HM2
      unfold spA at HM2
      clear hbm
      cases b
      · have HE := hide (show ((ss.zip ls).take (k + 1)).filter homeB = L by rw [HNX.out, if_neg (by rw [HHB.out]; simp)]; simp)
        go_wp2_with (go_at_call 27; (with_reducible refine (HM2.out w4).mono ?_); rintro e w5 ⟨rfl, hb5⟩)
        go_roundw
        case rel => exact ⟨k + 1, by omega, by go_num, HC.out.trans (hb5.mono HC.out.size), hide (by rw [HE.out]; exact HO4.out.below hb5)⟩
        case measure => simp [intOf]; omega
      have HE := hide (show ((ss.zip ls).take (k + 1)).filter homeB = L ++ [(⟨yv, yf, yt, yc⟩, ⟨xk, xn⟩)] by rw [HNX.out, if_pos HHB.out])
      go_upto_region 7 with (go_at_call 27; (with_reducible refine (HM2.out w4).mono ?_); rintro e w5 ⟨rfl, hb5⟩; have HB5 := hide hb5; clear hb5 q0 q1 q2 q3 lx c0 c1 cb)
      have HO5 := hide (HO4.out.below HB5.out)
      have HX5 := hide (HX.out.below HB5.out)
      have HC5 := hide (HC.out.trans (HB5.out.mono HC.out.size))
      have HKR := hide (fun (W : World) (hW : Below w5.heap.size w5 W) => And.intro (HLX.out W ((HB4.out.trans (HB5.out.mono HB4.out.size)).trans (hW.mono (HB4.out.trans (HB5.out.mono HB4.out.size)).size))) (And.intro ((HX5.out.below hW).cell 0 (v := .int .i64 yv) rfl).1 (And.intro ((HX5.out.below hW).cell 1 (v := .int .i64 yf) rfl).1 (And.intro ((HX5.out.below hW).cell 2 (v := .int .i64 yt) rfl).1 ((HX5.out.below hW).cell 3 (v := .bool yc) rfl).1))))
      obtain ⟨nl, hnl⟩ := letl L.length
      have HNL := hide hnl
      have hnl2 : nl < 1000000 := by have := HLL.out; omega
      obtain ⟨A5, c5, hv5, -, -⟩ := HO5.out.sl
      rw [hnl] at hv5
      subst hv5
      clear hnl HLX
      have HKS := hide (fun (W : World) (hW : Below w5.heap.size w5 W) => (show W.cell? ⟨bl, ol + k * 2, none⟩ = some (.int .i64 xk) ∧ W.cell? ⟨bl, ol + k * 2 + 1, none⟩ = some (.int .i64 xn) ∧ W.cell? ⟨h4, 0, none⟩ = some (.int .i64 yv) ∧ W.cell? ⟨h4, 1, none⟩ = some (.int .i64 yf) ∧ W.cell? ⟨h4, 2, none⟩ = some (.int .i64 yt) ∧ W.cell? ⟨h4, 3, none⟩ = some (.bool yc) from by obtain ⟨⟨k0, k1, -⟩, m0, m1, m2, m3⟩ := HKR.out W hW; exact ⟨k0, k1, m0, m1, m2, m3⟩))
      have BE0 := hide (show Below w5.heap.size w5 w5.drew from below_drewN (Below.refl _ _) 1)
      refine wp_region_til (fun w' => w'.cell? ⟨bl, ol + k * 2, none⟩ = some (.int .i64 xk) ∧ w'.cell? ⟨bl, ol + k * 2 + 1, none⟩ = some (.int .i64 xn) ∧ w'.cell? ⟨h4, 0, none⟩ = some (.int .i64 yv) ∧ w'.cell? ⟨h4, 1, none⟩ = some (.int .i64 yf) ∧ w'.cell? ⟨h4, 2, none⟩ = some (.int .i64 yt) ∧ w'.cell? ⟨h4, 3, none⟩ = some (.bool yc)) 8 (by kernel_rfl) (HKS.out _ BE0.out) ?_
      obtain ⟨w100, hw100⟩ : ∃ w100, w100 = w5.drew := ⟨_, rfl⟩
      have BE100 := hide (show Below w5.heap.size w5 w100 by rw [hw100]; exact BE0.out)
      rw [← hw100]
      have hSd := HKS.out w100 BE100.out
      clear hw100
      refine tilM 0 (Or.inr hSd) ?_
      refine tilM 2 (Or.inr hSd) ?_
      refine tilM 3 (Or.inr hSd) ?_
      refine tilM 4 (Or.inr hSd) ?_
      refine tilD 1 [8, 7, 6] hSd ?_
      refine tilD 5 [8, 7, 6] hSd ?_
      refine tilM 6 (Or.inr hSd) ?_
      refine wpTil_ready (rs := [7]) (by kernel_rfl) (by simp) ?_
      refine AllTil.cons rfl (fun K hK => ?_) ?_
      · skip
        rw [if_pos (by rfl)]
        go_simp
        obtain ⟨w101, hw101⟩ := letr (w100.alloc (.cells #[.int .i64 yv, .int .i64 yf, .int .i64 yt, .bool yc, .int .i64 xk, .int .i64 xn] 53))
        obtain ⟨Hb, hHb⟩ := letl w100.heap.size
        have BXb := lBox hw101 hHb
        have BE101 := hide (show Below w5.heap.size w5 w101 by rw [hw101]; exact BE100.out.alloc BE100.out.size _)
        rw [← hw101, hHb]
        clear hw101 hHb
        refine hK.out _ _ (HKS.out w101 BE101.out) ?_
        clear hK K
        try clear hSd
        have hSd := HKS.out w101 BE101.out
        try simp only [tilS, Act.put]
        refine wpTil_ready (rs := [8]) (by kernel_rfl) (by simp) ?_
        refine AllTil.last rfl (by rfl) (fun K hK => ?_)
        refine step_append_cn (c := homeC) (sz := 6) w101 (by rfl) _ _ _ (by rfl) w.heap.size i0 _ 48 Try.underlying49 HI.out iz0 iz1 iz2 rfl (by omega) (by omega) (.slice A5 nl c5) L nl HNL.out (by rfl) (HO5.out.below BE101.out) (⟨yv, yf, yt, yc⟩, ⟨xk, xn⟩) rfl (homeC_one _) Hb #[.int .i64 yv, .int .i64 yf, .int .i64 yt, .bool yc, .int .i64 xk, .int .i64 xn] BXb.out rfl (by rfl) hnl2 (Nat.le_trans HC5.out.size BE101.out.size) ?_
        intro g6 k6 w102 ho6 hg6 hv6 hl6
        have HO6 := hide (show OwC homeC 53 6 w102 w.heap.size (.slice (some ⟨g6, 0, none⟩) (nl + 1) k6) (L ++ [(⟨yv, yf, yt, yc⟩, ⟨xk, xn⟩)]) from ho6)
        have HB6 := hide ((HC5.out.trans (BE101.out.mono HC5.out.size)).grown hg6 (Nat.le_trans HC5.out.size BE101.out.size) (fun z hz => (HO5.out.lt z hz).1))
        clear ho6 hg6 hv6 hl6
        refine hK.out _ _ ?_
        clear hK K hSd
        try simp only [tilS, Act.put]
        refine tilM 9 (Or.inl (by rfl)) ?_
        refine wpTil_done (by kernel_rfl) ?_ _
        go_wp2
        go_roundw
        case rel => exact ⟨k + 1, by omega, by go_num, HB6.out, hide (by rw [HE.out]; exact HO6.out)⟩
        case measure => simp [intOf]; omega
      exact AllTil.nil
  · have HEND := hide (show ∀ k, n ≤ k → ((ss.zip ls).take k).filter homeB = homesL ss ls from fun k hk => home_end (by rw [HN.out, HM.out]; omega))
    have hmi : (n : Int) ≤ (m : Int) := by omega
    go_enter Try.func22, Try.ntmps22
    go_wp2
    try (exfalso; omega)
    go_loopw [5, 13] (fun a z wr => ∃ k : Nat, k ≤ n ∧ z = .int .i64 k ∧ Below w.heap.size w wr ∧ Hid (OwC homeC 53 6 wr w.heap.size a (((ss.zip ls).take k).filter homeB))) (fun _ z _ => n - (intOf z).toNat)
    case atStart => exact ⟨0, Nat.zero_le _, rfl, Below.refl _ _, hide (OwC.nil _ _)⟩
    case round =>
      obtain ⟨k, hk, rfl, hb, HO⟩ := hrel
      obtain ⟨wo, rfl⟩ : ∃ wo, wo = wr := ⟨_, rfl⟩
      have HBW := hide hb
      clear hb
      by_cases hlt : k < n
      case neg =>
        have HO2 := hide (show OwC homeC 53 6 wo w.heap.size u5 (homesL ss ls) from by have t := HO.out; rwa [HEND.out k (by omega)] at t)
        go_wp2
        go_ret
        exact ⟨_, rfl, HO2.out, HBW.out⟩
      obtain ⟨y, hy⟩ : ∃ y, ss[k]? = some y := ⟨_, List.getElem?_eq_getElem (by have := HN.out; omega)⟩
      obtain ⟨x, hx⟩ : ∃ y, ls[k]? = some y := ⟨_, List.getElem?_eq_getElem (by have := HM.out; omega)⟩
      obtain ⟨bs, os, hA⟩ := HSA.out k y hy
      obtain ⟨bl, ol, hB⟩ := HLA.out k x hx
      subst hA
      subst hB
      have HNX := hide (home_next hy hx)
      have hHL := home_len ss ls k
      have HLX := hide (fun (W : World) (hW : Below wo.heap.size wo W) => HLC.out W (HBW.out.trans (hW.mono HBW.out.size)) bl ol rfl k x hx)
      obtain ⟨s0, s1, s2, s3, s4⟩ := HSP.out wo HBW.out bs os rfl k y hy
      obtain ⟨L, hL⟩ := letl (((ss.zip ls).take k).filter homeB)
      rw [hL] at HO HNX hHL
      have HLL := hide (show L.length ≤ k from hHL)
      obtain ⟨yv, yf, yt, yc⟩ := y
      obtain ⟨xk, xn⟩ := x
      have hkn : (k : Int) < n := by omega
      have hkm : (k : Int) < m := by omega
      clear hx hy hL hHL
      go_upto_region 6 with (fail)
      obtain ⟨w4, hw4⟩ := letr (wo.alloc (.cells #[.int .i64 yv, .int .i64 yf, .int .i64 yt, .bool yc] 35))
      obtain ⟨h4, hh4⟩ := letl wo.heap.size
      have HX := lBox hw4 hh4
      have HB4 := lBel hw4
      rw [← hw4, hh4]
      clear hw4 hh4 s0 s1 s2 s3 s4
      have HC := hide (HBW.out.trans (HB4.out.mono HBW.out.size))
      have HO4 := hide (HO.out.below HB4.out)
      obtain ⟨c0, c1, cb⟩ := HLX.out w4 HB4.out
      obtain ⟨q0, q1, q2, q3⟩ := And.intro (HX.out.cell 0 (v := .int .i64 yv) rfl).1 (And.intro (HX.out.cell 1 (v := .int .i64 yf) rfl).1 (And.intro (HX.out.cell 2 (v := .int .i64 yt) rfl).1 (HX.out.cell 3 (v := .bool yc) rfl).1))
      have lx := HX.out.lt
      by_cases hk0 : xk = 0
      · have HE := hide (show ((ss.zip ls).take (k + 1)).filter homeB = L by rw [HNX.out, if_neg (by unfold homeB; simp [hk0])]; simp)
        go_wp2
        go_roundw
        case rel => exact ⟨k + 1, by omega, by go_num, HC.out, hide (by rw [HE.out]; exact HO4.out)⟩
        case measure => simp [intOf]; omega
      have HM2 := hide (fun (W : World) => qmeet_any ⟨yv, yf, yt, yc⟩ ⟨yv, yf, yt, yc⟩ W)
      obtain ⟨b, hbm⟩ := letl (meetB ⟨yv, yf, yt, yc⟩ ⟨yv, yf, yt, yc⟩)
      have HHB := hide (show homeB (⟨yv, yf, yt, yc⟩, ⟨xk, xn⟩) = b by unfold homeB; simp only; rw [hbm]; simp [hk0])
      rw [hbm] at HM2
      unfold spA at HM2
      clear hbm
      cases b
      · have HE := hide (show ((ss.zip ls).take (k + 1)).filter homeB = L by rw [HNX.out, if_neg (by rw [HHB.out]; simp)]; simp)
        go_wp2_with (go_at_call 27; (with_reducible refine (HM2.out w4).mono ?_); rintro e w5 ⟨rfl, hb5⟩)
        go_roundw
        case rel => exact ⟨k + 1, by omega, by go_num, HC.out.trans (hb5.mono HC.out.size), hide (by rw [HE.out]; exact HO4.out.below hb5)⟩
        case measure => simp [intOf]; omega
      have HE := hide (show ((ss.zip ls).take (k + 1)).filter homeB = L ++ [(⟨yv, yf, yt, yc⟩, ⟨xk, xn⟩)] by rw [HNX.out, if_pos HHB.out])
      go_upto_region 7 with (go_at_call 27; (with_reducible refine (HM2.out w4).mono ?_); rintro e w5 ⟨rfl, hb5⟩; have HB5 := hide hb5; clear hb5 q0 q1 q2 q3 lx c0 c1 cb)
      have HO5 := hide (HO4.out.below HB5.out)
      have HX5 := hide (HX.out.below HB5.out)
      have HC5 := hide (HC.out.trans (HB5.out.mono HC.out.size))
      have HKR := hide (fun (W : World) (hW : Below w5.heap.size w5 W) => And.intro (HLX.out W ((HB4.out.trans (HB5.out.mono HB4.out.size)).trans (hW.mono (HB4.out.trans (HB5.out.mono HB4.out.size)).size))) (And.intro ((HX5.out.below hW).cell 0 (v := .int .i64 yv) rfl).1 (And.intro ((HX5.out.below hW).cell 1 (v := .int .i64 yf) rfl).1 (And.intro ((HX5.out.below hW).cell 2 (v := .int .i64 yt) rfl).1 ((HX5.out.below hW).cell 3 (v := .bool yc) rfl).1))))
      obtain ⟨nl, hnl⟩ := letl L.length
      have HNL := hide hnl
      have hnl2 : nl < 1000000 := by have := HLL.out; omega
      obtain ⟨A5, c5, hv5, -, -⟩ := HO5.out.sl
      rw [hnl] at hv5
      subst hv5
      clear hnl HLX
      have HKS := hide (fun (W : World) (hW : Below w5.heap.size w5 W) => (show W.cell? ⟨bl, ol + k * 2, none⟩ = some (.int .i64 xk) ∧ W.cell? ⟨bl, ol + k * 2 + 1, none⟩ = some (.int .i64 xn) ∧ W.cell? ⟨h4, 0, none⟩ = some (.int .i64 yv) ∧ W.cell? ⟨h4, 1, none⟩ = some (.int .i64 yf) ∧ W.cell? ⟨h4, 2, none⟩ = some (.int .i64 yt) ∧ W.cell? ⟨h4, 3, none⟩ = some (.bool yc) from by obtain ⟨⟨k0, k1, -⟩, m0, m1, m2, m3⟩ := HKR.out W hW; exact ⟨k0, k1, m0, m1, m2, m3⟩))
      have BE0 := hide (show Below w5.heap.size w5 w5.drew from below_drewN (Below.refl _ _) 1)
      refine wp_region_til (fun w' => w'.cell? ⟨bl, ol + k * 2, none⟩ = some (.int .i64 xk) ∧ w'.cell? ⟨bl, ol + k * 2 + 1, none⟩ = some (.int .i64 xn) ∧ w'.cell? ⟨h4, 0, none⟩ = some (.int .i64 yv) ∧ w'.cell? ⟨h4, 1, none⟩ = some (.int .i64 yf) ∧ w'.cell? ⟨h4, 2, none⟩ = some (.int .i64 yt) ∧ w'.cell? ⟨h4, 3, none⟩ = some (.bool yc)) 8 (by kernel_rfl) (HKS.out _ BE0.out) ?_
      obtain ⟨w100, hw100⟩ : ∃ w100, w100 = w5.drew := ⟨_, rfl⟩
      have BE100 := hide (show Below w5.heap.size w5 w100 by rw [hw100]; exact BE0.out)
      rw [← hw100]
      have hSd := HKS.out w100 BE100.out
      clear hw100
      refine tilM 0 (Or.inr hSd) ?_
      refine tilM 2 (Or.inr hSd) ?_
      refine tilM 3 (Or.inr hSd) ?_
      refine tilM 4 (Or.inr hSd) ?_
      refine tilD 1 [8, 7, 6] hSd ?_
      refine tilD 5 [8, 7, 6] hSd ?_
      refine tilM 6 (Or.inr hSd) ?_
      refine wpTil_ready (rs := [7]) (by kernel_rfl) (by simp) ?_
      refine AllTil.cons rfl (fun K hK => ?_) ?_
      · skip
        rw [if_pos (by rfl)]
        go_simp
        obtain ⟨w101, hw101⟩ := letr (w100.alloc (.cells #[.int .i64 yv, .int .i64 yf, .int .i64 yt, .bool yc, .int .i64 xk, .int .i64 xn] 53))
        obtain ⟨Hb, hHb⟩ := letl w100.heap.size
        have BXb := lBox hw101 hHb
        have BE101 := hide (show Below w5.heap.size w5 w101 by rw [hw101]; exact BE100.out.alloc BE100.out.size _)
        rw [← hw101, hHb]
        clear hw101 hHb
        refine hK.out _ _ (HKS.out w101 BE101.out) ?_
        clear hK K
        try clear hSd
        have hSd := HKS.out w101 BE101.out
        try simp only [tilS, Act.put]
        refine wpTil_ready (rs := [8]) (by kernel_rfl) (by simp) ?_
        refine AllTil.last rfl (by rfl) (fun K hK => ?_)
        refine step_append_cn (c := homeC) (sz := 6) w101 (by rfl) _ _ _ (by rfl) w.heap.size i0 _ 48 Try.underlying49 HI.out iz0 iz1 iz2 rfl (by omega) (by omega) (.slice A5 nl c5) L nl HNL.out (by rfl) (HO5.out.below BE101.out) (⟨yv, yf, yt, yc⟩, ⟨xk, xn⟩) rfl (homeC_one _) Hb #[.int .i64 yv, .int .i64 yf, .int .i64 yt, .bool yc, .int .i64 xk, .int .i64 xn] BXb.out rfl (by rfl) hnl2 (Nat.le_trans HC5.out.size BE101.out.size) ?_
        intro g6 k6 w102 ho6 hg6 hv6 hl6
        have HO6 := hide (show OwC homeC 53 6 w102 w.heap.size (.slice (some ⟨g6, 0, none⟩) (nl + 1) k6) (L ++ [(⟨yv, yf, yt, yc⟩, ⟨xk, xn⟩)]) from ho6)
        have HB6 := hide ((HC5.out.trans (BE101.out.mono HC5.out.size)).grown hg6 (Nat.le_trans HC5.out.size BE101.out.size) (fun z hz => (HO5.out.lt z hz).1))
        clear ho6 hg6 hv6 hl6
        refine hK.out _ _ ?_
        clear hK K hSd
        try simp only [tilS, Act.put]
        refine tilM 9 (Or.inl (by rfl)) ?_
        refine wpTil_done (by kernel_rfl) ?_ _
        go_wp2
        go_roundw
        case rel => exact ⟨k + 1, by omega, by go_num, HB6.out, hide (by rw [HE.out]; exact HO6.out)⟩
        case measure => simp [intOf]; omega
      exact AllTil.nil
theorem clash_no {ss : List SpV} {ls : List LcV} (h : ∀ i, i < min ss.length ls.length → ∀ k, k < i → pairB ss ls i k = false) : clashB ss ls = false := by
  unfold clashB
  rw [List.any_eq_false]
  intro i hi
  rw [Bool.not_eq_true, List.any_eq_false]
  intro k hk
  rw [h i (List.mem_range.1 hi) k (List.mem_range.1 hk)]
  simp
end Go.Proofs.Ytojobajeffipdaa
