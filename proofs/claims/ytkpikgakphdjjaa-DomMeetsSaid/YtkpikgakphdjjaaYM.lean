/- The statement DomKids, walked: it answers true. Condition: no slice of the program is longer than any machine's memory. -/
import Derived.Test.YtkpikgakphdjjaaYQ
set_option linter.unusedSimpArgs false
set_option linter.unusedVariables false
namespace Go.Proofs.Ytkpikgakphdjjaa
open Go.RowKit

theorem kids_mem {A : List Int} {b : Int} {n : Nat} {y : Int} : y ∈ kidsTo A b n ↔ ∃ x : Nat, y = x ∧ x < n ∧ A.getD x (-1) = b := by
  unfold kidsTo
  simp only [List.mem_map, List.mem_filter, List.mem_range, beq_iff_eq]
  constructor
  · rintro ⟨x, ⟨h1, h2⟩, rfl⟩; exact ⟨x, rfl, h1, h2⟩
  · rintro ⟨x, rfl, h1, h2⟩; exact ⟨x, ⟨h1, h2⟩, rfl⟩
theorem kids_nodup (A : List Int) (b : Int) (n : Nat) : (kidsTo A b n).Nodup := by
  unfold kidsTo
  unfold List.Nodup
  rw [List.pairwise_map]
  exact (List.Pairwise.filter _ List.nodup_range).imp fun h e => h (by omega)
/-- How often x was counted. -/
def cvF (A : List Int) (n b k x : Nat) : Nat := if (0 ≤ A.getD x (-1) ∧ A.getD x (-1) < b) ∨ (x : Int) ∈ (kidsTo A b n).take k then 1 else 0
theorem cv_zero (A : List Int) (n : Nat) : cvF A n 0 0 = fun _ => 0 := by
  funext x
  unfold cvF
  rw [if_neg]
  rintro (h | h)
  · omega
  · simp at h
theorem cv_step {A : List Int} {n b k x : Nat} (h : (kidsTo A b n)[k]? = some (x : Int)) : cvF A n b k x = 0 ∧ (fun z => if z = x then 1 else cvF A n b k z) = cvF A n b (k + 1) := by
  have hn := nodup_take (kids_nodup A b n) h
  obtain ⟨x', e, hx, ha⟩ := kids_mem.1 (List.mem_of_getElem? h)
  obtain rfl : x = x' := by omega
  constructor
  · unfold cvF
    rw [if_neg]
    rintro (h1 | h1)
    · omega
    · exact hn h1
  · funext z
    unfold cvF
    rw [take_snocI h]
    simp only [List.mem_append]
    by_cases e : z = x
    · subst e; simp
    · have : ¬ (z : Int) ∈ [(x : Int)] := by simp; omega
      simp [this, e]
theorem cv_row {A : List Int} {n b k : Nat} (hn : A.length = n) (h : (kidsTo A b n).length ≤ k) : cvF A n b k = cvF A n (b + 1) 0 := by
  funext z
  unfold cvF
  rw [List.take_of_length_le h, List.take_zero]
  have e : (0 ≤ A.getD z (-1) ∧ A.getD z (-1) < (b : Int)) ∨ (z : Int) ∈ kidsTo A b n ↔ (0 ≤ A.getD z (-1) ∧ A.getD z (-1) < ((b + 1 : Nat) : Int)) ∨ (z : Int) ∈ ([] : List Int) := by
    rw [kids_mem]
    constructor
    · rintro (h1 | ⟨x, e, h2, h3⟩)
      · left; omega
      · obtain rfl : z = x := by omega
        left; omega
    · rintro (h1 | h1)
      · by_cases h2 : A.getD z (-1) = b
        · refine .inr ⟨z, rfl, ?_, h2⟩
          rcases Nat.lt_or_ge z n with h4 | h4
          · exact h4
          · rw [List.getD_eq_getElem?_getD, List.getElem?_eq_none (by omega)] at h2
            first | (simp at h2; done) | (simp at h2; omega)
        · left; omega
      · simp at h1
  simp only [e]
theorem kidsL_eq {f : FunV} {A : List Int} (h : AbvOf f A) (h1 : 1 ≤ f.blocks.length) (b : Nat) : kidsL A (b : Int) = kidsTo A (b : Int) A.length := by
  unfold kidsL
  by_cases hb : hasA A (b : Int) = true
  · rw [if_pos hb]
  · rw [if_neg hb]
    symm
    apply List.eq_nil_iff_forall_not_mem.2
    intro y hy
    obtain ⟨x, rfl, hx, ha⟩ := kids_mem.1 hy
    have hI : inA A x := .inr (by omega)
    have h0 : x ≠ 0 := fun e => by subst e; rw [h.zero] at ha; omega
    obtain ⟨tn, ht⟩ := h.tr
    have hu := (ht.lt x hI h0).1
    have : upA A x = b := by unfold upA; rw [ha]; simp
    rw [this] at hu
    exact hb ((hasA_iff (by rw [h.len]; exact h1) (by omega)).2 (by simpa using hu))
theorem cv_end {f : FunV} {A : List Int} {n : Nat} (h : AbvOf f A) (h1 : 1 ≤ f.blocks.length) (hn : A.length = n) (x : Nat) : (0 < x ∧ domQ A x x → cvF A n n 0 x = 1) ∧ (¬ (0 < x ∧ domQ A x x) → cvF A n n 0 x = 0) := by
  have hl1 : 1 ≤ A.length := by rw [h.len]; exact h1
  unfold cvF
  rw [List.take_zero]
  constructor
  · rintro ⟨h0, hd, -, -⟩
    have hI : inA A x := by simpa using (hasA_iff hl1 (by omega)).1 hd
    obtain ⟨tn, ht⟩ := h.tr
    have hu := (ht.lt x hI (by omega)).1
    have h2 := h.lt h1 _ hu
    have h3 := h.neg x hI (by omega)
    rw [if_pos]
    left; omega
  · intro hno
    rw [if_neg]
    rintro (⟨h2, h3⟩ | h2)
    · have h0 : x ≠ 0 := fun e => by subst e; rw [h.zero] at h2; omega
      have hI : inA A x := .inr (by omega)
      have hh := (hasA_iff (z := (x : Int)) hl1 (by omega)).2 (by simpa using hI)
      exact hno ⟨by omega, hh, hh, .refl⟩
    · simp at h2
def KdL (w6 : World) (g n : Nat) (A : List Int) (b k : Nat) (wr : World) : Prop := TnW wr g n (cvF A n b k) ∧ But g w6 wr
set_option maxHeartbeats 4000000 in
set_option maxRecDepth 100000 in
theorem kids_law (vp : Value) (p : List FunV) (w : World) (hp : FunsV w (· < w.heap.size) vp p) (hsz : progSize p) :
    Calls Try.prog 8 #[.agg #[vp]] w fun e w' => e = .returned (.bool true) ∧ Below w.heap.size w w' := by
  have HKP := hide (fun (W : World) (hW : Below w.heap.size w W) => hp.keep (up hW (Nat.le_refl _)) (fun _ h => h))
  have HOUT := hide (fun (W : World) (hW : Below w.heap.size w W) => out6_any vp p W w.heap.size hW.size (hp.keep (up hW (Nat.le_refl _)) (fun _ h => h)) hsz)
  have HALLOK := hide (fun h => @flowOk_of p h)
  obtain ⟨A, c, rfl, hpc, hpm⟩ := hp.open'
  obtain ⟨lp, hlp⟩ : ∃ lp, p.length = lp := ⟨_, rfl⟩
  have HLP := hide hlp
  rw [hlp] at HKP HOUT hpc ⊢
  clear hp hsz hlp
  go_enter Try.func8, Try.ntmps8
  go_upto_region 1 with (fail)
  obtain ⟨w0, hw0⟩ : ∃ w0, w0 = w.alloc (.cells #[.slice A lp c] 24) := ⟨_, rfl⟩
  have HX0 := hide (show Box w0 w.heap.size #[.slice A lp c] 24 by rw [hw0]; exact Box.new w _ _)
  have HB0 := hide (show Below w.heap.size w w0 by rw [hw0]; exact alloc1 w _)
  rw [← hw0]
  clear hw0
  go_upto_region 3 with (go_at_call 16; refine (alive6_any w0).mono ?_; rintro e w1 ⟨rfl, hb1⟩; have HX1 := hide (HX0.out.below hb1); have HC1 := hide (HB0.out.trans (hb1.mono HB0.out.size)); clear hb1)
  have x1 := (HX1.out.cell 0 (v := .slice A lp c) rfl).1
  have l1 := HX1.out.lt
  go_upto_region 5 with (go_at_call 17; refine (HOUT.out w1 HC1.out).mono ?_; rintro e w2 ⟨b1, rfl, hs2, hb2⟩; have HB2 := hide (HC1.out.trans (hb2.mono HC1.out.size)); have HX2 := hide (HX1.out.below hb2); have HS2 := hide hs2; clear x1 hb2 hs2)
  all_goals try (go_ret; exact ⟨rfl, HB2.out⟩)
  have hb1f : b1 = false := by assumption
  subst hb1f
  have HOKS := hide (HALLOK.out (HS2.out.out rfl))
  clear HOUT HALLOK HS2 HC1 HX1 l1
  go_wp2
  go_loopw [3] (fun i wr => ∃ k : Nat, k ≤ lp ∧ i = .int .i64 k ∧ Below w2.heap.size w2 wr) (fun i _ => lp - (intOf i).toNat)
  case atStart => exact ⟨0, Nat.zero_le _, rfl, Below.refl _ _⟩
  case round =>
    obtain ⟨k, hk, rfl, hb'⟩ := hrel
    obtain ⟨wo, rfl⟩ : ∃ wo, wo = wr := ⟨_, rfl⟩
    have hszo := hb'.size
    have HBEL := hide (HB2.out.trans (hb'.mono HB2.out.size))
    have HXO := hide (HX2.out.below hb')
    have HBW := hide hb'
    have xp := (HXO.out.cell 0 (v := .slice A lp c) rfl).1
    have lxp := HXO.out.lt
    clear hb'
    by_cases hlt : k < lp
    case neg =>
      go_wp2
      go_ret
      exact ⟨rfl, HBEL.out⟩
    obtain ⟨f, hf⟩ : ∃ f, p[k]? = some f := ⟨_, List.getElem?_eq_getElem (by have := HLP.out; omega)⟩
    obtain ⟨b, o, Ak, ck, Ab, cb, As, cs, hA, hbb, ⟨e0, e1, e2, e3, e4⟩, hi⟩ := (HKP.out wo HBEL.out).get hf
    subst hA
    have hbs : b < wo.heap.size := by have := HBEL.out.size; omega
    obtain ⟨hok, hls1⟩ := HOKS.out f (List.mem_of_getElem? hf)
    have kI := fun (W : World) (hW : Below wo.heap.size wo W) => hi.keep (w := wo) (S := (· < w.heap.size)) (up hW HBEL.out.size) (fun _ h => h)
    obtain ⟨AL, hAL⟩ := AbvOf.ex HBEL.out.size hi hok hls1
    have HAL := hide hAL
    have HALL := hide hAL.len
    have HALT := hide (fun b hb => hAL.lt hls1 b hb)
    have hls40 := hok.1
    have HDX := hide (fun (W : World) (hW : Below wo.heap.size wo W) (x y : Int) => ddom_any _ _ _ f AL hAL x y W w.heap.size (by have := hW.size; have := HBEL.out.size; omega) (kI W hW) hok hls1)
    have HKX := hide (fun (W : World) (hW : Below wo.heap.size wo W) (x : Int) => dkids_any _ _ _ f AL hAL x W w.heap.size (by have := hW.size; have := HBEL.out.size; omega) (kI W hW) hok hls1)
    have hmake : ∀ W : World, (Instr.makeSlice 27 (.int .i64 (f.blocks.length : Int)) (.int .i64 (f.blocks.length : Int))).run Try.prog W = .ok (.slice (some ⟨W.heap.size, 0, none⟩) f.blocks.length f.blocks.length) (W.alloc (.cells (madeCells (Value.int .i64 0).cells (f.blocks.length * 1)) 3)) := fun W => mk_run 27 3 Try.underlying27 info_i64 (by omega) f.blocks.length (by omega) W
    obtain ⟨mc, hmc⟩ : ∃ mc, madeCells (Value.int .i64 0).cells (f.blocks.length * 1) = mc := ⟨_, rfl⟩
    rw [hmc] at hmake
    have HMC := hide (show mc = ((List.replicate f.blocks.length (0 : Int)).map (Value.int .i64)).toArray by rw [← hmc]; exact madeCells_int _)
    have HKE := hide (fun b : Nat => (show kidsL AL (b : Int) = kidsTo AL b f.blocks.length by rw [kidsL_eq hAL hls1, hAL.len]))
    have HCE := hide (fun x : Nat => cv_end hAL hls1 hAL.len x)
    have HZ0 := hide hAL.zero
    have HALL2 := hide hAL.len
    generalize f.kinds.length = lk, f.base.length = lb, f.blocks.length = ls, f.params = fp, f.result = fr at *
    have hki : (0 : Int) ≤ (k : Int) := by omega
    have hkl : (k : Int) < (lp : Int) := by omega
    clear hi hf kI hok hmc hAL
    go_upto_region 9 with (fail)
    obtain ⟨w5, hw5⟩ : ∃ w5, w5 = wo.alloc (.cells #[.slice Ak lk ck, .slice Ab lb cb, .int .i64 fp, .int .i64 fr, .slice As ls cs] 30) := ⟨_, rfl⟩
    obtain ⟨h5, hh5⟩ : ∃ h5, wo.heap.size = h5 := ⟨_, rfl⟩
    have HX5 := hide (show Box w5 h5 #[.slice Ak lk ck, .slice Ab lb cb, .int .i64 fp, .int .i64 fr, .slice As ls cs] 30 by rw [hw5, ← hh5]; exact Box.new wo _ _)
    have HB5 := hide (show Below wo.heap.size wo w5 by rw [hw5]; exact alloc1 wo _)
    rw [← hw5, hh5]
    clear hw5 hh5 e0 e1 e2 e3 e4 hbs xp lxp
    have l5 := HX5.out.lt
    have c4 := (HX5.out.cell 4 (v := .slice As ls cs) rfl).1
    go_upto_region 10 with (fail)
    obtain ⟨w6, hw6⟩ : ∃ w6, w6 = w5.alloc (.cells mc 3) := ⟨_, rfl⟩
    obtain ⟨bm, hbm⟩ : ∃ bm, w5.heap.size = bm := ⟨_, rfl⟩
    have HM6 := hide (show KdL w6 bm ls AL 0 0 w6 from ⟨by rw [cv_zero, hw6, ← hbm]; exact TnW.zero (Box.new w5 _ _) HMC.out, But.refl _ _⟩)
    have HX6 := hide (show Box w6 h5 #[.slice Ak lk ck, .slice Ab lb cb, .int .i64 fp, .int .i64 fr, .slice As ls cs] 30 by rw [hw6]; exact HX5.out.alloc _)
    have HB6 := hide (show Below wo.heap.size wo w6 by rw [hw6]; exact HB5.out.alloc HB5.out.size _)
    have hs6 : w6.heap.size = bm + 1 := by rw [hw6, World.size_alloc, hbm]
    have hwbm : wo.heap.size ≤ bm := by rw [← hbm]; exact HB5.out.size
    have h5bm : h5 < bm := by omega
    have HS6 := hide hs6
    rw [← hw6, hbm]
    clear hw6 hbm c4 l5 hmake HMC hs6
    go_wp2
    go_loopw [6] (fun i wr => ∃ b : Nat, b ≤ ls ∧ i = .int .i64 b ∧ Hid (KdL w6 bm ls AL b 0 wr)) (fun i _ => ls - (intOf i).toNat)
    case atStart => exact ⟨0, Nat.zero_le _, rfl, HM6⟩
    case round =>
      obtain ⟨b, hb, rfl, hin⟩ := hrel
      obtain ⟨wi, rfl⟩ : ∃ wi, wi = wr := ⟨_, rfl⟩
      have HKD := hide hin.out
      have hbut := hin.out.2
      have HBUT := hide hbut
      have hzi := hbut.size
      have HXI := hide (hbut.box HX6.out (by omega))
      have HBI := hide (hbut.below HB6.out hwbm (by have := HB6.out.size; omega))
      have li := HXI.out.lt
      clear hin hbut
      have c0 := (HXI.out.cell 0 (v := .slice Ak lk ck) rfl).1
      have c1 := (HXI.out.cell 1 (v := .slice Ab lb cb) rfl).1
      have c2 := (HXI.out.cell 2 (v := .int .i64 fp) rfl).1
      have c3 := (HXI.out.cell 3 (v := .int .i64 fr) rfl).1
      have c4 := (HXI.out.cell 4 (v := .slice As ls cs) rfl).1
      by_cases hlb : b < ls
      · have HKC := hide (HKX.out wi HBI.out (b : Int))
        go_wp2_with (go_at_call 26; refine (HKC.out).mono ?_; rintro e w7 ⟨v7, rfl, ho7, hb7⟩; rw [HKE.out] at ho7; have HO7 := hide ho7; have HB7 := hide hb7; have hz7 := hb7.size; have HKD7 := hide (show TnW w7 bm ls (cvF AL ls b 0) from HKD.out.1.below hb7); have HX7 := hide (HXI.out.below hb7); clear ho7 hb7)
        obtain ⟨A7, k7, hv7, hle7, hme7, hs7⟩ := HO7.out.sl
        have HA7 := hide (show ∀ b o, A7 = some ⟨b, o, none⟩ → b ≠ bm from fun b o e => by
          have h1 := (World.ownsRow.lt HO7.out b (by rw [hv7, e]; rfl)).1
          have h2 := Box.lt HKD.out.1
          omega)
        have HS7 := hide hs7
        obtain ⟨nL, hnL⟩ : ∃ n, (kidsTo AL b ls).length = n := ⟨_, rfl⟩
        have HNL := hide hnL
        rw [hnL] at hv7 hle7
        have hnl40 : nL ≤ 40 := by have := kidsTo_len AL b ls; omega
        subst hv7
        clear hs7 hnL hme7 c0 c1 c2 c3 c4
        have HB67 := hide (HBUT.out.trans (But.of_below (g := bm) HB7.out))
        go_wp2
        go_loopw [8] (fun i wr => ∃ j : Nat, j ≤ nL ∧ i = .int .i64 j ∧ Hid (KdL w7 bm ls AL b j wr)) (fun i _ => nL - (intOf i).toNat)
        case atStart => exact ⟨0, Nat.zero_le _, rfl, hide ⟨HKD7.out, But.refl _ _⟩⟩
        case round =>
          obtain ⟨j, hj, rfl, hin⟩ := hrel
          obtain ⟨wj, rfl⟩ : ∃ wj, wj = wr := ⟨_, rfl⟩
          have HKJ := hide hin.out
          have hzj := hin.out.2.size
          clear hin
          by_cases hlj : j < nL
          · obtain ⟨y, hy⟩ : ∃ y, (kidsTo AL b ls)[j]? = some y := ⟨_, List.getElem?_eq_getElem (by have := HNL.out; omega)⟩
            obtain ⟨x, rfl, hxl, hxa⟩ := kids_mem.1 (List.mem_of_getElem? hy)
            have hx0 : x ≠ 0 := fun e => by subst e; rw [HZ0.out] at hxa; omega
            obtain ⟨b7, o7, rfl, hb7, hc7⟩ := (HKJ.out.2.sl HS7.out (Nat.le_refl _) HA7.out) (by have := HNL.out; omega)
            have cj := hc7 j (by have := HNL.out; omega)
            rw [List.getD_eq_getElem?_getD, hy] at cj
            simp only [Option.getD_some] at cj
            have hb7s : b7 < wj.heap.size := by omega
            have hbms : bm < wj.heap.size := Box.lt HKJ.out.1
            obtain ⟨s1, s2⟩ := cv_step hy
            obtain ⟨t1, t2⟩ := HKJ.out.1.cell hxl
            rw [s1] at t1
            have HST := hide (show KdL w7 bm ls AL b (j + 1) (wj.setCell ⟨bm, x, none⟩ (.int .i64 1)) from ⟨by rw [← s2]; exact HKJ.out.1.set (v := 1), HKJ.out.2.set⟩)
            have q1 : ¬ (x : Int) < 1 := by omega
            have q2 : ¬ ls ≤ x := by omega
            have q3 : (0 : Int) ≤ (x : Int) := by omega
            have q4 : (x : Int) < (ls : Int) := by omega
            have q5 : ¬ (ls : Int) ≤ (x : Int) := by omega
            have q6 : ¬ x < 1 := by omega
            have q7 : x < ls := by omega
            have q8 : ¬ x = 0 := hx0
            clear hc7 hy s1 s2 hxa hx0 hxl
            go_wp2
            go_roundw
            case rel => exact ⟨j + 1, by omega, by go_num, HST⟩
            case measure => simp [intOf]; omega
          · have HNX := hide (show KdL w6 bm ls AL (b + 1) 0 wj from ⟨by rw [← cv_row HALL2.out (by have := HNL.out; omega : (kidsTo AL b ls).length ≤ j)]; exact HKJ.out.1, HB67.out.trans HKJ.out.2⟩)
            go_wp2
            go_roundw
            case rel => exact ⟨b + 1, by omega, by go_num, HNX⟩
            case measure => simp [intOf]; omega
      have hbls : b = ls := by omega
      subst hbls
      clear c0 c1 c2 c3 c4
      have c4 := (HXI.out.cell 4 (v := .slice As b cs) rfl).1
      go_wp2
      go_loopw [9] (fun i wr => ∃ x : Nat, x ≤ b ∧ i = .int .i64 x ∧ Below wi.heap.size wi wr) (fun i _ => b - (intOf i).toNat)
      case atStart => exact ⟨0, Nat.zero_le _, rfl, Below.refl _ _⟩
      case round =>
        obtain ⟨x, hx, rfl, hbz⟩ := hrel
        obtain ⟨wz, rfl⟩ : ∃ wz, wz = wr := ⟨_, rfl⟩
        have hszz := hbz.size
        have HBZ := hide (HBI.out.trans (hbz.mono HBI.out.size))
        have HXZ := hide (HXI.out.below hbz)
        have HMZ := hide (show TnW wz bm b (cvF AL b b 0) from HKD.out.1.below hbz)
        have HBZI := hide hbz
        clear hbz c4
        by_cases hlx : x < b
        case neg =>
          have HEND := hide (HBW.out.trans (HBZ.out.mono hszo))
          go_wp2
          go_roundw
          case rel => exact ⟨k + 1, by omega, by go_num, HEND.out⟩
          case measure => simp [intOf]; omega
        have lz := HXZ.out.lt
        have c0 := (HXZ.out.cell 0 (v := .slice Ak lk ck) rfl).1
        have c1 := (HXZ.out.cell 1 (v := .slice Ab lb cb) rfl).1
        have c2 := (HXZ.out.cell 2 (v := .int .i64 fp) rfl).1
        have c3 := (HXZ.out.cell 3 (v := .int .i64 fr) rfl).1
        have c4 := (HXZ.out.cell 4 (v := .slice As b cs) rfl).1
        have lbm := Box.lt HMZ.out
        by_cases hx0 : x = 0
        · have hv := (HCE.out x).2 (fun h => by omega)
          have t1 := (HMZ.out.cell hlx).1
          rw [hv] at t1
          have q1 : ¬ 0 < x := by omega
          subst hx0
          have HEND := HBZI
          go_wp2
          go_roundw
          case rel => exact ⟨0 + 1, by omega, by go_num, HEND.out⟩
          case measure => simp [intOf]; omega
        have q1 : 0 < x := by omega
        by_cases hd : domQ AL x x
        · have hv := (HCE.out x).1 ⟨q1, hd⟩
          have HDC := hide ((HDX.out wz HBZ.out (x : Int) (x : Int)).mono (R' := fun e w' => e = .returned (.bool true) ∧ Below wz.heap.size wz w') (fun e w' ⟨d, h1, h2, h3⟩ => ⟨by rw [h1, h2.2 hd], h3⟩))
          have HV := hide hv
          clear hd hv
          go_wp2_with (go_at_call 18; refine (HDC.out).mono ?_; rintro e w8 ⟨rfl, hb8⟩; have t1 := ((HMZ.out.below hb8).cell hlx).1; rw [HV.out] at t1; have lb8 : bm < w8.heap.size := Box.lt (HMZ.out.below hb8); have HB8 := hide (HBZI.out.trans (hb8.mono hszz)); clear hb8)
          go_roundw
          case rel => exact ⟨x + 1, by omega, by go_num, HB8.out⟩
          case measure => simp [intOf]; omega
        · have hv := (HCE.out x).2 (fun h => hd h.2)
          have HDC := hide ((HDX.out wz HBZ.out (x : Int) (x : Int)).mono (R' := fun e w' => e = .returned (.bool false) ∧ Below wz.heap.size wz w') (fun e w' ⟨d, h1, h2, h3⟩ => ⟨by rw [h1, Bool.eq_false_iff.2 (fun h => hd (h2.1 h))], h3⟩))
          have HV := hide hv
          clear hd hv
          go_wp2_with (go_at_call 18; refine (HDC.out).mono ?_; rintro e w8 ⟨rfl, hb8⟩; have t1 := ((HMZ.out.below hb8).cell hlx).1; rw [HV.out] at t1; have lb8 : bm < w8.heap.size := Box.lt (HMZ.out.below hb8); have HB8 := hide (HBZI.out.trans (hb8.mono hszz)); clear hb8)
          go_roundw
          case rel => exact ⟨x + 1, by omega, by go_num, HB8.out⟩
          case measure => simp [intOf]; omega
end Go.Proofs.Ytkpikgakphdjjaa
