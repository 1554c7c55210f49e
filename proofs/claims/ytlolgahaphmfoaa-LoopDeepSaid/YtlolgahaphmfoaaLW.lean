/- The statement LoopDeep, walked: it answers true. Condition: no slice of the program is longer than any machine's memory. -/
import Derived.Test.YtlolgahaphmfoaaLU
set_option linter.unusedSimpArgs false
set_option linter.unusedVariables false
namespace Go.Proofs.Ytlolgahaphmfoaa
open Go.RowKit

theorem own_take {h : Int} {l : List Int} {k : Nat} {own : Bool} {y : Int} (hr : own = true ↔ h ∈ l.take k) (hy : l[k]? = some y) : ((own || (y == h)) = true ↔ h ∈ l.take (k + 1)) := by
  rw [take_snocI hy, List.mem_append, Bool.or_eq_true, hr]
  constructor
  · rintro (h1 | h1)
    · exact .inl h1
    · have : y = h := by simpa using h1
      exact .inr (by simp [this])
  · rintro (h1 | h1)
    · exact .inl h1
    · simp at h1; exact .inr (by simp [h1])
set_option maxHeartbeats 4000000 in
set_option maxRecDepth 100000 in
theorem deep7_law (vp : Value) (p : List FunV) (w : World) (hp : FunsV w (· < w.heap.size) vp p) (hsz : progSize p) :
    Calls Try.prog 6 #[.agg #[vp]] w fun e w' => e = .returned (.bool true) ∧ Below w.heap.size w w' := by
  have HKP := hide (fun (W : World) (hW : Below w.heap.size w W) => hp.keep (up hW (Nat.le_refl _)) (fun _ h => h))
  have HOUT := hide (fun (W : World) (hW : Below w.heap.size w W) => out7_any vp p W w.heap.size hW.size (hp.keep (up hW (Nat.le_refl _)) (fun _ h => h)) hsz)
  have HALLOK := hide (fun h => @flowOk_of p h)
  obtain ⟨A, c, rfl, hpc, hpm⟩ := hp.open'
  obtain ⟨lp, hlp⟩ : ∃ lp, p.length = lp := ⟨_, rfl⟩
  have HLP := hide hlp
  rw [hlp] at HKP HOUT hpc ⊢
  clear hp hsz hlp
  go_enter Try.func6, Try.ntmps6
  go_upto_region 1 with (fail)
  obtain ⟨w0, hw0⟩ : ∃ w0, w0 = w.alloc (.cells #[.slice A lp c] 24) := ⟨_, rfl⟩
  have HX0 := hide (show Box w0 w.heap.size #[.slice A lp c] 24 by rw [hw0]; exact Box.new w _ _)
  have HB0 := hide (show Below w.heap.size w w0 by rw [hw0]; exact alloc1 w _)
  rw [← hw0]
  clear hw0
  go_upto_region 3 with (go_at_call 8; refine (alive7_any w0).mono ?_; rintro e w1 ⟨rfl, hb1⟩; have HX1 := hide (HX0.out.below hb1); have HC1 := hide (HB0.out.trans (hb1.mono HB0.out.size)); clear hb1)
  have x1 := (HX1.out.cell 0 (v := .slice A lp c) rfl).1
  have l1 := HX1.out.lt
  go_upto_region 5 with (go_at_call 9; refine (HOUT.out w1 HC1.out).mono ?_; rintro e w2 ⟨b1, rfl, hs2, hb2⟩; have HB2 := hide (HC1.out.trans (hb2.mono HC1.out.size)); have HX2 := hide (HX1.out.below hb2); have HS2 := hide hs2; clear x1 hb2 hs2)
  all_goals try (go_ret; exact ⟨rfl, HB2.out⟩)
  have hb1f : b1 = false := by assumption
  subst hb1f
  have HOKS := hide (HALLOK.out (HS2.out.out rfl))
  clear HOUT HALLOK HS2 HC1 HX1 l1
  go_wp2
  go_loopw [3] (fun i wr => ∃ k : Nat, k ≤ lp ∧ i = .int .i64 k ∧ Below w2.heap.size w2 wr) (fun i _ => lp - (intOf i).toNat)
  case atStart => exact ⟨0, Nat.zero_le _, rfl, Below.refl _ _⟩
  case round =>
    obtain ⟨k, hk, rfl, hb'⟩ := hrel
    obtain ⟨wo, rfl⟩ : ∃ wo, wo = wr := ⟨_, rfl⟩
    have hszo := hb'.size
    have HBEL := hide (HB2.out.trans (hb'.mono HB2.out.size))
    have HXO := hide (HX2.out.below hb')
    have HBW := hide hb'
    have xp := (HXO.out.cell 0 (v := .slice A lp c) rfl).1
    have lxp := HXO.out.lt
    clear hb'
    by_cases hlt : k < lp
    case neg =>
      go_wp2
      go_ret
      exact ⟨rfl, HBEL.out⟩
    obtain ⟨f, hf⟩ : ∃ f, p[k]? = some f := ⟨_, List.getElem?_eq_getElem (by have := HLP.out; omega)⟩
    obtain ⟨b, o, Ak, ck, Ab, cb, As, cs, hA, hbb, ⟨e0, e1, e2, e3, e4⟩, hi⟩ := (HKP.out wo HBEL.out).get hf
    subst hA
    have hbs : b < wo.heap.size := by have := HBEL.out.size; omega
    obtain ⟨hok, hls1⟩ := HOKS.out f (List.mem_of_getElem? hf)
    have kI := fun (W : World) (hW : Below wo.heap.size wo W) => hi.keep (w := wo) (S := (· < w.heap.size)) (up hW HBEL.out.size) (fun _ h => h)
    obtain ⟨AL, hAL⟩ := AbvOf.ex HBEL.out.size hi hok hls1
    obtain ⟨ol, hol⟩ : ∃ o, OrderOf f o := by
      obtain ⟨o, ho, -⟩ := hAL
      exact ⟨o, ho⟩
    obtain ⟨pp, hpp⟩ : ∃ p : Int → Int → Bool, ∀ a b, p a b = true ↔ domQ AL a b := ⟨fun a b => @decide (domQ AL a b) (Classical.propDecidable _), fun a b => by simp⟩
    have hsW : ∀ W : World, Below wo.heap.size wo W → w.heap.size ≤ W.heap.size := fun W hW => by have := hW.size; have := HBEL.out.size; omega
    have hAL := hide hAL
    have hls40 := hok.1
    obtain ⟨hs, hhs⟩ := IsHeads.ex (backN f ol pp) f.blocks.length (fun u y hu => by obtain ⟨-, b, -, rfl, -, hb, -⟩ := back_nat hok hu; omega)
    obtain ⟨BB, hBB⟩ := IsBody.ex f (backN f ol pp)
    have HHD := hide (fun (W : World) (hW : Below wo.heap.size wo W) => lheads_any _ _ _ f ol hol AL hAL.out pp hpp hs hhs W w.heap.size (hsW W hW) (kI W hW) hok hls1)
    have HBD := hide (fun (W : World) (hW : Below wo.heap.size wo W) (h : Int) => lbody_any _ _ _ f ol hol AL hAL.out pp hpp h (BB h) (hBB h) W w.heap.size (hsW W hW) (kI W hW) hok hls1)
    have HDP := hide (fun (W : World) (hW : Below wo.heap.size wo W) => ldeep_any _ _ _ f ol hol AL hAL.out pp hpp BB hBB hs hhs W w.heap.size (hsW W hW) (kI W hW) hok hls1)
    have HIS := hide (fun (va vb : Value) (zs : List Int) (W : World) (B : Nat) (h1 : IntsV W (· < B) va zs) (h2 : IntsV W (· < B) vb zs) => (rints_any va vb zs zs W B h1 h2).mono (R' := fun e w' => e = .returned (.bool true) ∧ Below W.heap.size W w') (fun e w' ⟨q1, q, q2⟩ => ⟨by rw [q1]; simp, by rw [q2]; exact below_drewN (Below.refl _ _) q⟩))
    have HBN := hide (fun h (y : Int) (hy : y ∈ BB h) => (hBB h).nat hy)
    have HND := hide (fun h => (hBB h).nod)
    have HLB := hide (fun h => (show (BB h).length ≤ f.blocks.length from (hBB h).len))
    have hhl := heads_len hok hhs
    have HOWN := hide (fun h (hh : h ∈ hs) => head_own hok hhs hh (hBB h))
    obtain ⟨nh, hnh⟩ : ∃ n, hs.length = n := ⟨_, rfl⟩
    have HNH := hide hnh
    rw [hnh] at hhl HDP
    have HDR := hide (fun b => dpT_le hs BB nh 0 b)
    have hmake : ∀ W : World, (Instr.makeSlice 27 (.int .i64 (f.blocks.length : Int)) (.int .i64 (f.blocks.length : Int))).run Try.prog W = .ok (.slice (some ⟨W.heap.size, 0, none⟩) f.blocks.length f.blocks.length) (W.alloc (.cells (madeCells (Value.int .i64 0).cells (f.blocks.length * 1)) 3)) := fun W => mk_run 27 3 Try.underlying27 info_i64 (by omega) f.blocks.length (by omega) W
    obtain ⟨mc, hmc⟩ : ∃ mc, madeCells (Value.int .i64 0).cells (f.blocks.length * 1) = mc := ⟨_, rfl⟩
    rw [hmc] at hmake
    have HMC := hide (show mc = ((List.replicate f.blocks.length (0 : Int)).map (Value.int .i64)).toArray by rw [← hmc]; exact madeCells_int _)
    generalize f.kinds.length = lk, f.base.length = lb, f.blocks.length = ls, f.params = fp, f.result = fr at *
    have hki : (0 : Int) ≤ (k : Int) := by omega
    have hkl : (k : Int) < (lp : Int) := by omega
    clear hi hf kI hok hol hsW hnh hpp hhs hBB hmc hAL
    go_upto_region 9 with (fail)
    obtain ⟨w5, hw5⟩ : ∃ w5, w5 = wo.alloc (.cells #[.slice Ak lk ck, .slice Ab lb cb, .int .i64 fp, .int .i64 fr, .slice As ls cs] 30) := ⟨_, rfl⟩
    obtain ⟨h5, hh5⟩ : ∃ h5, wo.heap.size = h5 := ⟨_, rfl⟩
    have HX5 := hide (show Box w5 h5 #[.slice Ak lk ck, .slice Ab lb cb, .int .i64 fp, .int .i64 fr, .slice As ls cs] 30 by rw [hw5, ← hh5]; exact Box.new wo _ _)
    have HB5 := hide (show Below wo.heap.size wo w5 by rw [hw5]; exact alloc1 wo _)
    rw [← hw5, hh5]
    clear hw5 hh5 e0 e1 e2 e3 e4 hbs xp lxp
    have l5 := HX5.out.lt
    have hz5 := HB5.out.size
    have HK5 := hide (fun (W : World) (hW : Below w5.heap.size w5 W) => And.intro ((HX5.out.below hW).cell 0 (v := .slice Ak lk ck) rfl).1 (And.intro ((HX5.out.below hW).cell 1 (v := .slice Ab lb cb) rfl).1 (And.intro ((HX5.out.below hW).cell 2 (v := .int .i64 fp) rfl).1 (And.intro ((HX5.out.below hW).cell 3 (v := .int .i64 fr) rfl).1 ((HX5.out.below hW).cell 4 (v := .slice As ls cs) rfl).1))))
    have HUP := hide (fun (W : World) (hW : Below w5.heap.size w5 W) => HB5.out.trans (hW.mono HB5.out.size))
    obtain ⟨c0, c1, c2, c3, c4⟩ := HK5.out w5 (Below.refl _ _)
    go_upto_region 10 with (fail)
    obtain ⟨w6, hw6⟩ : ∃ w6, w6 = w5.alloc (.cells mc 3) := ⟨_, rfl⟩
    obtain ⟨g, hg⟩ : ∃ g, w5.heap.size = g := ⟨_, rfl⟩
    have HM6 := hide (show TnW w6 g ls (fun _ => 0) by rw [hw6, ← hg]; exact TnW.zero (Box.new w5 _ _) HMC.out)
    have HC6 := hide (show Below w5.heap.size w5 w6 by rw [hw6]; exact alloc1 w5 _)
    have hwg : wo.heap.size ≤ g := by rw [← hg]; exact hz5
    have hgh : h5 < g := by omega
    have hz6 : g < w6.heap.size ∧ w6.heap.size ≤ g + 1 := by rw [hw6, World.size_alloc, hg]; omega
    rw [← hw6, hg]
    clear hw6 hg hmake HMC c0 c1 c2 c3 c4
    obtain ⟨c0, c1, c2, c3, c4⟩ := HK5.out w6 HC6.out
    have l6 : h5 < w6.heap.size := by omega
    go_wp2_with (go_at_call 18; refine (HHD.out w6 (HUP.out w6 HC6.out)).mono ?_; rintro e w7 ⟨v7, rfl, ho7, hb7⟩; obtain ⟨A7, k7, hv7, hle7, hme7, hs7⟩ := ho7.sl; rw [HNH.out] at hv7 hle7; have HS7 := hide hs7; have HB7 := hide hb7; have HA7 := hide (show ∀ b o', A7 = some ⟨b, o', none⟩ → b ≠ g from fun b o' e => (by have h1 := (World.ownsRow.lt ho7 b (by rw [hv7, e]; rfl)).1; omega)); subst hv7; clear hb7 ho7 hs7)
    clear c0 c1 c2 c3 c4 l6
    have hz7 := HB7.out.size
    have HC7 := hide (HC6.out.trans (HB7.out.mono HC6.out.size))
    have HX7 := hide (HX5.out.below HC7.out)
    have HD0 := hide (show DpL w7 g ls hs BB 0 0 w7 from ⟨by rw [dpT_zero]; exact HM6.out.below HB7.out, But.refl _ _⟩)
    have HKB := hide (fun (wr : World) (hb : But g w7 wr) => (show Below wo.heap.size wo wr from hb.below (HUP.out w7 HC7.out) hwg (by omega)))
    have hgl7 : g < w7.heap.size := by omega
    go_loopw [7] (fun i wr => ∃ m : Nat, m ≤ nh ∧ i = .int .i64 (m : Int) ∧ Hid (DpL w7 g ls hs BB m 0 wr)) (fun i _ => nh - (intOf i).toNat)
    case atStart => exact ⟨0, Nat.zero_le _, rfl, HD0⟩
    case round =>
      obtain ⟨m, hm, rfl, hin⟩ := hrel
      obtain ⟨wi, rfl⟩ : ∃ wi, wi = wr := ⟨_, rfl⟩
      have HD := hide hin.out
      have hbut := hin.out.2
      have HBU := hide hbut
      have hzi := hbut.size
      have HXI := hide (hbut.box HX7.out (by omega))
      have HBI := hide (HKB.out wi hbut)
      clear hin hbut
      have li := HXI.out.lt
      have c0 := (HXI.out.cell 0 (v := .slice Ak lk ck) rfl).1
      have c1 := (HXI.out.cell 1 (v := .slice Ab lb cb) rfl).1
      have c2 := (HXI.out.cell 2 (v := .int .i64 fp) rfl).1
      have c3 := (HXI.out.cell 3 (v := .int .i64 fr) rfl).1
      have c4 := (HXI.out.cell 4 (v := .slice As ls cs) rfl).1
      by_cases hlm : m < nh
      case neg =>
        have hmn : m = nh := by omega
        have HF := hide (show TnW wi g ls (dpT hs BB nh 0) by rw [← hmn]; exact HD.out.1)
        clear hmn
        have hlsz : ls ≤ 1000 := by omega
        have HDR2 := hide (fun b => Nat.le_trans (HDR.out b) (show nh + 1 ≤ 1000000 by omega))
        go_wp2_with (first
          | (go_at_call 17; refine (HIS.out _ _ _ w8 w8.heap.size HV8.out HV9.out).mono ?_; rintro e w9 ⟨rfl, hb9⟩; have HC9 := hide (HC8.out.trans (hb9.mono HC8.out.size)); clear hb9)
          | (go_at_call 22; refine (HDP.out wi HBI.out).mono ?_; rintro e w8 ⟨g8, rfl, hd8, -, hb8⟩; have HC8 := hide (HBI.out.trans (hb8.mono HBI.out.size)); have HV8 := hide (hd8.ints hlsz HDR2.out); have HV9 := hide ((HF.out.below hb8).ints hlsz HDR2.out); have lg8 : g < w8.heap.size := Box.lt (HF.out.below hb8); clear hb8 hd8))
        go_roundw
        case rel => exact ⟨k + 1, by omega, by go_num, HBW.out.trans (HC9.out.mono hszo)⟩
        case measure => simp [intOf]; omega
      obtain ⟨h, hh⟩ : ∃ h, hs[m]? = some h := ⟨_, List.getElem?_eq_getElem (by have := HNH.out; omega)⟩
      obtain ⟨be, oe, rfl, hbe, hcc⟩ := (HBU.out.sl HS7.out (Nat.le_refl _) HA7.out) (by have := HNH.out; omega)
      have d1 := hcc m (by have := HNH.out; omega)
      rw [show hs.getD m 0 = h by simp [List.getD, hh]] at d1
      have hbs : be < wi.heap.size := by omega
      have hm1 : (0 : Int) ≤ (m : Int) := by omega
      have hm2 : (m : Int) < (nh : Int) := by omega
      have HH := hide hh
      have HOW := hide (HOWN.out h (List.mem_of_getElem? hh))
      have HBC := hide (fun (W : World) (hW : Below wi.heap.size wi W) => HBD.out W (HBI.out.trans (hW.mono HBI.out.size)) h)
      obtain ⟨bl, hbl⟩ : ∃ bl, BB h = bl := ⟨_, rfl⟩
      rw [hbl] at HBC HOW
      have HBL := hide hbl
      have HNB := hide (show ∀ y ∈ bl, ∃ x : Nat, y = x ∧ x < ls by rw [← hbl]; exact HBN.out h)
      have HNO := hide (show bl.Nodup by rw [← hbl]; exact HND.out h)
      obtain ⟨nb, hnb⟩ : ∃ n, bl.length = n := ⟨_, rfl⟩
      have HNBL := hide hnb
      have hnb40 : nb ≤ ls := by rw [← hnb, ← hbl]; exact HLB.out h
      have HK := hide (fun (W : World) (hW : Below wi.heap.size wi W) => And.intro ((HXI.out.below hW).cell 0 (v := .slice Ak lk ck) rfl).1 (And.intro ((HXI.out.below hW).cell 1 (v := .slice Ab lb cb) rfl).1 (And.intro ((HXI.out.below hW).cell 2 (v := .int .i64 fp) rfl).1 (And.intro ((HXI.out.below hW).cell 3 (v := .int .i64 fr) rfl).1 (And.intro ((HXI.out.below hW).cell 4 (v := .slice As ls cs) rfl).1 ((hW.cell (p := ⟨be, oe + m, none⟩) hbs).trans d1))))))
      clear hcc hh hbe hbl hnb
      go_upto_region 15 with (fail)
      go_region_held3 (fun w' => w'.cell? ⟨h5, 0, none⟩ = some (.slice Ak lk ck) ∧ w'.cell? ⟨h5, 1, none⟩ = some (.slice Ab lb cb) ∧ w'.cell? ⟨h5, 2, none⟩ = some (.int .i64 fp) ∧ w'.cell? ⟨h5, 3, none⟩ = some (.int .i64 fr) ∧ w'.cell? ⟨h5, 4, none⟩ = some (.slice As ls cs) ∧ w'.cell? ⟨be, oe + m, none⟩ = some (.int .i64 h)) (first | go_keep | (exact q8))
        (first | (go_at_call 20; refine (HBC.out _ (below_drewN (Below.refl _ _) 1)).mono ?_; rintro e w8 ⟨v8, rfl, ho8, hb8⟩; obtain ⟨A8, k8, hv8, hle8, hme8, hs8⟩ := ho8.sl; rw [HNBL.out] at hv8 hle8; have hc8 : Below wi.heap.size wi w8 := ⟨hb8.os, hb8.tape, hb8.output, hb8.size, hb8.block⟩; have q8 := HK.out w8 hc8; have HS8 := hide hs8; have HC8 := hide hc8; have HA8 := hide (show ∀ b o', A8 = some ⟨b, o', none⟩ → b ≠ g from fun b o' e => (by have h1 := (World.ownsRow.lt ho8 b (by rw [hv8, e]; rfl)).1; have h2 : wi.heap.size ≤ b := h1; omega)); have hz8 := hc8.size; subst hv8; clear hb8 ho8 hs8 hc8))
      all_goals
        clear c0 c1 c2 c3 c4 li
        have HD8 := hide (show DpL w8 g ls hs BB m 0 w8 from ⟨HD.out.1.below HC8.out, But.refl _ _⟩)
        have HB78 := hide (HBU.out.trans (But.of_below (g := g) HC8.out))
        have d8 := q8.2.2.2.2.2
        have HDD := hide d8
        have hbs8 : be < w8.heap.size := by omega
        have HNE := hide (HA7.out be oe rfl)
        clear q8 d8
        go_wp2
        go_loopw [8, 10] (fun x i wr => ∃ (own : Bool) (j : Nat), x = .bool own ∧ j ≤ nb ∧ i = .int .i64 (j : Int) ∧ Hid (DpL w8 g ls hs BB m j wr) ∧ Hid (own = true ↔ h ∈ bl.take j)) (fun _ i _ => nb - (intOf i).toNat)
        case atStart => exact ⟨false, 0, rfl, Nat.zero_le _, rfl, HD8, hide (by simp)⟩
        case round =>
          obtain ⟨own, j, rfl, hj, rfl, hin, hown⟩ := hrel
          obtain ⟨wj, rfl⟩ : ∃ wj, wj = wr := ⟨_, rfl⟩
          have HKJ := hide hin.out
          have hzj := hin.out.2.size
          have hbj := hin.out.2
          have HBJ := hide hbj
          clear hin hbj
          by_cases hlj : j < nb
          case neg =>
            have HN := hide (show DpL w7 g ls hs BB (m + 1) 0 wj from ⟨by rw [← dpT_row HH.out (by rw [HBL.out, HNBL.out]; omega : (BB h).length ≤ j)]; exact HKJ.out.1, HB78.out.trans HKJ.out.2⟩)
            have ho : own = true := hown.out.2 (by rw [List.take_of_length_le (by have := HNBL.out; omega)]; exact HOW.out)
            subst ho
            go_wp2
            go_roundw
            case rel => exact ⟨m + 1, by omega, by go_num, HN⟩
            case measure => simp [intOf]; omega
          obtain ⟨y, hy⟩ : ∃ y, bl[j]? = some y := ⟨_, List.getElem?_eq_getElem (by have := HNBL.out; omega)⟩
          obtain ⟨x, rfl, hxl⟩ := HNB.out y (List.mem_of_getElem? hy)
          obtain ⟨b8, o8, rfl, hb8, hc8⟩ := (HKJ.out.2.sl HS8.out (Nat.le_refl _) HA8.out) (by have := HNBL.out; omega)
          have cj := hc8 j (by have := HNBL.out; omega)
          rw [show bl.getD j 0 = (x : Int) by simp [List.getD, hy]] at cj
          have hb8s : b8 < wj.heap.size := by omega
          have hbms : g < wj.heap.size := Box.lt HKJ.out.1
          obtain ⟨t1, t2⟩ := HKJ.out.1.cell hxl
          have s1 := dpT_step (h := h) (B := BB) (j := j) (x := x) (by rw [HBL.out]; exact HNO.out) HH.out (by rw [HBL.out]; exact hy)
          have hcn := dpT_le hs BB m j x
          obtain ⟨cn, hcn'⟩ : ∃ c, dpT hs BB m j x = c := ⟨_, rfl⟩
          rw [hcn'] at t1 s1 hcn
          have HST := hide (show DpL w8 g ls hs BB m (j + 1) (wj.setCell ⟨g, x, none⟩ (.int .i64 ((cn : Int) + 1))) from ⟨by rw [← s1]; exact HKJ.out.1.set (v := cn + 1), HKJ.out.2.set⟩)
          have HOT := hide (own_take hown.out hy)
          have e1 : IntKind.i64.wrap ((cn : Int) + 1) = (cn : Int) + 1 := IntWalk.i64_in _ ⟨by omega, by omega⟩
          have q3 : (0 : Int) ≤ (x : Int) := by omega
          have q4 : (x : Int) < (ls : Int) := by omega
          have hb8g := HA8.out b8 o8 rfl
          have r1 := (World.cell?_of_block (a := ⟨be, oe + m, none⟩) (HBJ.out.block be hbs8 HNE.out)).trans HDD.out
          have hbsj : be < wj.heap.size := by omega
          have j1 : (0 : Int) ≤ (j : Int) := by omega
          have j2 : (j : Int) < (nb : Int) := by omega
          have HNE2 := hide hb8g
          clear hc8 hy s1 hcn' hb8 hb8g
          go_upto_region 20 with (fail)
          obtain ⟨wk, hwk⟩ : ∃ wk, wk = wj.setCell ⟨g, x, none⟩ (.int .i64 ((cn : Int) + 1)) := ⟨_, rfl⟩
          have u1 : wk.cell? ⟨b8, o8 + j, none⟩ = some (.int .i64 (x : Int)) := by rw [hwk]; exact (World.cell?_of_block (a := ⟨b8, o8 + j, none⟩) (heap_setCell_other wj ⟨g, x, none⟩ b8 _ HNE2.out)).trans cj
          have u2 : wk.cell? ⟨be, oe + m, none⟩ = some (.int .i64 h) := by rw [hwk]; exact (World.cell?_of_block (a := ⟨be, oe + m, none⟩) (heap_setCell_other wj ⟨g, x, none⟩ be _ HNE.out)).trans r1
          have u3 : b8 < wk.heap.size := by rw [hwk, World.size_setCell]; exact hb8s
          have u4 : be < wk.heap.size := by rw [hwk, World.size_setCell]; exact hbsj
          rw [← hwk] at HST ⊢
          clear hwk cj t1 t2 r1
          cases own with
          | true =>
            go_quiet (fail)
            go_wp2
            go_roundw
            case rel => exact ⟨true, j + 1, rfl, by omega, by go_num, hide ⟨HST.out.1, ⟨HST.out.2.os, HST.out.2.tape, HST.out.2.output, HST.out.2.size, HST.out.2.block⟩⟩, hide (by have h := HOT.out; simpa using h)⟩
            case measure => simp [intOf]; omega
          | false =>
            obtain ⟨q, hq⟩ : ∃ q, ((x : Int) == h) = q := ⟨_, rfl⟩
            have HQ := hide hq
            rw [hq] at HOT
            cases q
            all_goals
              go_quiet (fail)
              go_wp2
              go_roundw
              case rel => exact ⟨_, j + 1, rfl, by omega, by go_num, hide ⟨HST.out.1, ⟨HST.out.2.os, HST.out.2.tape, HST.out.2.output, HST.out.2.size, HST.out.2.block⟩⟩, hide (by have h := HOT.out; simpa using h)⟩
              case measure => simp [intOf]; omega
end Go.Proofs.Ytlolgahaphmfoaa
