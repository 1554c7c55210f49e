/- Layer 7: Body and Deep: what the program answers. Condition: the function is one of a program that may be. -/
import Derived.Test.YtlolgahaphmfoaaLG
import Derived.Test.YtlolgahaphmfoaaLH
import Derived.Test.YtlolgahaphmfoaaLB
import Derived.BigQuiet
set_option linter.unusedSimpArgs false
set_option linter.unusedVariables false
namespace Go.Proofs.Ytlolgahaphmfoaa
open Go.RowKit

def BdW (w1 : World) (base ha hm gm n : Nat) (L : List Int) (wr : World) : Prop := MtS wr base ha hm gm n L ∧ Below base w1 wr
theorem BdS.len {f : FunV} {es : List (Int × Int)} {h : Int} {k : Nat} {L : List Int} (s : BdS f es h k L) (hn : f.blocks.length ≤ 40) : L.length ≤ 40 := Nat.le_trans (nodup_len s.nod s.rng) hn
theorem BdI.len {f : FunV} {es : List (Int × Int)} {pv : Nat → List Int} {h : Int} {k : Nat} {L : List Int} (s : BdI f es pv h k L) : L.length ≤ f.blocks.length := nodup_len s.nod s.rng
theorem MtS.start {w1 : World} {base ha hm gm n : Nat} {mc : Array Value} (hmc : mc = ((List.replicate n false).map Value.bool).toArray) (h1 : Box w1 hm #[.slice (some ⟨gm, 0, none⟩) n n] 39) (h2 : Box w1 gm mc 4) (h3 : Box w1 ha #[.slice none 0 0] 27) (ba : base ≤ ha) (bm : base ≤ hm) (bg : base ≤ gm) : MtS w1 base ha hm gm n [] := by
  subst hmc
  refine ⟨ba, bm, bg, h1, ?_, none, 0, h3, Ow.nil _ _ _ _⟩
  unfold MarkW
  rw [markOf_nil]
  exact h2
set_option maxHeartbeats 4000000 in
set_option maxRecDepth 100000 in
theorem lbodyM_any (f : FunV) (hok : FlowOk f) (h1 : 1 ≤ f.blocks.length) (es : List (Int × Int)) (pv : Nat → List Int) (h : Int) (BL : List Int) (hBL : IsBody f es h BL)
    (hes : ∀ (k : Nat) (e : Int × Int), es[k]? = some e → ∃ a b : Nat, e = ((a : Int), (b : Int)) ∧ a < f.blocks.length ∧ b < f.blocks.length ∧ Rch f a)
    (hpv : ∀ (y : Nat) (z : Int), z ∈ pv y → ∃ a : Nat, z = a ∧ a < f.blocks.length ∧ Rch f a ∧ (y : Int) ∈ nxt f a) (hpc : ∀ b z : Nat, Rch f z → (b : Int) ∈ nxt f z → (z : Int) ∈ pv b)
    (Ae : Option Addr) (ce gp : Nat) (w : World) (hne : es.length ≤ 80) (hs : EdgS w w.heap.size Ae es) (hle : es.length ≤ ce) (hlm : ce ≤ 9223372036854775807) (B0 : Nat) (hrw : RowsW w B0 gp f.blocks.length pv) :
    Calls Try.prog 41 #[.agg #[.slice Ae es.length ce, .slice (some ⟨gp, 0, none⟩) f.blocks.length f.blocks.length], .int .i64 h] w fun e w' => ∃ v, e = .returned v ∧ Ow w' w.heap.size 3 .i64 v BL ∧ Below w.heap.size w w' := by
  have hls40 := hok.1
  have hmake : ∀ W : World, (Instr.makeSlice 39 (.int .i64 (f.blocks.length : Int)) (.int .i64 (f.blocks.length : Int))).run Try.prog W = .ok (.slice (some ⟨W.heap.size, 0, none⟩) f.blocks.length f.blocks.length) (W.alloc (.cells (madeCells (Value.bool false).cells (f.blocks.length * 1)) 4)) := fun W => mk_run 39 4 Try.underlying39 info_bool (by omega) f.blocks.length (by omega) W
  obtain ⟨mc, hmc⟩ : ∃ mc, madeCells (Value.bool false).cells (f.blocks.length * 1) = mc := ⟨_, rfl⟩
  rw [hmc] at hmake
  have HMC := hide (show mc = ((List.replicate f.blocks.length false).map Value.bool).toArray by rw [← hmc]; exact madeCells_bool _)
  have HES := hide hes
  have HPV := hide hpv
  have HS := hide hs
  have HRW := hide hrw
  have HS0 := hide (BdS.zero f es h)
  have HSK := hide (fun k L e s he hne => @BdS.skip f es h k L e s he hne)
  have HSB := hide (fun (k a b : Nat) (L : List Int) (hb : h = (b : Int)) (s : BdS f es h k L) (he : es[k]? = some ((a : Int), (b : Int))) (ha : a < f.blocks.length) (hbn : b < f.blocks.length) (hR : Rch f a) => (show BdS f es h (k + 1) (metL (metL L h) (a : Int)) by subst hb; exact BdS.both s he ha hbn hR))
  have HST := hide (fun k L (s : BdS f es h k L) hk => (s.start (pv := pv) hk))
  have HLS := hide (fun k L (s : BdS f es h k L) => s.len hls40)
  have HLI := hide (fun k L (s : BdI f es pv h k L) => (show L.length ≤ f.blocks.length from s.len))
  have HMT := hide (fun i z L y (s : BdI f es pv h i L) hy hyh hz hR hn => @BdI.met f es pv h i z L y s hy hyh hz hR hn)
  have HNX := hide (fun i L y (s : BdI f es pv h i L) hy hall => @BdI.next f es pv h i L y s hy hall)
  have HDN := hide (fun i L (s : BdI f es pv h i L) (hi : L.length ≤ i) => (show sortL L = BL from (s.done hi hok h1 hpc).one hBL))
  obtain ⟨ls, hls⟩ : ∃ ls, f.blocks.length = ls := ⟨_, rfl⟩
  have HLN := hide hls
  rw [hls] at hmake HMC hls40 HES HPV HRW HSB HLI HMT ⊢
  obtain ⟨ne, hne'⟩ : ∃ n, es.length = n := ⟨_, rfl⟩
  have HNE := hide hne'
  rw [hne'] at hne hle ⊢
  clear hok h1 hBL hes hpv hpc hs hrw hmc hls hne'
  go_enter Try.func41, Try.ntmps41
  go_upto_region 2 with (fail)
  obtain ⟨w1, hw1⟩ : ∃ w1, w1 = w.alloc (.cells #[.slice Ae ne ce, .slice (some ⟨gp, 0, none⟩) ls ls] 58) := ⟨_, rfl⟩
  obtain ⟨h5, hh5⟩ : ∃ h5, w.heap.size = h5 := ⟨_, rfl⟩
  have HX1 := hide (show Box w1 h5 #[.slice Ae ne ce, .slice (some ⟨gp, 0, none⟩) ls ls] 58 by rw [hw1, ← hh5]; exact Box.new w _ _)
  have HB1 := hide (show Below h5 w w1 by rw [hw1, ← hh5]; exact alloc1 w _)
  have HS1 := hide (show w1.heap.size = h5 + 1 by rw [hw1, World.size_alloc, hh5])
  have HH5 := hide hh5
  rw [hh5] at HS
  rw [← hw1]
  try rw [hh5]
  clear hw1
  obtain ⟨w2, hw2⟩ : ∃ w2, w2 = w1.alloc (.cells #[.slice none 0 0] 27) := ⟨_, rfl⟩
  obtain ⟨ha, hh1⟩ : ∃ ha, h5 + 1 = ha := ⟨_, rfl⟩
  have hha : w1.heap.size = ha := by rw [HS1.out, hh1]
  have HA2 := hide (show Box w2 ha #[.slice none 0 0] 27 by rw [hw2, ← hha]; exact Box.new w1 _ _)
  have HX2 := hide (show Box w2 h5 #[.slice Ae ne ce, .slice (some ⟨gp, 0, none⟩) ls ls] 58 by rw [hw2]; exact HX1.out.alloc _)
  have HB2 := hide (show Below w1.heap.size w1 w2 by rw [hw2]; exact alloc1 w1 _)
  have HS2 := hide (show w2.heap.size = ha + 1 by rw [hw2, World.size_alloc, hha])
  have HHA := hide hha
  rw [hh1]
  try rw [← hw2]
  clear hw2 hha hh5 hh1
  have l2 := HX2.out.lt
  have x1 := (HX2.out.cell 1 (v := .slice (some ⟨gp, 0, none⟩) ls ls) rfl).1
  go_upto_region 3 with (fail)
  obtain ⟨w3, hw3⟩ : ∃ w3, w3 = w2.alloc (.cells mc 4) := ⟨_, rfl⟩
  obtain ⟨gm, hgm⟩ : ∃ gm, w2.heap.size = gm := ⟨_, rfl⟩
  have HG3 := hide (show Box w3 gm mc 4 by rw [hw3, ← hgm]; exact Box.new w2 _ _)
  have HA3 := hide (show Box w3 ha #[.slice none 0 0] 27 by rw [hw3]; exact HA2.out.alloc _)
  have HX3 := hide (show Box w3 h5 #[.slice Ae ne ce, .slice (some ⟨gp, 0, none⟩) ls ls] 58 by rw [hw3]; exact HX2.out.alloc _)
  have HB3 := hide (show Below w1.heap.size w1 w3 by rw [hw3]; exact HB2.out.alloc HB2.out.size _)
  have hs3 : w3.heap.size = gm + 1 := by rw [hw3, World.size_alloc, hgm]
  rw [← hw3]
  try rw [hgm]
  clear x1 l2
  obtain ⟨w4, hw4⟩ : ∃ w4, w4 = w3.alloc (.cells #[.slice (some ⟨gm, 0, none⟩) ls ls] 39) := ⟨_, rfl⟩
  obtain ⟨hm, hh2⟩ : ∃ hm, gm + 1 = hm := ⟨_, rfl⟩
  have hhm : w3.heap.size = hm := by rw [hs3, hh2]
  have HM4 := hide (show Box w4 hm #[.slice (some ⟨gm, 0, none⟩) ls ls] 39 by rw [hw4, ← hhm]; exact Box.new w3 _ _)
  have HB4 := hide (show Below w1.heap.size w1 w4 by rw [hw4]; exact HB3.out.alloc HB3.out.size _)
  have HMS := hide (show MtS w4 w1.heap.size ha hm gm ls [] from (by
    have h2 := HS2.out
    have h3 := HHA.out
    rw [hw4]; exact MtS.start HMC.out (by rw [← hhm]; exact Box.new w3 _ _) (HG3.out.alloc _) (HA3.out.alloc _) (by omega) (by omega) (by omega)))

  rw [hh2]
  rw [← hw4]
  clear hh2 hw4 hmake HMC HA2 HX2 HB2 HG3 HA3 HX3 HB3 HM4 hw3 hgm hs3 hhm
  obtain ⟨base, hbase⟩ : ∃ b, w1.heap.size = b := ⟨_, rfl⟩
  have HBS := hide (show h5 + 1 = base by have := HS1.out; omega)
  have hbh : h5 ≤ base := by have := HBS.out; omega
  rw [hbase] at HB4 HMS
  have hXr := fun (wr : World) (hb : Below base w1 wr) => (show Box wr h5 #[.slice Ae ne ce, .slice (some ⟨gp, 0, none⟩) ls ls] 58 from HX1.out.below (by rw [hbase]; exact hb))
  have HXR := hide hXr
  have HUP := hide (fun (wr : World) (hb : Below base w1 wr) => (show Below h5 w wr from HB1.out.trans (hb.mono hbh)))
  have HMC7 := hide (fun (z : Int) (b : Nat) (hz : z = (b : Int)) (L : List Int) (wr : World) (hs : BdW w1 base ha hm gm ls L wr) (hb : b < ls) (hL : L.length ≤ 40) => (show Calls Try.prog 55 #[.int .i64 z, .pointer (some ⟨hm, 0, none⟩), .pointer (some ⟨ha, 0, none⟩)] wr fun e w' => e = .returned (.tuple #[]) ∧ BdW w1 base ha hm gm ls (metL L z) w' ∧ (∀ k cs, Box wr k cs 42 → Box w' k cs 42) by
    subst hz
    exact (meet_any7 base ha hm gm ls b L wr hs.1 hb hls40 hL (by have := hs.2.size; omega)).mono (fun e w' ⟨q1, q2, q3, q4⟩ => ⟨q1, ⟨q2, hs.2.trans q3⟩, q4⟩)))
  have HW4 := hide (show BdW w1 base ha hm gm ls [] w4 from ⟨HMS.out, HB4.out⟩)
  have HGPL := hide (show gp < h5 by have := HRW.out.2.1; have := HH5.out; omega)
  clear hbase hXr HMS
  have hx4 := HXR.out w4 HW4.out.2
  have l4 := hx4.lt
  have x0 := (hx4.cell 0 (v := .slice Ae ne ce) rfl).1
  clear hx4
  go_wp2
  clear x0 l4
  go_loopw [21] (fun i wr => ∃ k : Nat, k ≤ ne ∧ i = .int .i64 k ∧ Hid (∃ L, BdS f es h k L ∧ BdW w1 base ha hm gm ls L wr)) (fun i _ => ne - (intOf i).toNat)
  case atStart => exact ⟨0, Nat.zero_le _, rfl, hide ⟨[], HS0.out, HW4.out⟩⟩
  case round =>
    obtain ⟨k, hk, rfl, hin⟩ := hrel
    obtain ⟨wo, rfl⟩ : ∃ wo, wo = wr := ⟨_, rfl⟩
    obtain ⟨L, hbs, hbw⟩ := hin.out
    have HBD := hide hbs
    have HBW := hide hbw
    have hszo := hbw.2.size
    clear hin hbs hbw
    by_cases hlt : k < ne
    case pos =>
      obtain ⟨y, hy⟩ : ∃ y, es[k]? = some y := ⟨_, List.getElem?_eq_getElem (by have := HNE.out; omega)⟩
      obtain ⟨a, b, hyab, han, hbn, hR⟩ := HES.out k y hy
      subst hyab
      obtain ⟨be, oe, rfl, hbe, hce'⟩ := HS.out (by have := HNE.out; omega)
      obtain ⟨y1, y2⟩ := hce' k _ hy
      simp only at y1 y2
      have HU := HUP.out wo HBW.out.2
      have d1 := (HU.cell (p := ⟨be, oe + k * 2, none⟩) hbe).trans y1
      have d2 := (HU.cell (p := ⟨be, oe + k * 2 + 1, none⟩) hbe).trans y2
      have hbs : be < wo.heap.size := by have := HU.size; have := HH5.out; omega
      have HY := hide hy
      have HRA := hide hR
      clear hce' y1 y2 hy HU hR
      go_upto_region 7 with (fail)
      obtain ⟨w6, hw6⟩ : ∃ w6, w6 = wo.alloc (.cells #[.int .i64 (a : Int), .int .i64 (b : Int)] 42) := ⟨_, rfl⟩
      obtain ⟨h6, hh6⟩ : ∃ h6, wo.heap.size = h6 := ⟨_, rfl⟩
      have HX6 := hide (show Box w6 h6 #[.int .i64 (a : Int), .int .i64 (b : Int)] 42 by rw [hw6, ← hh6]; exact Box.new wo _ _)
      have HW6 := hide (show BdW w1 base ha hm gm ls L w6 from ⟨HBW.out.1.below (by rw [hw6]; exact alloc1 wo _), by rw [hw6]; exact HBW.out.2.alloc (by have := HBS.out; have := HS1.out; have := HBW.out.2.size; omega) _⟩)
      rw [← hw6]
      try rw [hh6]
      clear hw6 d1 d2 hbs
      have l6 := HX6.out.lt
      have e0 := (HX6.out.cell 0 (v := .int .i64 (a : Int)) rfl).1
      have e1 := (HX6.out.cell 1 (v := .int .i64 (b : Int)) rfl).1
      by_cases he : h = (b : Int)
      · have hq : ((b : Int) == h) = true := by simp [he]
        have HHE := hide he
        have HNX2 := hide (HSB.out k a b L he HBD.out HY.out han hbn HRA.out)
        have hl1 := HLS.out _ _ HBD.out
        have HL2 := hide (show (metL L h).length ≤ 40 by
          have h1 := HLS.out _ _ HNX2.out
          have h2 := metL_le (metL L h) (a : Int)
          omega)
        have HM1 := hide (HMC7.out h b he L w6 HW6.out hbn hl1)
        clear he
        go_wp2_with (first
          | (go_at_call 55; refine (HM2.out).mono ?_; rintro e w8 ⟨rfl, hbw8, -⟩; have HW8 := hide hbw8; clear hbw8)
          | (go_at_call 55; refine (HM1.out).mono ?_; rintro e w7 ⟨rfl, hbw7, hbx7⟩; have HX7 := hide (hbx7 h6 _ HX6.out); have HM2 := hide (HMC7.out (a : Int) a rfl (metL L h) w7 hbw7 han HL2.out); have l7 := HX7.out.lt; have f0 := (HX7.out.cell 0 (v := .int .i64 (a : Int)) rfl).1; have f1 := (HX7.out.cell 1 (v := .int .i64 (b : Int)) rfl).1; clear hbw7 hbx7))
        go_roundw
        case rel => exact ⟨k + 1, by omega, by go_num, hide ⟨_, HNX2.out, HW8.out⟩⟩
        case measure => simp [intOf]; omega
      · have hq : ((b : Int) == h) = false := by simpa using fun e => he e.symm
        have HNX2 := hide (HSK.out k L _ HBD.out HY.out (fun e => he e.symm))
        clear he
        go_wp2
        go_roundw
        case rel => exact ⟨k + 1, by omega, by go_num, hide ⟨L, HNX2.out, HW6.out⟩⟩
        case measure => simp [intOf]; omega
    have HBI0 := hide (HST.out k L HBD.out (by have := HNE.out; omega))
    have HWO := HBW
    clear HBW HBD hszo
    go_wp2
    clear hlt hk
    go_loopw [10] (fun iv wr => ∃ i : Nat, iv = .int .i64 (i : Int) ∧ Hid (∃ L, BdI f es pv h i L ∧ BdW w1 base ha hm gm ls L wr)) (fun iv _ => ls + 1 - (intOf iv).toNat)
    case atStart => exact ⟨0, rfl, hide ⟨L, HBI0.out, HWO.out⟩⟩
    case round =>
      obtain ⟨i, rfl, hin⟩ := hrel
      obtain ⟨wo, rfl⟩ : ∃ wo, wo = wr := ⟨_, rfl⟩
      obtain ⟨L, hbi, hbw⟩ := hin.out
      have HBI := hide hbi
      have HBW := hide hbw
      obtain ⟨-, -, -, -, -, A, c, hbx, how⟩ := hbw.1
      have HBX := hide hbx
      have HOW := hide how
      have hLl := HLI.out i L hbi
      have hile := hbi.le
      obtain ⟨nL, hnL⟩ : ∃ n, L.length = n := ⟨_, rfl⟩
      have HNL := hide hnL
      rw [hnL] at hLl hile HBX HOW
      have ca := (HBX.out.cell 0 (v := .slice A nL c) rfl).1
      have la := HBX.out.lt
      clear hin hbi hbw hbx how hnL
      by_cases hlt : i < nL
      case neg =>
        have HE := hide (HDN.out i L HBI.out (by have := HNL.out; omega))
        have HSR := hide (sortX_any (.slice A nL c) L base wo (by have := HOW.out; exact this) (by have := HNL.out; omega))
        have HAP := hide (HOW.out.apart HBX.out (by decide))
        go_wp2_with (go_at_call 52; refine (HSR.out).mono ?_; rintro e w7 ⟨rfl, ho7, hb7, hk7⟩; have HO7 := hide ho7; have HB7 := hide hb7; have hbx7 : Box w7 ha #[.slice A nL c] 27 := ((hk7 ha HBX.out.lt HAP.out).trans HBX.out); have cb := (hbx7.cell 0 (v := .slice A nL c) rfl).1; have lb := hbx7.lt; clear ho7 hb7 hk7 hbx7)
        go_ret
        have HF := HUP.out w7 (HBW.out.2.trans HB7.out)
        have HO := HO7.out.lower hbh
        rw [HE.out] at HO
        exact ⟨_, rfl, by first | exact HO | (rw [HH5.out]; exact HO), by first | exact HF | (rw [HH5.out]; exact HF)⟩
      obtain ⟨y, hy⟩ : ∃ y, L[i]? = some y := ⟨_, List.getElem?_eq_getElem (by have := HNL.out; omega)⟩
      have hyr := HBI.out.rng y (List.mem_of_getElem? hy)
      rw [HLN.out] at hyr
      obtain ⟨yn, rfl⟩ : ∃ n : Nat, y = n := ⟨y.toNat, by omega⟩
      obtain ⟨g, rfl, -, hgl, hcl, -⟩ := HOW.out.blk (by have := HNL.out; omega)
      have ci := hcl i _ hy
      have HY := hide hy
      have i1 : (0 : Int) ≤ (i : Int) := by omega
      have i2 : (i : Int) < (nL : Int) := by omega
      clear hcl hy
      by_cases hyh : (yn : Int) = h
      · have hq : ((yn : Int) == h) = true := by simpa using hyh
        have HN1 := hide (HNX.out i L _ HBI.out HY.out (fun h => absurd hyh h))
        clear hyh
        go_wp2
        go_roundw
        case rel => exact ⟨i + 1, by go_num, hide ⟨L, HN1.out, HBW.out⟩⟩
        case measure => simp [intOf]; omega
      have hq : ((yn : Int) == h) = false := by simpa using hyh
      have HYH := hide hyh
      have hynl : yn < ls := by omega
      obtain ⟨Ar, cr, pr, hcr, hmr, hsr, -⟩ := HRW.out.2.2 yn hynl
      have HU := HUP.out wo HBW.out.2
      have prr := (HU.cell (p := ⟨gp, yn, none⟩) HGPL.out).trans pr
      have HSR := hide hsr
      obtain ⟨m, hm'⟩ : ∃ m, (pv yn).length = m := ⟨_, rfl⟩
      have HMM := hide hm'
      rw [hm'] at prr hcr
      have hx := HXR.out wo HBW.out.2
      have lx := hx.lt
      have x1 := (hx.cell 1 (v := .slice (some ⟨gp, 0, none⟩) ls ls) rfl).1
      have lgp : gp < wo.heap.size := by have := HGPL.out; have := HU.size; have := HH5.out; omega
      have y1 : (0 : Int) ≤ (yn : Int) := by omega
      have y2 : (yn : Int) < (ls : Int) := by omega
      clear hyh pr hsr hm' hx HU
      go_upto_region 15 with (fail)
      go_quiet (fail)
      obtain ⟨wp, hwp⟩ : ∃ wp, wp = wo.drewN nq := ⟨_, rfl⟩
      have HWP := hide (show BdW w1 base ha hm gm ls L wp by rw [hwp]; exact ⟨HBW.out.1, below_drewN HBW.out.2 nq⟩)
      rw [← hwp]
      clear hwp ca la ci prr lx x1 lgp hgl
      go_wp2
      go_loopw [58] (fun jv wr => ∃ j : Nat, j ≤ m ∧ jv = .int .i64 (j : Int) ∧ Hid (∃ L', BdI f es pv h i L' ∧ L'[i]? = some (yn : Int) ∧ (∀ z ∈ (pv yn).take j, z ∈ L') ∧ BdW w1 base ha hm gm ls L' wr)) (fun jv _ => m - (intOf jv).toNat)
      case atStart => exact ⟨0, Nat.zero_le _, rfl, hide ⟨L, HBI.out, HY.out, by simp, HWP.out⟩⟩
      case round =>
        obtain ⟨j, hj, rfl, hin⟩ := hrel
        obtain ⟨wq, rfl⟩ : ∃ wq, wq = wr := ⟨_, rfl⟩
        obtain ⟨L', hbi, hLy, hall, hbw⟩ := hin.out
        have HBI' := hide hbi
        have HLY := hide hLy
        have HALL := hide hall
        have HBW' := hide hbw
        have hl40 := HLI.out i L' hbi
        clear hin hbi hLy hall hbw
        by_cases hlj : j < m
        case neg =>
          have HN1 := hide (HNX.out i L' _ HBI'.out HLY.out (fun _ z hz => HALL.out z (by rw [List.take_of_length_le (by have := HMM.out; omega)]; simpa using hz)))
          go_wp2
          go_roundw
          case rel => exact ⟨i + 1, by go_num, hide ⟨L', HN1.out, HBW'.out⟩⟩
          case measure => simp [intOf]; omega
        obtain ⟨z, hz⟩ : ∃ z, (pv yn)[j]? = some z := ⟨_, List.getElem?_eq_getElem (by have := HMM.out; omega)⟩
        obtain ⟨a, rfl, han, hR, hn⟩ := HPV.out yn z (List.mem_of_getElem? hz)
        obtain ⟨br, orr, rfl, hbr, hcc⟩ := HSR.out (by have := HMM.out; omega)
        have HU := HUP.out wq HBW'.out.2
        have cj := (HU.cell (p := ⟨br, orr + j, none⟩) (by have := HH5.out; show br < h5; omega)).trans (hcc j (by have := HMM.out; omega))
        rw [show (pv yn).getD j 0 = (a : Int) by simp [List.getD, hz]] at cj
        have lbr : br < wq.heap.size := by have := HU.size; have := HH5.out; omega
        have HM1 := hide (HMC7.out (a : Int) a rfl L' wq HBW'.out han (by omega))
        have HNE2 := hide (HMT.out i a L' _ HBI'.out (List.mem_of_getElem? HLY.out) HYH.out han hR hn)
        have HAL2 := hide (show ∀ z ∈ (pv yn).take (j + 1), z ∈ metL L' (a : Int) from fun z hz' => by
          rw [take_snocI hz, List.mem_append] at hz'
          rcases hz' with h1 | h1
          · exact mem_metL.2 (.inl (HALL.out z h1))
          · simp at h1; exact mem_metL.2 (.inr h1))
        clear hz hR hn hcc hbr HU
        go_wp2_with (go_at_call 55; refine (HM1.out).mono ?_; rintro e w8 ⟨rfl, hbw8, -⟩; have HW8 := hide hbw8; clear hbw8)
        go_roundw
        case rel => exact ⟨j + 1, by omega, by go_num, hide ⟨_, HNE2.out, metL_get HLY.out, HAL2.out, HW8.out⟩⟩
        case measure => simp [intOf]; omega
end Go.Proofs.Ytlolgahaphmfoaa
