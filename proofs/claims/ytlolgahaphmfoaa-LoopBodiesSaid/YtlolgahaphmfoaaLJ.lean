/- Layer 7: Body and Deep: what the program answers. Condition: the function is one of a program that may be. -/
import Derived.Test.YtlolgahaphmfoaaLI
set_option linter.unusedSimpArgs false
set_option linter.unusedVariables false
namespace Go.Proofs.Ytlolgahaphmfoaa
open Go.RowKit

set_option maxHeartbeats 2000000 in
set_option maxRecDepth 100000 in
theorem lbody_any (vk vb vs : Value) (f : FunV) (o : List Int) (ho : OrderOf f o) (A : List Int) (hAf : AbvOf f A) (p : Int → Int → Bool) (hp : ∀ a b, p a b = true ↔ domQ A a b) (h : Int) (BL : List Int) (hBL : IsBody f (backN f o p) h BL) (w : World) (B : Nat) (hB : B ≤ w.heap.size) (hi : FunI w (· < B) vk vb vs f) (hok : FlowOk f) (h1 : 1 ≤ f.blocks.length) :
    Calls Try.prog 20 #[.agg #[vk, vb, .int .i64 f.params, .int .i64 f.result, vs], .int .i64 h] w fun e w' => ∃ v, e = .returned v ∧ Ow w' w.heap.size 3 .i64 v BL ∧ Below w.heap.size w w' := by
  have HFD := hide (fun (W : World) (hW : Below w.heap.size w W) => lfind_any vk vb vs f o ho A hAf p hp W B (by have := hW.size; omega) (hi.keep (up hW hB) (fun _ h => h)) hok h1)
  have hesx := fun (k : Nat) (e : Int × Int) (he : (backN f o p)[k]? = some e) => (show ∃ a b : Nat, e = ((a : Int), (b : Int)) ∧ a < f.blocks.length ∧ b < f.blocks.length ∧ Rch f a by
    obtain ⟨x, v⟩ := e
    obtain ⟨a, b, rfl, rfl, ha, hb, hao, -⟩ := back_nat hok (List.mem_of_getElem? he)
    exact ⟨a, b, rfl, ha, hb, o, ho, hao⟩)
  have hpvx := fun (y : Nat) (z : Int) (hz : z ∈ rprevTo f (sortL o) (sortL o).length 0 y) => (show ∃ a : Nat, z = a ∧ a < f.blocks.length ∧ Rch f a ∧ (y : Int) ∈ nxt f a by
    obtain ⟨h1', h2'⟩ := (rprevTo_mem (Nat.le_refl _)).1 hz
    have hzo := mem_sortL.1 h1'
    have hr := (order_reach hok h1 ho).rng z hzo
    obtain ⟨a, rfl⟩ : ∃ a : Nat, z = a := ⟨z.toNat, by omega⟩
    exact ⟨a, rfl, by omega, ⟨o, ho, hzo⟩, by simpa using h2'⟩)
  have hpcx := fun (b z : Nat) (hR : Rch f z) (hn : (b : Int) ∈ nxt f z) => (show (z : Int) ∈ rprevTo f (sortL o) (sortL o).length 0 b by
    obtain ⟨o', ho', hz⟩ := hR
    obtain rfl := ho.one ho'
    exact (rprevTo_mem (Nat.le_refl _)).2 ⟨mem_sortL.2 hz, by simpa using hn⟩)
  have HBM := hide (fun (Ae : Option Addr) (ce gp B0 : Nat) (W : World) (hs : EdgS W W.heap.size Ae (backN f o p)) (hle : (backN f o p).length ≤ ce) (hlm : ce ≤ 9223372036854775807) (hrw : RowsW W B0 gp f.blocks.length (rprevTo f (sortL o) (sortL o).length 0)) => lbodyM_any f hok h1 (backN f o p) (rprevTo f (sortL o) (sortL o).length 0) h BL hBL hesx hpvx hpcx Ae ce gp W (back_len hok) hs hle hlm B0 hrw)
  obtain ⟨Ak, ck, rfl, hck, hmk⟩ := hi.1.open'
  obtain ⟨Ab, cb, rfl, hcb, hmb⟩ := hi.2.1.open'
  obtain ⟨As, cs, rfl, hcs, hms⟩ := hi.2.2.1.open'
  generalize rprevTo f (sortL o) (sortL o).length 0 = pv at *
  obtain ⟨es, hes⟩ : ∃ es, backN f o p = es := ⟨_, rfl⟩
  rw [hes] at HFD HBM
  obtain ⟨ne, hne⟩ : ∃ n, es.length = n := ⟨_, rfl⟩
  rw [hne] at HFD HBM
  generalize f.kinds.length = lk, f.base.length = lb, f.blocks.length = ls, f.params = fp, f.result = fr at *
  clear hi hok hes hne ho hAf hp hBL h1 hesx hpvx hpcx
  go_enter Try.func20, Try.ntmps20
  go_upto_region 1 with (fail)
  obtain ⟨w1, hw1⟩ : ∃ w1, w1 = w.alloc (.cells #[.slice Ak lk ck, .slice Ab lb cb, .int .i64 fp, .int .i64 fr, .slice As ls cs] 30) := ⟨_, rfl⟩
  obtain ⟨h5, hh5⟩ : ∃ h5, w.heap.size = h5 := ⟨_, rfl⟩
  have HX1 := hide (show Box w1 h5 #[.slice Ak lk ck, .slice Ab lb cb, .int .i64 fp, .int .i64 fr, .slice As ls cs] 30 by rw [hw1, ← hh5]; exact Box.new w _ _)
  have HB1 := hide (show Below w.heap.size w w1 by rw [hw1]; exact alloc1 w _)
  have HK1 := hide (fun (W : World) (hW : Below w1.heap.size w1 W) => And.intro ((HX1.out.below hW).cell 0 (v := .slice Ak lk ck) rfl).1 (And.intro ((HX1.out.below hW).cell 1 (v := .slice Ab lb cb) rfl).1 (And.intro ((HX1.out.below hW).cell 2 (v := .int .i64 fp) rfl).1 (And.intro ((HX1.out.below hW).cell 3 (v := .int .i64 fr) rfl).1 ((HX1.out.below hW).cell 4 (v := .slice As ls cs) rfl).1))))
  have HUP := hide (fun (W : World) (hW : Below w1.heap.size w1 W) => HB1.out.trans (hW.mono HB1.out.size))
  have l1 := HX1.out.lt
  have hw1s := HB1.out.size
  rw [← hw1, hh5]
  clear hw1 hh5
  obtain ⟨c0, c1, c2, c3, c4⟩ := HK1.out w1 (Below.refl _ _)
  go_wp2_with (first
    | (go_at_call 41; refine (HO4.out).mono ?_; rintro e w5 ⟨v5, rfl, ho5, hb5⟩)
    | (go_at_call 40; refine (HFD.out w1 HB1.out).mono ?_; rintro e w4 ⟨Ae, ce, gp, rfl, he4, hle4, hlm4, -, hr4, hb4⟩; have HO4 := hide (HBM.out Ae ce gp _ w4 he4 hle4 hlm4 hr4); have HC4 := hide (HB1.out.trans (hb4.mono hw1s)); clear hb4 he4 hle4 hlm4 hr4))
  go_ret
  exact ⟨v5, rfl, ho5.lower HC4.out.size, HC4.out.trans (hb5.mono HC4.out.size)⟩
def DpL (w5 : World) (g n : Nat) (hs : List Int) (B : Int → List Int) (k j : Nat) (wr : World) : Prop := TnW wr g n (dpT hs B k j) ∧ But g w5 wr
set_option maxHeartbeats 4000000 in
set_option maxRecDepth 100000 in
theorem ldeep_any (vk vb vs : Value) (f : FunV) (o : List Int) (ho : OrderOf f o) (A : List Int) (hAf : AbvOf f A) (p : Int → Int → Bool) (hp : ∀ a b, p a b = true ↔ domQ A a b) (BB : Int → List Int) (hBB : ∀ h, IsBody f (backN f o p) h (BB h)) (hs : List Int) (hhs : IsHeads (backN f o p) hs) (w : World) (B : Nat) (hB : B ≤ w.heap.size) (hi : FunI w (· < B) vk vb vs f) (hok : FlowOk f) (h1 : 1 ≤ f.blocks.length) :
    Calls Try.prog 22 #[.agg #[vk, vb, .int .i64 f.params, .int .i64 f.result, vs]] w fun e w' => ∃ g, e = .returned (.slice (some ⟨g, 0, none⟩) f.blocks.length f.blocks.length) ∧ TnW w' g f.blocks.length (dpT hs BB hs.length 0) ∧ w.heap.size ≤ g ∧ Below w.heap.size w w' := by
  have HFD := hide (fun (W : World) (hW : Below w.heap.size w W) => lfind_any vk vb vs f o ho A hAf p hp W B (by have := hW.size; omega) (hi.keep (up hW hB) (fun _ h => h)) hok h1)
  have hesx := fun (k : Nat) (e : Int × Int) (he : (backN f o p)[k]? = some e) => (show ∃ a b : Nat, e = ((a : Int), (b : Int)) ∧ a < f.blocks.length ∧ b < f.blocks.length ∧ Rch f a by
    obtain ⟨x, v⟩ := e
    obtain ⟨a, b, rfl, rfl, ha, hb, hao, -⟩ := back_nat hok (List.mem_of_getElem? he)
    exact ⟨a, b, rfl, ha, hb, o, ho, hao⟩)
  have hpvx := fun (y : Nat) (z : Int) (hz : z ∈ rprevTo f (sortL o) (sortL o).length 0 y) => (show ∃ a : Nat, z = a ∧ a < f.blocks.length ∧ Rch f a ∧ (y : Int) ∈ nxt f a by
    obtain ⟨h1', h2'⟩ := (rprevTo_mem (Nat.le_refl _)).1 hz
    have hzo := mem_sortL.1 h1'
    have hr := (order_reach hok h1 ho).rng z hzo
    obtain ⟨a, rfl⟩ : ∃ a : Nat, z = a := ⟨z.toNat, by omega⟩
    exact ⟨a, rfl, by omega, ⟨o, ho, hzo⟩, by simpa using h2'⟩)
  have hpcx := fun (b z : Nat) (hR : Rch f z) (hn : (b : Int) ∈ nxt f z) => (show (z : Int) ∈ rprevTo f (sortL o) (sortL o).length 0 b by
    obtain ⟨o', ho', hz⟩ := hR
    obtain rfl := ho.one ho'
    exact (rprevTo_mem (Nat.le_refl _)).2 ⟨mem_sortL.2 hz, by simpa using hn⟩)
  have HBM := hide (fun (h : Int) (Ae : Option Addr) (ce gp B0 : Nat) (W : World) (hs : EdgS W W.heap.size Ae (backN f o p)) (hle : (backN f o p).length ≤ ce) (hlm : ce ≤ 9223372036854775807) (hrw : RowsW W B0 gp f.blocks.length (rprevTo f (sortL o) (sortL o).length 0)) => lbodyM_any f hok h1 (backN f o p) (rprevTo f (sortL o) (sortL o).length 0) h (BB h) (hBB h) hesx hpvx hpcx Ae ce gp W (back_len hok) hs hle hlm B0 hrw)
  have HHD := hide (fun (Ae : Option Addr) (ce : Nat) (W : World) (hs' : EdgS W W.heap.size Ae (backN f o p)) (hle : (backN f o p).length ≤ ce) (hlm : ce ≤ 9223372036854775807) => (lhds_any (backN f o p) Ae ce W (back_len hok) hs' hle hlm).mono (R' := fun e w' => ∃ v, e = .returned v ∧ Ow w' W.heap.size 3 .i64 v hs ∧ Below W.heap.size W w') (fun e w' ⟨v, l, q1, q2, q3, q4⟩ => ⟨v, q1, by rw [hhs.one q2]; exact q3, q4⟩))
  have HBN := hide (fun h (y : Int) (hy : y ∈ BB h) => (hBB h).nat hy)
  have HND := hide (fun h => (hBB h).nod)
  have HLB := hide (fun h => (show (BB h).length ≤ f.blocks.length from (hBB h).len))
  have hhl := heads_len hok hhs
  have hls40 := hok.1
  have hmake : ∀ W : World, (Instr.makeSlice 27 (.int .i64 (f.blocks.length : Int)) (.int .i64 (f.blocks.length : Int))).run Try.prog W = .ok (.slice (some ⟨W.heap.size, 0, none⟩) f.blocks.length f.blocks.length) (W.alloc (.cells (madeCells (Value.int .i64 0).cells (f.blocks.length * 1)) 3)) := fun W => mk_run 27 3 Try.underlying27 info_i64 (by omega) f.blocks.length (by omega) W
  obtain ⟨mc, hmc⟩ : ∃ mc, madeCells (Value.int .i64 0).cells (f.blocks.length * 1) = mc := ⟨_, rfl⟩
  rw [hmc] at hmake
  have HMC := hide (show mc = ((List.replicate f.blocks.length (0 : Int)).map (Value.int .i64)).toArray by rw [← hmc]; exact madeCells_int _)
  obtain ⟨Ak, ck, rfl, hck, hmk⟩ := hi.1.open'
  obtain ⟨Ab, cb, rfl, hcb, hmb⟩ := hi.2.1.open'
  obtain ⟨As, cs, rfl, hcs, hms⟩ := hi.2.2.1.open'
  generalize rprevTo f (sortL o) (sortL o).length 0 = pv at *
  obtain ⟨es, hes⟩ : ∃ es, backN f o p = es := ⟨_, rfl⟩
  rw [hes] at HFD HBM HHD
  obtain ⟨ne, hne⟩ : ∃ n, es.length = n := ⟨_, rfl⟩
  rw [hne] at HFD HBM HHD
  obtain ⟨nh, hnh⟩ : ∃ n, hs.length = n := ⟨_, rfl⟩
  have HNH := hide hnh
  rw [hnh] at hhl ⊢
  generalize f.kinds.length = lk, f.base.length = lb, f.blocks.length = ls, f.params = fp, f.result = fr at *
  clear hi hok hes hne hnh ho hAf hp hBB hhs h1 hesx hpvx hpcx hmc
  go_enter Try.func22, Try.ntmps22
  go_upto_region 1 with (fail)
  obtain ⟨w1, hw1⟩ : ∃ w1, w1 = w.alloc (.cells #[.slice Ak lk ck, .slice Ab lb cb, .int .i64 fp, .int .i64 fr, .slice As ls cs] 30) := ⟨_, rfl⟩
  obtain ⟨h5, hh5⟩ : ∃ h5, w.heap.size = h5 := ⟨_, rfl⟩
  have HX1 := hide (show Box w1 h5 #[.slice Ak lk ck, .slice Ab lb cb, .int .i64 fp, .int .i64 fr, .slice As ls cs] 30 by rw [hw1, ← hh5]; exact Box.new w _ _)
  have HB1 := hide (show Below w.heap.size w w1 by rw [hw1]; exact alloc1 w _)
  have HK1 := hide (fun (W : World) (hW : Below w1.heap.size w1 W) => And.intro ((HX1.out.below hW).cell 0 (v := .slice Ak lk ck) rfl).1 (And.intro ((HX1.out.below hW).cell 1 (v := .slice Ab lb cb) rfl).1 (And.intro ((HX1.out.below hW).cell 2 (v := .int .i64 fp) rfl).1 (And.intro ((HX1.out.below hW).cell 3 (v := .int .i64 fr) rfl).1 ((HX1.out.below hW).cell 4 (v := .slice As ls cs) rfl).1))))
  have HUP := hide (fun (W : World) (hW : Below w1.heap.size w1 W) => HB1.out.trans (hW.mono HB1.out.size))
  have l1 := HX1.out.lt
  have hw1s := HB1.out.size
  rw [← hw1, hh5]
  clear hw1 hh5
  obtain ⟨c0, c1, c2, c3, c4⟩ := HK1.out w1 (Below.refl _ _)
  go_upto_region 2 with (fail)
  obtain ⟨w2, hw2⟩ : ∃ w2, w2 = w1.alloc (.cells mc 3) := ⟨_, rfl⟩
  obtain ⟨g, hg⟩ : ∃ g, w1.heap.size = g := ⟨_, rfl⟩
  have HM2 := hide (show TnW w2 g ls (fun _ => 0) by rw [hw2, ← hg]; exact TnW.zero (Box.new w1 _ _) HMC.out)
  have HC2 := hide (show Below w1.heap.size w1 w2 by rw [hw2]; exact alloc1 w1 _)
  have hwg : w.heap.size ≤ g := by rw [← hg]; exact hw1s
  have hgh : g ≠ h5 := by omega
  have hz2 : g < w2.heap.size ∧ w2.heap.size ≤ g + 1 := by rw [hw2, World.size_alloc, hg]; omega
  rw [← hw2, hg]
  clear hw2 hg hmake HMC c0 c1 c2 c3 c4
  obtain ⟨c0, c1, c2, c3, c4⟩ := HK1.out w2 HC2.out
  have l2 : h5 < w2.heap.size := by have := HC2.out.size; omega
  go_upto_region 3 with (go_at_call 40; refine (HFD.out w2 (HUP.out w2 HC2.out)).mono ?_; rintro e w3 ⟨Ae, ce, gp, rfl, he3, hle3, hlm3, hfa3, hr3, hb3⟩; have HE3 := hide he3; have HR3 := hide hr3; have HF3 := hide hfa3; have HB3 := hide hb3; clear he3 hr3 hfa3 hb3)
  have hz3 := HB3.out.size
  have HM3 := hide (show TnW w3 g ls (fun _ => 0) from HM2.out.below HB3.out)
  have HC3 := hide (HC2.out.trans (HB3.out.mono HC2.out.size))
  obtain ⟨w4, hw4⟩ : ∃ w4, w4 = w3.alloc (.cells #[.slice Ae ne ce, .slice (some ⟨gp, 0, none⟩) ls ls] 58) := ⟨_, rfl⟩
  obtain ⟨hl, hhl'⟩ : ∃ hl, w3.heap.size = hl := ⟨_, rfl⟩
  have HL4 := hide (show Box w4 hl #[.slice Ae ne ce, .slice (some ⟨gp, 0, none⟩) ls ls] 58 by rw [hw4, ← hhl']; exact Box.new w3 _ _)
  have HA4 := hide (show Below w3.heap.size w3 w4 by rw [hw4]; exact alloc1 w3 _)
  have HM4 := hide (HM3.out.below HA4.out)
  have HE4 := hide ((HE3.out.below HA4.out).more HA4.out.size)
  have HR4 := hide (HR3.out.below HA4.out)
  have HC4 := hide (HC3.out.trans (HA4.out.mono HC3.out.size))
  have hgl : g ≠ hl := by omega
  have hz4 := HA4.out.size
  rw [← hw4, hhl']
  clear hw4 hhl' c0 c1 c2 c3 c4 l2
  have l4 := HL4.out.lt
  have x0 := (HL4.out.cell 0 (v := .slice Ae ne ce) rfl).1
  have x1 := (HL4.out.cell 1 (v := .slice (some ⟨gp, 0, none⟩) ls ls) rfl).1
  go_wp2_with (go_at_call 39; refine (HHD.out Ae ce w4 HE4.out hle3 hlm3).mono ?_; rintro e w5 ⟨v5, rfl, ho5, hb5⟩; obtain ⟨A5, k5, hv5, hle5, hme5, hs5⟩ := ho5.sl; rw [HNH.out] at hv5 hle5; have HS5 := hide hs5; have HB5 := hide hb5; have HA5 := hide (show ∀ b o', A5 = some ⟨b, o', none⟩ → b ≠ g from fun b o' e => (by have h1 := (World.ownsRow.lt ho5 b (by rw [hv5, e]; rfl)).1; omega)); subst hv5; clear hb5 ho5 hs5)
  clear x0 x1 l4
  have hz5 := HB5.out.size
  have HL5 := hide (HL4.out.below HB5.out)
  have HE5 := hide ((HE4.out.below HB5.out).more HB5.out.size)
  have HR5 := hide (HR4.out.below HB5.out)
  have HC5 := hide (HC4.out.trans (HB5.out.mono HC4.out.size))
  have HD0 := hide (show DpL w5 g ls hs BB 0 0 w5 from ⟨by rw [dpT_zero]; exact HM4.out.below HB5.out, But.refl _ _⟩)
  have HKE := hide (fun (wr : World) (hb : But g w5 wr) => (show EdgS wr wr.heap.size Ae es ∧ RowsW wr w2.heap.size gp ls pv from ⟨(HE5.out.but (Nat.le_refl _) hb HF3.out (by omega)).more hb.size, HR5.out.but hb (by omega)⟩))
  go_loopw [19] (fun i wr => ∃ k : Nat, k ≤ nh ∧ i = .int .i64 (k : Int) ∧ Hid (DpL w5 g ls hs BB k 0 wr)) (fun i _ => nh - (intOf i).toNat)
  case atStart => exact ⟨0, Nat.zero_le _, rfl, HD0⟩
  case round =>
    obtain ⟨k, hk, rfl, hin⟩ := hrel
    obtain ⟨wo, rfl⟩ : ∃ wo, wo = wr := ⟨_, rfl⟩
    have HD := hide hin.out
    have hbut := hin.out.2
    have HBU := hide hbut
    have hzo := hbut.size
    have HLO := hide (hbut.box HL5.out (fun e => hgl e.symm))
    clear hin hbut
    by_cases hlt : k < nh
    case neg =>
      have hkn : k = nh := by omega
      have HF := hide (show TnW wo g ls (dpT hs BB nh 0) by rw [← hkn]; exact HD.out.1)
      have HBF := hide (show Below w.heap.size w wo from HBU.out.below (HUP.out w5 HC5.out) hwg (by have := (HUP.out w5 HC5.out).size; omega))
      clear hkn
      go_wp2
      go_ret
      exact ⟨g, rfl, HF.out, hwg, HBF.out⟩
    obtain ⟨h, hh⟩ : ∃ h, hs[k]? = some h := ⟨_, List.getElem?_eq_getElem (by have := HNH.out; omega)⟩
    obtain ⟨be, oe, rfl, hbe, hcc⟩ := (HBU.out.sl HS5.out (Nat.le_refl _) HA5.out) (by have := HNH.out; omega)
    have d1 := hcc k (by have := HNH.out; omega)
    rw [show hs.getD k 0 = h by simp [List.getD, hh]] at d1
    have hbs : be < wo.heap.size := by omega
    have HH := hide hh
    have lo := HLO.out.lt
    have x0 := (HLO.out.cell 0 (v := .slice Ae ne ce) rfl).1
    have x1 := (HLO.out.cell 1 (v := .slice (some ⟨gp, 0, none⟩) ls ls) rfl).1
    have HBC := hide (HBM.out h Ae ce gp w2.heap.size wo (HKE.out wo HBU.out).1 hle3 hlm3 (HKE.out wo HBU.out).2)
    obtain ⟨bl, hbl⟩ : ∃ bl, BB h = bl := ⟨_, rfl⟩
    rw [hbl] at HBC
    have HBL := hide hbl
    have HNB := hide (show ∀ y ∈ bl, ∃ x : Nat, y = x ∧ x < ls by rw [← hbl]; exact HBN.out h)
    have HNO := hide (show bl.Nodup by rw [← hbl]; exact HND.out h)
    obtain ⟨nb, hnb⟩ : ∃ n, bl.length = n := ⟨_, rfl⟩
    have HNBL := hide hnb
    have hnb40 : nb ≤ ls := by rw [← hnb, ← hbl]; exact HLB.out h
    clear hcc hh hbe hbl hnb
    go_wp2_with (go_at_call 41; refine (HBC.out).mono ?_; rintro e w7 ⟨v7, rfl, ho7, hb7⟩; obtain ⟨A7, k7, hv7, hle7, hme7, hs7⟩ := ho7.sl; rw [HNBL.out] at hv7 hle7; have HS7 := hide hs7; have HB7 := hide hb7; have HA7 := hide (show ∀ b o', A7 = some ⟨b, o', none⟩ → b ≠ g from fun b o' e => (by have h1 := (World.ownsRow.lt ho7 b (by rw [hv7, e]; rfl)).1; omega)); subst hv7; clear hb7 ho7 hs7)
    clear x0 x1 lo d1 hbs
    have hz7 := HB7.out.size
    have HD7 := hide (show DpL w7 g ls hs BB k 0 w7 from ⟨HD.out.1.below HB7.out, But.refl _ _⟩)
    have HB57 := hide (HBU.out.trans (But.of_below (g := g) HB7.out))
    go_loopw [27] (fun i wr => ∃ j : Nat, j ≤ nb ∧ i = .int .i64 (j : Int) ∧ Hid (DpL w7 g ls hs BB k j wr)) (fun i _ => nb - (intOf i).toNat)
    case atStart => exact ⟨0, Nat.zero_le _, rfl, HD7⟩
    case round =>
      obtain ⟨j, hj, rfl, hin⟩ := hrel
      obtain ⟨wj, rfl⟩ : ∃ wj, wj = wr := ⟨_, rfl⟩
      have HKJ := hide hin.out
      have hzj := hin.out.2.size
      clear hin
      by_cases hlj : j < nb
      case neg =>
        have HN := hide (show DpL w5 g ls hs BB (k + 1) 0 wj from ⟨by rw [← dpT_row HH.out (by rw [HBL.out, HNBL.out]; omega : (BB h).length ≤ j)]; exact HKJ.out.1, HB57.out.trans HKJ.out.2⟩)
        go_wp2
        go_roundw
        case rel => exact ⟨k + 1, by omega, by go_num, HN⟩
        case measure => simp [intOf]; omega
      obtain ⟨y, hy⟩ : ∃ y, bl[j]? = some y := ⟨_, List.getElem?_eq_getElem (by have := HNBL.out; omega)⟩
      obtain ⟨x, rfl, hxl⟩ := HNB.out y (List.mem_of_getElem? hy)
      obtain ⟨b7, o7, rfl, hb7, hc7⟩ := (HKJ.out.2.sl HS7.out (Nat.le_refl _) HA7.out) (by have := HNBL.out; omega)
      have cj := hc7 j (by have := HNBL.out; omega)
      rw [show bl.getD j 0 = (x : Int) by simp [List.getD, hy]] at cj
      have hb7s : b7 < wj.heap.size := by omega
      have hbms : g < wj.heap.size := Box.lt HKJ.out.1
      obtain ⟨t1, t2⟩ := HKJ.out.1.cell hxl
      have s1 := dpT_step (h := h) (B := BB) (j := j) (x := x) (by rw [HBL.out]; exact HNO.out) HH.out (by rw [HBL.out]; exact hy)
      have hcn := dpT_le hs BB k j x
      obtain ⟨cn, hcn'⟩ : ∃ c, dpT hs BB k j x = c := ⟨_, rfl⟩
      rw [hcn'] at t1 s1 hcn
      have HST := hide (show DpL w7 g ls hs BB k (j + 1) (wj.setCell ⟨g, x, none⟩ (.int .i64 ((cn : Int) + 1))) from ⟨by rw [← s1]; exact HKJ.out.1.set (v := cn + 1), HKJ.out.2.set⟩)
      have e1 : IntKind.i64.wrap ((cn : Int) + 1) = (cn : Int) + 1 := IntWalk.i64_in _ ⟨by omega, by omega⟩
      have q3 : (0 : Int) ≤ (x : Int) := by omega
      have q4 : (x : Int) < (ls : Int) := by omega
      clear hc7 hy s1 hcn' hb7
      go_wp2
      go_roundw
      case rel => exact ⟨j + 1, by omega, by go_num, HST⟩
      case measure => simp [intOf]; omega
end Go.Proofs.Ytlolgahaphmfoaa
