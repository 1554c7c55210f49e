/- Layer 15, the program: ins. Conditions: the tables of parts and of the library read as listed. -/
import Derived.Test.YteoopilmdlhkhaaDoorPaWC
import Derived.Test.YteoopilmdlhkhaaDoorPaED
set_option linter.unusedSimpArgs false
set_option linter.unusedVariables false
namespace Go.Proofs.YteoopilmdlhkhaaDoor
open Go.RowKit

section
variable {b n : Nat} {F : SpF15} {w w' : World}
theorem MpS15.hr (h : MpS15 w b n F) : ∀ r, some b = some r → ∃ o : Obj, w.heap[r]? = some o ∧ o.isCells = false := fun r e => by
  obtain ⟨D, ⟨es, clock, h1, -⟩, -⟩ := h
  cases e
  exact ⟨_, h1, rfl⟩
theorem TabP.gr15 (h : TabP w) (hM : MpS15 w b n F) (hg : w.grownBy w' (some b)) : TabP w' := ⟨Nat.lt_of_lt_of_le h.1 hg.size, fun j hj => cell_kept (h.2 j hj) hg hM.hr⟩
theorem TabW.gr15 (h : TabW w) (hM : MpS15 w b n F) (hg : w.grownBy w' (some b)) : TabW w' := ⟨Nat.lt_of_lt_of_le h.1 hg.size, fun j hj => cell_kept (h.2 j hj) hg hM.hr⟩
end
theorem len15_some (pt : Int) : ∀ (l : List Int) {F : SpF15} {z : Int}, (z ∈ l ∨ ∃ t, F z = some t) → ∃ t, len15 pt F l z = some t
  | [], F, z, h => h.elim (fun h => by cases h) id
  | x :: l, F, z, h => by
    show ∃ t, len15 pt (upd15 F x (grow15 (F x) x pt)) l z = some t
    refine len15_some pt l ?_
    by_cases e : z = x
    · exact .inr ⟨_, by unfold upd15; rw [if_pos e]⟩
    · rcases h with h | ⟨t, h⟩
      · rcases List.mem_cons.1 h with h | h
        · exact absurd h e
        · exact .inl h
      · exact .inr ⟨t, by unfold upd15; rw [if_neg e]; exact h⟩
/-- What is there behind an instruction; what is kept across it. -/
def behS15 (x : InsV) (s : List Nat) : List Nat := if hasB4 x.op 68 = true then joinL [s, ofL [x.d]] else s
def acrS15 (x : InsV) (s : List Nat) : List Nat := if hasB4 x.op 68 = true then withoutL s [x.d] else s
def ins15 (x : InsV) (s : List Nat) (pt : Int) (F : SpF15) : SpF15 := if x.op = 19 then mrk15 (len15 pt F (listL (behS15 x s))) (listL (acrS15 x s)) else len15 pt F (listL (behS15 x s))
theorem behS15_ok {x : InsV} {s : List Nat} (h : SetOk s) : SetOk (behS15 x s) := by
  unfold behS15
  split
  · exact join_ok h (ofL_ok _)
  · exact h
theorem acrS15_ok {x : InsV} {s : List Nat} (h : SetOk s) : SetOk (acrS15 x s) := by
  unfold acrS15
  split
  · exact ⟨by have := withoutL_len s [x.d]; have := h.1; omega, withoutL_w64 h.2 _⟩
  · exact h
theorem acr_beh15 {x : InsV} {s : List Nat} (h : SetOk s) {z : Int} (hz : z ∈ listL (acrS15 x s)) : z ∈ listL (behS15 x s) := by
  rw [listL_mem] at hz ⊢
  obtain ⟨k, hk⟩ := List.getElem?_of_mem (listL_mem.2 hz)
  obtain ⟨m, rfl⟩ : ∃ m : Nat, z = (m : Int) := ⟨z.toNat, by have := (listL_at hk).2.1; omega⟩
  unfold acrS15 at hz
  unfold behS15
  split at hz
  · rename_i h68
    rw [if_pos h68, hasB_with]
    rw [hasB_without h.2] at hz
    simp only [Bool.and_eq_true] at hz
    rw [hz.1]
    rfl
  · rename_i h68
    rw [if_neg h68]
    exact hz
set_option maxHeartbeats 4000000 in
set_option maxRecDepth 100000 in
theorem ins_any15 (b n : Nat) (F : SpF15) (x : InsV) (va v : Value) (s : List Nat) (pt : Int) (w : World) (hM : MpS15 w b n F) (hx : InsI w (· < w.heap.size) va x) (hv : SetV w v s) (hk : SetOk s) (hT : TabP w) (hW : TabW w) (hn : n + 8192 < 1000000000) :
    Calls Tryd.prog 37 #[.map (some b), .agg #[.int .i64 x.op, .int .i64 x.d, .int .i64 x.a, .int .i64 x.b, .int .i64 x.n, .int .i64 x.m, va], v, .int .i64 pt] w fun e w' => e = .returned (.tuple #[]) ∧ MpS15 w' b (n + 8192) (ins15 x s pt F) ∧ w.grownBy w' (some b) := by
  have hop := hx.2.1
  have hdR : i64R x.d := hx.2.2.1
  obtain ⟨Ax, cx, rfl⟩ := hx.open'
  have HSE := hide (fun (W : World) (hW : Below w.heap.size w W) => sets_any x Ax x.args.length cx W (hT.below hW hT.1) hop)
  have HM := hide (fun (W : World) (hb : Below w.heap.size w W) => hM.below hb)
  have HTW := hide (fun (W : World) (hb : Below w.heap.size w W) => hW.below hb hW.1)
  have HVW := hide (fun (W : World) (hb : Below w.heap.size w W) => hv.below hb)
  have HLE := hide (fun (W : World) (hb : Below w.heap.size w W) (v : Value) (q : List Nat) (hq : SetOk q) (hv : SetV W v q) => lengthen_any b n F v q pt W (hM.below hb) hv hq (hW.below hb hW.1) (by omega))
  have HMK := hide (fun (W : World) (G : SpF15) (hMG : MpS15 W b (n + 4096) G) (v : Value) (q : List Nat) (hq : SetOk q) (hv : SetV W v q) (hT : TabW W) (hin : ∀ z ∈ listL q, ∃ t, G z = some t) => mark_any b (n + 4096) G v q W hMG hv hq hT (by omega) hin)
  have HBO := hide (behS15_ok (x := x) hk)
  have HAO := hide (acrS15_ok (x := x) hk)
  have HAB := hide (fun z (hz : z ∈ listL (acrS15 x s)) => len15_some pt (listL (behS15 x s)) (F := F) (.inl (acr_beh15 hk hz)))
  have HWI := hide (fun (W : World) (hb : Below w.heap.size w W) (T : Option Addr) (hr : Sl W W.heap.size .i64 T [x.d]) => withV (hv.below hb) (by have := hk.1; omega) hk.2 T 1 1 [x.d] hr rfl (by omega) (by intro z hz; simp at hz; subst hz; exact hdR))
  have HWO := hide (fun (W : World) (hb : Below w.heap.size w W) (T : Option Addr) (hr : Sl W W.heap.size .i64 T [x.d]) => withoutV (hv.below hb) (by have := hk.1; omega) hk.2 T 1 1 [x.d] hr rfl (by omega) (by intro z hz; simp at hz; subst hz; exact hdR))
  obtain ⟨Av, cv, rfl, -, -, -⟩ := hv
  unfold ins15
  unfold behS15 acrS15 at *
  clear hM hx hk hT hW hop hdR
  obtain ⟨op, xd, xa, xb, xn, xm, xs⟩ := x
  simp only at HSE HBO HAO HAB HWI HWO ⊢
  generalize xs.length = lx at *
  obtain ⟨w0, hw0⟩ := letr (w.alloc (.cells #[.int .i64 op, .int .i64 xd, .int .i64 xa, .int .i64 xb, .int .i64 xn, .int .i64 xm, .slice Ax lx cx] 28))
  obtain ⟨h5, hh5⟩ := letl w.heap.size
  have HX0 := lBox hw0 hh5
  have HB0 := lBel hw0
  cases h68 : hasB4 op 68 with
  | false =>
    rw [h68] at HSE HBO HAO HAB
    simp only [Bool.false_eq_true, if_false] at HSE HBO HAO HAB ⊢
    go_enter Tryd.func37, Tryd.ntmps37
    go_upto_region 1 with (fail)
    rw [← hw0]
    have HK5 := hide (fun (W : World) (hW : Below w0.heap.size w0 W) => And.intro ((HX0.out.below hW).cell 0 (v := .int .i64 op) rfl).1 (And.intro ((HX0.out.below hW).cell 1 (v := .int .i64 xd) rfl).1 (And.intro ((HX0.out.below hW).cell 2 (v := .int .i64 xa) rfl).1 (And.intro ((HX0.out.below hW).cell 3 (v := .int .i64 xb) rfl).1 (And.intro ((HX0.out.below hW).cell 4 (v := .int .i64 xn) rfl).1 (And.intro ((HX0.out.below hW).cell 5 (v := .int .i64 xm) rfl).1 (((HX0.out.below hW).cell 6 (v := .slice Ax lx cx) rfl).1)))))))
    have p0 := HK5.out w0 (Below.refl _ _)
    have l0 := HX0.out.lt
    clear hw0 hh5
    go_upto_region 3 with (go_at_call 33; (with_reducible refine (HSE.out w0 HB0.out).mono ?_); rintro e w1 ⟨rfl, hb1⟩; have HB1 := hide (HB0.out.trans (hb1.mono HB0.out.size)); have HX1 := hide (HX0.out.below hb1); clear hb1)
    clear p0 l0 HX0 HK5
    go_upto_region 6 with (go_at_call 39; (with_reducible refine (HLE.out w1 HB1.out _ s HBO.out (HVW.out w1 HB1.out)).mono ?_); rintro e w2 ⟨rfl, hm2, hg2⟩; have HM2 := hide hm2; have HG2 := hide hg2; clear hm2 hg2)
    have HV2 := hide (SetV.own (HVW.out w1 HB1.out) HG2.out (HM.out _ HB1.out).hr)
    have HXB := hide (Box.own (row := some b) HX1.out HG2.out (HM.out _ HB1.out).hr)
    have x0 := (HXB.out.cell 0 (v := .int .i64 op) rfl).1
    have lx0 := HXB.out.lt
    have HTJ := hide (TabW.gr15 (HTW.out _ HB1.out) (HM.out _ HB1.out) HG2.out)
    have HGA := hide (gr15_trans (gr15_below (b := b) HB1.out) HG2.out)
    by_cases h19 : op = 19
    · subst h19
      go_wp2_with (go_at_call 59; (with_reducible refine (HMK.out w2 _ HM2.out _ s HAO.out HV2.out HTJ.out HAB.out).mono ?_); rintro e w3 ⟨rfl, hm3, hg3⟩)
      go_end0
      exact ⟨rfl, by first | exact hm3 | (rw [if_pos rfl]; exact hm3), gr15_trans HGA.out hg3⟩
    · have h19b : (op == 19) = false := by simpa using h19
      go_wp2
      go_end0
      exact ⟨rfl, by first | exact HM2.out.mono (by omega) | (rw [if_neg h19]; exact HM2.out.mono (by omega)), HGA.out⟩
  | true =>
    rw [h68] at HSE HBO HAO HAB
    simp only [if_true] at HSE HBO HAO HAB ⊢
    go_enter Tryd.func37, Tryd.ntmps37
    go_upto_region 1 with (fail)
    rw [← hw0]
    have HK5 := hide (fun (W : World) (hW : Below w0.heap.size w0 W) => And.intro ((HX0.out.below hW).cell 0 (v := .int .i64 op) rfl).1 (And.intro ((HX0.out.below hW).cell 1 (v := .int .i64 xd) rfl).1 (And.intro ((HX0.out.below hW).cell 2 (v := .int .i64 xa) rfl).1 (And.intro ((HX0.out.below hW).cell 3 (v := .int .i64 xb) rfl).1 (And.intro ((HX0.out.below hW).cell 4 (v := .int .i64 xn) rfl).1 (And.intro ((HX0.out.below hW).cell 5 (v := .int .i64 xm) rfl).1 (((HX0.out.below hW).cell 6 (v := .slice Ax lx cx) rfl).1)))))))
    have p0 := HK5.out w0 (Below.refl _ _)
    have l0 := HX0.out.lt
    clear hw0 hh5
    go_upto_region 3 with (go_at_call 33; (with_reducible refine (HSE.out w0 HB0.out).mono ?_); rintro e w1 ⟨rfl, hb1⟩; have HB1 := hide (HB0.out.trans (hb1.mono HB0.out.size)); have HX1 := hide (HX0.out.below hb1); clear hb1)
    clear p0 l0 HX0 HK5
    obtain ⟨wa, hwa⟩ := letr (w1.alloc (.cells #[.int .i64 xd] 3))
    obtain ⟨ha, hha⟩ := letl w1.heap.size
    have HLA := hide (one_lit12 w1 xd)
    have HBA := hide (HB1.out.trans ((alloc1 w1 (.cells #[.int .i64 xd] 3)).mono HB1.out.size))
    have HXA := hide (HX1.out.below (alloc1 w1 (.cells #[.int .i64 xd] 3)))
    rw [← hwa] at HLA HBA HXA
    rw [hha] at HLA
    have HLB := hide (fun (W : World) => one_lit12 W xd)
    go_upto_region 5 with (first
      | (go_at_call 34; go_loud (rw [← hwc]; (with_reducible refine (HWO.out wc HBC.out _ HLC.out).mono ?_); rintro e w4 ⟨r4, rfl, hw4, hb4⟩; have HWN4 := hide hw4; have HB4 := hide (HBC.out.trans (hb4.mono HBC.out.size)); have HX4 := hide (HXC.out.below hb4); have HR4 := hide ((HR2.out.below (by rw [hwc]; exact alloc1 w2 _)).below hb4); clear hb4 hw4))
      | (go_at_call 35; (rw [← hwa]; (with_reducible refine (HWI.out wa HBA.out _ HLA.out).mono ?_); rintro e w2 ⟨r2, rfl, hw2, hb2⟩; have HR2 := hide hw2; have HB2 := hide (HBA.out.trans (hb2.mono HBA.out.size)); have HX2 := hide (HXA.out.below hb2); clear hb2 hw2; obtain ⟨wc, hwc⟩ := letr (w2.alloc (.cells #[.int .i64 xd] 3)); obtain ⟨hc, hhc⟩ := letl w2.heap.size; have HLC := hide (HLB.out w2); have HBC := hide (HB2.out.trans ((alloc1 w2 (.cells #[.int .i64 xd] 3)).mono HB2.out.size)); have HXC := hide (HX2.out.below (alloc1 w2 (.cells #[.int .i64 xd] 3))); rw [← hwc] at HLC HBC HXC; rw [hhc] at HLC)))
    go_upto_region 6 with (go_at_call 39; (with_reducible refine (HLE.out w4 HB4.out _ (joinL [s, ofL [xd]]) HBO.out HR4.out.ws).mono ?_); rintro e w5 ⟨rfl, hm5, hg5⟩; have HM5 := hide hm5; have HG5 := hide hg5; clear hm5 hg5)
    have HV5 := hide (SetV.own HWN4.out.ws HG5.out (HM.out _ HB4.out).hr)
    have HXB := hide (Box.own (row := some b) HX4.out HG5.out (HM.out _ HB4.out).hr)
    have x0 := (HXB.out.cell 0 (v := .int .i64 op) rfl).1
    have lx0 := HXB.out.lt
    have HTJ := hide (TabW.gr15 (HTW.out _ HB4.out) (HM.out _ HB4.out) HG5.out)
    have HGA := hide (gr15_trans (gr15_below (b := b) HB4.out) HG5.out)
    by_cases h19 : op = 19
    · subst h19
      go_wp2_with (go_at_call 59; (with_reducible refine (HMK.out w5 _ HM5.out _ (withoutL s [xd]) HAO.out HV5.out HTJ.out HAB.out).mono ?_); rintro e w6 ⟨rfl, hm6, hg6⟩)
      go_end0
      exact ⟨rfl, by first | exact hm6 | (rw [if_pos rfl]; exact hm6), gr15_trans HGA.out hg6⟩
    · have h19b : (op == 19) = false := by simpa using h19
      go_wp2
      go_end0
      exact ⟨rfl, by first | exact HM5.out.mono (by omega) | (rw [if_neg h19]; exact HM5.out.mono (by omega)), HGA.out⟩
end Go.Proofs.YteoopilmdlhkhaaDoor
