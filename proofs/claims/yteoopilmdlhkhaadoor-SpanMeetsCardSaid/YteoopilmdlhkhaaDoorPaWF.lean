/- Layer 15, the program: block. Conditions: the tables of parts and of the library read as listed. -/
import Derived.Test.YteoopilmdlhkhaaDoorPaWR
import Derived.Test.YteoopilmdlhkhaaDoorPaED
set_option linter.unusedSimpArgs false
set_option linter.unusedVariables false
namespace Go.Proofs.YteoopilmdlhkhaaDoor
open Go.RowKit Go.Shelf
attribute [local go_sem] Oper.semAt_some

theorem gr15_own {B : Nat} {b : Nat} {x y z : World} {row : Option Nat} (h : x.grownBy y (some b)) (hg : y.grownBy z row) (hr : ∀ r, row = some r → x.heap.size ≤ r) : x.grownBy z (some b) :=
  ⟨hg.os.trans h.os, hg.tape.trans h.tape, hg.output.trans h.output, Nat.le_trans h.size hg.size, fun i hi hn => (hg.block i (Nat.lt_of_lt_of_le hi h.size) (fun e => by have := hr i e.symm; omega)).trans (h.block i hi hn)⟩
theorem keeps15 {B b : Nat} {x y : World} (h : x.grownBy y (some b)) (hb : b < B) : KeepsFrom B x y := ⟨h.size, fun k o hBk hk _ => (h.block k (Array.getElem?_eq_some_iff.1 hk).1 (by simp; omega)).trans hk⟩
set_option maxRecDepth 100000 in
set_option maxHeartbeats 4000000 in
theorem block_any15 (vk vb vs : Value) (f : FunV) (bi : Nat) (ls : List InsV) (p0 : Int) (b n : Nat) (F : SpF15) (w : World) (B : Nat) (hB : B ≤ w.heap.size) (hbB : B ≤ b) (hi : FunI w (· < B) vk vb vs f) (hT : TabP w) (hTB : 0 < B) (hW : TabW w) (hWB : 1 < B) (hok : FlowOk f) (hl : f.blocks[bi]? = some ls) (hne : ∀ c, c < f.blocks.length → codeOf f c ≠ []) (hfew : ∀ l ∈ f.blocks, ∀ x ∈ l, x.args.length ≤ 1099511627000) (hk : f.kinds.length ≤ 1000) (hM : MpS15 w b n F) (hn : n + 16384 * ls.length < 1000000000) (hp0 : 0 ≤ p0) (hp1 : p0 ≤ 1000000) :
    Calls Tryd.prog 22 #[.map (some b), .agg #[vk, vb, .int .i64 f.params, .int .i64 f.result, vs], .int .i64 (bi : Int), .int .i64 p0] w fun e w' => e = .returned (.tuple #[]) ∧ ∃ t, EndS f bi t ∧ MpS15 w' b (n + 16384 * ls.length) (blk15 f p0 ((List.range ls.length).map (fun j => (j, ls.getD j ⟨0, 0, 0, 0, 0, 0, []⟩))).reverse (t, F)).2 ∧ w.grownBy w' (some b) := by
  have hb0 := hM.lt
  have hbi := (List.getElem?_eq_some_iff.1 hl).1
  have hlm := List.mem_of_getElem? hl
  have hll40 : ls.length ≤ 40 := hok.2.1 ls hlm
  have HOUT := hide (fun (W : World) (hWW : Below w.heap.size w W) => (out_anyL vk vb vs f (bi : Int) W B (by have := hWW.size; omega) (hi.keep (up hWW hB) (fun _ h => h)) (hT.below hWW hT.1) hok hne hfew).mono (R' := fun e w' => ∃ r t, e = .returned r ∧ EndS f bi t ∧ SetV w' r t ∧ Below W.heap.size W w') (fun e w' ⟨r, s, h1, h2, h3, h4⟩ => by
    refine ⟨r, s, h1, ?_, h3, h4⟩
    have hnl : 0 < ls.length := by
      have t := hne bi hbi
      unfold codeOf at t
      rw [hl] at t
      exact List.length_pos_iff.2 t
    unfold LvQ at h2
    rw [if_pos (by unfold hereB; rw [sizeN_nat hl]; simp; omega), sizeN_nat hl] at h2
    obtain ⟨t, ht, rfl⟩ := h2
    have e : (codeOf f (bi : Int).toNat).drop (((ls.length : Int) - 1).toNat + 1) = [] := by
      refine List.drop_eq_nil_of_le ?_
      unfold codeOf
      rw [Int.toNat_natCast, hl]
      simp
      omega
    rw [e]
    exact ht))
  have HEOK := hide (fun t (h : EndS f bi t) => EndS.ok hok h)
  have HCL := hide (fun (W : World) (hWW : Below B w W) (v : Value) (s : List Nat) (hv : SetV W v s) (hs : SetOk s) => close_any vk vb vs f v s W B (by have := hWW.size; omega) (hi.keep (fun b o hb => hWW.cell (p := ⟨b, o, none⟩) hb) (fun _ h => h)) hk hv (by have := hs.1; omega) hs.2)
  have HTW := hide (fun (W : World) (hWW : Below B w W) => (show TabP W ∧ TabW W from ⟨hT.below hWW hTB, hW.below hWW hWB⟩))
  obtain ⟨Ak, ck, rfl, hck, hmk⟩ := hi.1.open'
  obtain ⟨Ab, cb, rfl, hcb, hmb⟩ := hi.2.1.open'
  obtain ⟨As, cs, rfl, hcs, hms⟩ := hi.2.2.1.open'
  obtain ⟨bb, ob, Al, cl, hAs, hbb, d0, hli⟩ := hi.2.2.1.get hl
  subst hAs
  have HM := hide hM
  have HI := hide hli
  have hbbw : bb < w.heap.size := by omega
  have hlu : ∀ x ∈ ls, x.args.length ≤ 1099511627000 := hfew ls hlm
  obtain ⟨len, hlen⟩ := letl ls.length
  have HLEN := hide hlen
  have hlc : len ≤ cl := by
    obtain ⟨A', c', e, h1, -⟩ := hli
    injection e with _ _ e3
    omega
  rw [hlen] at d0 HI hn hll40 ⊢
  obtain ⟨nls, hnls⟩ := letl f.blocks.length
  rw [hnls] at HOUT HCL hbi hcs
  rw [hnls]
  have HCLO := hide (fun s => closeL_ok f s)
  clear hM hli hi hT hW hnls hl hlm hne hfew hk hok hlen
  obtain ⟨cl0, hcl0⟩ := letl (closeL f)
  obtain ⟨EP, hEP⟩ := letl (EndS f bi)
  rw [hEP] at HOUT HEOK ⊢
  rw [hcl0] at HCL HCLO
  have HB15 := hide (show ∀ (l : List (Nat × InsV)) (x : Nat × InsV) (a : List Nat × SpF15), blk15 f p0 (l ++ [x]) a = (insS x.2 (blk15 f p0 l a).1, len15 (p0 + 2 * (x.1 : Int)) (ins15 x.2 (cl0 (blk15 f p0 l a).1) (p0 + 2 * (x.1 : Int) + 1) (blk15 f p0 l a).2) (listL (cl0 (insS x.2 (blk15 f p0 l a).1)))) from fun l x a => by
    rw [blk15_snoc, ← hcl0]
    rfl)
  have HBOK := hide (fun (l : List (Nat × InsV)) (a : List Nat × SpF15) (h : SetOk a.1) => blk15_ok f p0 l h)
  have HB0 := hide (show ∀ a : List Nat × SpF15, blk15 f p0 [] a = a from fun a => rfl)
  obtain ⟨BL, hBL⟩ := letl (blk15 f p0)
  rw [hBL] at HB15 HBOK HB0 ⊢
  clear hcl0 hEP hBL
  generalize f.kinds.length = lk, f.base.length = lb, f.params = fp, f.result = fr at *
  obtain ⟨W3, hW3⟩ : ∃ W3, ((w.alloc (.cells #[.map (some b)] 49)).alloc (.cells #[.slice Ak lk ck, .slice Ab lb cb, .int .i64 fp, .int .i64 fr, .slice (some ⟨bb, ob, none⟩) nls cs] 34)).alloc (.cells #[.int .i64 p0] 3) = W3 := ⟨_, rfl⟩
  have hz3 : W3.heap.size = w.heap.size + 3 := by rw [← hW3]; simp
  have HB3 := hide (show Below w.heap.size w W3 from by rw [← hW3]; exact (((Below.refl _ w).alloc (Nat.le_refl _) _).alloc (by simp) _).alloc (by simp; omega) _)
  have X4 := hide (show Box W3 w.heap.size #[.map (some b)] 49 from by rw [← hW3]; exact ((Box.new w _ _).alloc _).alloc _)
  have X5 := hide (show Box W3 (w.heap.size + 1) #[.slice Ak lk ck, .slice Ab lb cb, .int .i64 fp, .int .i64 fr, .slice (some ⟨bb, ob, none⟩) nls cs] 34 from by
    rw [← hW3]
    have t := Box.new (w.alloc (.cells #[.map (some b)] 49)) #[.slice Ak lk ck, .slice Ab lb cb, .int .i64 fp, .int .i64 fr, .slice (some ⟨bb, ob, none⟩) nls cs] 34
    rw [World.size_alloc] at t
    exact t.alloc _)
  have X7 := hide (show Box W3 (w.heap.size + 1 + 1) #[.int .i64 p0] 3 from by
    rw [← hW3]
    have t := Box.new ((w.alloc (.cells #[.map (some b)] 49)).alloc (.cells #[.slice Ak lk ck, .slice Ab lb cb, .int .i64 fp, .int .i64 fr, .slice (some ⟨bb, ob, none⟩) nls cs] 34)) #[.int .i64 p0] 3
    rw [World.size_alloc, World.size_alloc] at t
    exact t)
  have HC5 := hide (fun (V : World) (hV : Below W3.heap.size W3 V) => And.intro ((X5.out.below hV).cell 0 (v := .slice Ak lk ck) rfl).1 (And.intro ((X5.out.below hV).cell 1 (v := .slice Ab lb cb) rfl).1 (And.intro ((X5.out.below hV).cell 2 (v := .int .i64 fp) rfl).1 (And.intro ((X5.out.below hV).cell 3 (v := .int .i64 fr) rfl).1 (((X5.out.below hV).cell 4 (v := .slice (some ⟨bb, ob, none⟩) nls cs) rfl).1)))))
  have p3 := HC5.out W3 (Below.refl _ _)
  have l5 := X5.out.lt
  refine (callsIn_wide (n := 9)).1 ?_
  refine callsIn_of_wp_marks Tryd.func22 rfl trivial ?_ rfl
  simp only [Tryd.ntmps22, List.size_toArray, List.length_cons, List.length_nil, Nat.reduceAdd, Nat.reduceSub, Array.replicate_succ, Array.replicate_zero, List.push_toArray, List.append_toArray, List.nil_append, List.cons_append]
  gi_wp2_with (first
    | (refine ⟨trivial, ?_⟩; gi_at_call 31; (try rw [hW3]); refine (callsIn_wide.2 (HOUT.out W3 HB3.out)).mono ?_; rintro e W4 ⟨r4, t, rfl, hE, hv4, hb4⟩; obtain ⟨Av, cv, rfl, hv1, hv2, hv3⟩ := id hv4; have HE := hide hE; have HV4 := hide hv4; have HB4 := hide hb4; have q4 := HC5.out W4 hb4; have l54 := Nat.lt_of_lt_of_le l5 hb4.size; have e0 := ((HB3.out.trans (hb4.mono HB3.out.size)).cell (p := ⟨bb, ob + bi, none⟩) hbbw).trans d0; have lbb := Nat.lt_of_lt_of_le hbbw (Nat.le_trans HB3.out.size hb4.size); clear hv4 hE hb4 p3 hv1 hv2 hv3)
    | (refine ⟨trivial, ?_⟩; gi_at_call 32; refine (callsIn_wide.2 (backward_any _ _ _ _)).mono ?_; rintro e w' ⟨rfl, rfl⟩))
  obtain ⟨h8, hh8⟩ := letl W4.heap.size
  have hS8 : W3.heap.size ≤ h8 := by rw [← hh8]; exact HB4.out.size
  have HB34 := hide (HB3.out.trans (HB4.out.mono HB3.out.size))
  obtain ⟨v8, hv8⟩ := letl (Value.slice Av t.length cv)
  have HVS := hide (show ∃ A n c, v8 = .slice A n c from ⟨_, _, _, hv8.symm⟩)
  rw [hv8] at HV4 ⊢
  obtain ⟨W0, hW0⟩ : ∃ W0, (W4.alloc (.cells #[v8] 39)).alloc (.cells #[.slice Al len cl] 29) = W0 := ⟨_, rfl⟩
  have hz0 : W0.heap.size = h8 + 1 + 1 := by rw [← hW0, ← hh8]; simp
  have HB40 := hide (show Below W4.heap.size W4 W0 from by rw [← hW0]; exact (((Below.refl _ W4).alloc (Nat.le_refl _) _).alloc (by simp) _))
  have HB0W := hide (HB34.out.trans (HB40.out.mono HB34.out.size))
  have B8 : Boxed W0 h8 39 v8 := by rw [← hW0, ← hh8]; exact (Boxed.new W4 _ _).alloc _
  have BS : Boxed W0 (h8 + 1) 29 (.slice Al len cl) := by
    rw [← hW0, ← hh8]
    have q := Boxed.new (W4.alloc (.cells #[v8] 39)) 29 (.slice Al len cl)
    rw [World.size_alloc] at q
    exact q
  have Y4 := hide ((X4.out.below HB4.out).below HB40.out)
  have Y5 := hide ((X5.out.below HB4.out).below HB40.out)
  have Y7 := hide ((X7.out.below HB4.out).below HB40.out)
  have HV0 := hide (HV4.out.below HB40.out)
  have HM0 := hide (HM.out.below HB0W.out)
  have hls0 : InssV W0 (· < B) (.slice Al len cl) ls := HI.out.keep (fun b o hb => HB0W.out.cell (p := ⟨b, o, none⟩) (Nat.lt_of_lt_of_le hb hB)) (fun _ h => h)
  (try simp only [World.size_alloc])
  (try rw [hh8])
  (try rw [hW0])
  refine wpIn_rangeFunc_ownH rfl (by omega) (gf := 54) (lb := #[.pointer (some ⟨h8 + 1, 0, none⟩)]) rfl trivial (enters_of Tryd.func54 (by kernel_rfl) rfl)
    (back_stops15 (9 - 1) (h8 + 1) B W0 Al len cl ls hls0 HLEN.out hlu (by omega) (by have := HB0W.out.size; omega) (by omega) BS) KpB.t (KpB.b (by have := HB0W.out.size; omega) (by omega)) (Below.refl _ _) (fun _ => rfl)
    (fun pre W => ((∃ v, Boxed W h8 39 v ∧ (∃ A n c, v = .slice A n c) ∧ SetV W v (BL (bkP15 pre) (t, F)).1) ∧ Boxed W (h8 + 1) 29 (.slice Al len cl) ∧ Box W w.heap.size #[.map (some b)] 49 ∧ Box W (w.heap.size + 1) #[.slice Ak lk ck, .slice Ab lb cb, .int .i64 fp, .int .i64 fr, .slice (some ⟨bb, ob, none⟩) nls cs] 34 ∧ Box W (w.heap.size + 1 + 1) #[.int .i64 p0] 3) ∧ (MpS15 W b (n + 16384 * pre.length) (BL (bkP15 pre) (t, F)).2 ∧ w.grownBy W (some b)))
    (fun _ _ _ => False)
    (OwnFrom.and (Own.from (fun pre X Y row k hg hr => by
        obtain ⟨⟨v, k1, k2, k3⟩, k4, k5, k6, k7⟩ := k
        exact ⟨⟨v, Box.own (cs := #[v]) k1 hg hr, k2, k3.own hg hr⟩, Box.own (cs := #[.slice Al len cl]) k4 hg hr, k5.own hg hr, k6.own hg hr, k7.own hg hr⟩) _) (fun pre X Y row k hg hr => ⟨k.1.kept (hg.block b k.1.lt (fun e => by have := (hr b e.symm).1; have := HB0W.out.size; omega)), gr15_own (B := B) k.2 hg (fun r e => by have := (hr r e).1; have := HB0W.out.size; omega)⟩))
    (fun _ _ _ _ _ hs _ _ => hs)
    ⟨⟨⟨v8, B8, HVS.out, by rw [show bkP15 (ls := ls) (w := W0) (B := B) [] = [] from rfl, HB0.out]; exact HV0.out⟩, BS, Y4.out, Y5.out, Y7.out⟩, by rw [show bkP15 (ls := ls) (w := W0) (B := B) [] = [] from rfl, HB0.out]; exact HM0.out, gr15_below HB0W.out⟩
    (fun x a' W => ∃ Bx, h8 + 1 < Bx ∧ Box W Bx #[.int .i64 x.1.2.1.op, .int .i64 x.1.2.1.d, .int .i64 x.1.2.1.a, .int .i64 x.1.2.1.b, .int .i64 x.1.2.1.n, .int .i64 x.1.2.1.m, x.1.2.2] 28 ∧ a' = { tmps := #[.map (some b), .agg #[.slice Ak lk ck, .slice Ab lb cb, .int .i64 fp, .int .i64 fr, .slice (some ⟨bb, ob, none⟩) nls cs], .int .i64 (bi : Int), .int .i64 p0, .pointer (some ⟨w.heap.size, 0, none⟩), .pointer (some ⟨w.heap.size + 1, 0, none⟩), undef, .pointer (some ⟨w.heap.size + 1 + 1, 0, none⟩), .pointer (some ⟨h8, 0, none⟩), .int .i64 ((x.1.1 : Nat) : Int), .pointer (some ⟨Bx, 0, none⟩), undef, undef, undef, .agg #[.slice Ak lk ck, .slice Ab lb cb, .int .i64 fp, .int .i64 fr, .slice (some ⟨bb, ob, none⟩) nls cs], .int .i64 (bi : Int), v8, .pointer (some ⟨w.heap.size + 1, 4, none⟩), .slice (some ⟨bb, ob, none⟩) nls cs, .int .i64 (bi : Int), .pointer (some ⟨bb, ob + bi, none⟩), .pointer (some ⟨bb, ob + bi, none⟩), .slice Al len cl, .func (.func 54) #[] #[.pointer (some ⟨h8 + 1, 0, none⟩)], .int .i64 ((x.1.1 : Nat) : Int), .agg #[.int .i64 x.1.2.1.op, .int .i64 x.1.2.1.d, .int .i64 x.1.2.1.a, .int .i64 x.1.2.1.b, .int .i64 x.1.2.1.n, .int .i64 x.1.2.1.m, x.1.2.2], undef, undef, undef, undef, undef, undef, undef, undef, undef, undef, undef, undef, undef, undef, undef, undef, undef, undef, undef, undef, undef, undef, undef, undef, undef, undef, undef, undef, undef, undef, undef, undef, undef, undef, undef, undef], defers := [] })
    (fun x a' _ X Y row hs hg hr => by obtain ⟨Bx, h1, h2, h3⟩ := hs; exact ⟨Bx, h1, h2.own hg (fun r e => (hr r e).2), h3⟩)
    ?assign ?body ?done ?stop
  case assign =>
    rintro l pre ⟨⟨z, x, va⟩, hxl, hx, hxu⟩ W K ⟨⟨⟨v, k1, k2, k3⟩, k4, k5, k6, k7⟩, k8, k9⟩ hK
    have hx' : InsI W0 (· < B) va x := hx
    obtain ⟨Ax, cx, rfl⟩ := hx'.open'
    have hsz := k9.size
    dsimp only [bkE15]
    gi_wp2
    exact hK _ _ ((KeepsOthers.alloc _ _).from _) (KpB.below (alloc1 W _) (by omega)) ⟨⟨⟨v, k1.alloc _, k2, k3.below (alloc1 W _)⟩, k4.alloc _, k5.alloc _, k6.alloc _, k7.alloc _⟩, k8.below (alloc1 W _), gr15_alloc k9 _⟩ ⟨W.heap.size, k4.lt, Box.new W _ _, rfl⟩
  case done =>
    rintro D ys W hD hys ⟨⟨⟨v, k1, k2, k3⟩, k4, k5, k6, k7⟩, k8, k9⟩ hK
    rw [pairs15 hys] at k8
    gi_wp2
    refine ⟨by simp, .inl ⟨_, _, rfl, run_takeDeferred hK, ?_⟩⟩
    have hys2 : ys.length = len := by
      have q := congrArg List.length hys
      simpa [bkN15] using q
    rw [hys2] at k8
    have hgP := grownBy_putObj' W D (.deferred none)
    have hDb : w.heap.size ≤ D := by have := HB0W.out.size; omega
    refine ⟨_, results_none rfl _ _ _, rfl, t, HE.out, ?_, gr15_own (B := B) k9 hgP (fun r e => by cases e; exact hDb)⟩
    exact k8.kept (hgP.block b k8.lt (fun e => by injection e with e; omega))
  case stop =>
    rintro D c pre W _ _ h _
    exact h.elim
  case body =>
    rintro l pre ⟨⟨z, x, va⟩, hxl, hx, hxu⟩ a' W hl ⟨r, hr⟩ ⟨⟨⟨v, k1, k2, k3⟩, k4, k5, k6, k7⟩, k8, k9⟩ ⟨Bx, hBx, bX, rfl⟩ hlt
    have hmx : Tryd.prog.follows .mixedOrders = true := by kernel_rfl
    have hx' : InsI W0 (· < B) va x := hx
    obtain ⟨Ax, cx, rfl⟩ := hx'.open'
    dsimp only at bX ⊢
    have hxu' : x.args.length ≤ 1099511627000 := hxu
    have HX0 := hide (show ls[z]? = some x from hxl)
    have hsW := k9.size
    have hzl : z < len := by have := HLEN.out; have := (List.getElem?_eq_some_iff.1 HX0.out).1; omega
    have HSN := hide (HB15.out (bkP15 pre) (z, x) (t, F))
    have HPS := hide (show bkP15 (pre ++ [(⟨⟨z, x, .slice Ax x.args.length cx⟩, hxl, hx, hxu⟩ : BkT15 ls W0 B)]) = bkP15 pre ++ [(z, x)] from by simp [bkP15])
    have HSK := hide (HBOK.out (bkP15 pre) (t, F) (HEOK.out t HE.out))
    obtain ⟨⟨S0, F0⟩, hSF⟩ := letl (BL (bkP15 pre) (t, F))
    rw [hSF] at k3 k8 HSN HSK
    simp only at k3 k8 HSN HSK
    clear hSF
    obtain ⟨np, hnp⟩ := letl pre.length
    have HNP := hide hnp
    rw [hnp] at k8 hlt
    have HW5 := hide (show Below B w W from gr15_to k9 hbB (by omega))
    have HXI := hide (fun (V : World) (hV : Below B w V) => hx'.keep (w' := V) (S' := (· < B)) (fun b o hb => (hV.cell (p := ⟨b, o, none⟩) hb).trans ((HB0W.out.mono hB).cell (p := ⟨b, o, none⟩) hb).symm) (fun _ h => h))
    have hdR : i64R x.d := hx'.2.2.1
    have huR : ∀ z ∈ usesL x, i64R z := uses_R (HXI.out w (Below.refl _ _))
    have hul : (usesL x).length ≤ 1099511627776 := by have := usesL_len x; omega
    have HSE := hide (sets_any x Ax x.args.length cx W (HTW.out W HW5.out).1 hx'.2.1)
    have HUS := hide (fun (V : World) (hV : Below B w V) => uses_any x (.slice Ax x.args.length cx) V B (by have := hV.size; omega) (HTW.out V hV).1 (HXI.out V hV) hxu')
    have HIN := hide (fun (V : World) (hV : Below W.heap.size W V) (r1 : Value) (K1 : List Nat) (hK1 : SetOk K1) (hr1 : SetV V r1 K1) => (show Calls Tryd.prog 37 #[.map (some b), .agg #[.int .i64 x.op, .int .i64 x.d, .int .i64 x.a, .int .i64 x.b, .int .i64 x.n, .int .i64 x.m, .slice Ax x.args.length cx], r1, .int .i64 (p0 + 2 * (z : Int) + 1)] V fun e w' => e = .returned (.tuple #[]) ∧ MpS15 w' b (n + 16384 * np + 8192) (ins15 x K1 (p0 + 2 * (z : Int) + 1) F0) ∧ V.grownBy w' (some b) from by
      have hVB : Below B w V := HW5.out.trans (hV.mono (by omega))
      exact ins_any15 b (n + 16384 * np) F0 x _ r1 K1 _ V (k8.below hV) ((HXI.out V hVB).keep (w' := V) (fun _ _ _ => rfl) (fun b hb => Nat.lt_of_lt_of_le hb (by have := hVB.size; omega))) hr1 hK1 (HTW.out V hVB).1 (HTW.out V hVB).2 (by have := HNP.out; omega)))
    have HLE := hide (fun (V : World) (G : SpF15) (hMG : MpS15 V b (n + 16384 * np + 8192) G) (hV : Below B w V) (r1 : Value) (K1 : List Nat) (hK1 : SetOk K1) (hr1 : SetV V r1 K1) => lengthen_any b (n + 16384 * np + 8192) G r1 K1 (p0 + 2 * (z : Int)) V hMG hr1 hK1 (HTW.out V hV).2 (by omega))
    obtain ⟨av, nv, cv2, rfl⟩ := k2
    have HWO := hide (fun (V : World) (hV : Below W.heap.size W V) (T : Option Addr) (hr : Sl V V.heap.size .i64 T [x.d]) => withoutV (k3.below hV) (by have := HSK.out.1; omega) HSK.out.2 T 1 1 [x.d] hr rfl (by omega) (by intro z hz; simp at hz; subst hz; exact hdR))
    have HWI := hide (fun (q : List Nat) (hq : SetOk q) (V : World) (v : Value) (hv : SetV V v q) (A4 : Option Addr) (c4 : Nat) (h4 : Sl V V.heap.size .i64 A4 (usesL x)) => withV hv (by have := hq.1; omega) hq.2 A4 (usesL x).length c4 (usesL x) h4 rfl hul huR)
    have hok1 : SetOk (withoutL S0 [x.d]) := ⟨by have := withoutL_len S0 [x.d]; have := HSK.out.1; omega, withoutL_w64 HSK.out.2 _⟩
    have HIS := hide (show SetOk (insS x S0) from insS_ok HSK.out)
    have HISE := hide (show insS x S0 = joinL [if hasB4 x.op 68 = true then withoutL S0 [x.d] else S0, ofL (usesL x)] from rfl)
    have HKS := hide (fun (V : World) (hV : Below W.heap.size W V) => And.intro ((k5.below hV).cell 0 (v := .map (some b)) rfl).1 (And.intro ((bX.below hV).cell 0 (v := .int .i64 x.op) rfl).1 (And.intro ((bX.below hV).cell 1 (v := .int .i64 x.d) rfl).1 (And.intro ((bX.below hV).cell 2 (v := .int .i64 x.a) rfl).1 (And.intro ((bX.below hV).cell 3 (v := .int .i64 x.b) rfl).1 (And.intro ((bX.below hV).cell 4 (v := .int .i64 x.n) rfl).1 (And.intro ((bX.below hV).cell 5 (v := .int .i64 x.m) rfl).1 (And.intro ((bX.below hV).cell 6 (v := .slice Ax x.args.length cx) rfl).1 (And.intro ((k6.below hV).cell 0 (v := .slice Ak lk ck) rfl).1 (And.intro ((k6.below hV).cell 1 (v := .slice Ab lb cb) rfl).1 (And.intro ((k6.below hV).cell 2 (v := .int .i64 fp) rfl).1 (And.intro ((k6.below hV).cell 3 (v := .int .i64 fr) rfl).1 (And.intro ((k6.below hV).cell 4 (v := .slice (some ⟨bb, ob, none⟩) nls cs) rfl).1 (And.intro (Box.cell (cs := #[.slice av nv cv2]) (Box.below k1 hV) 0 rfl).1 (((k7.below hV).cell 0 (v := .int .i64 p0) rfl).1)))))))))))))))
    obtain ⟨u0, u1⟩ := (Box.cell (cs := #[.slice av nv cv2]) k1 0 rfl)
    have c0 := HKS.out W (Below.refl _ _)
    have hw1 : IntKind.i64.wrap (2 * (z : Int)) = 2 * (z : Int) := IntWalk.i64_in _ ⟨by omega, by omega⟩
    have hw2 : IntKind.i64.wrap (p0 + 2 * (z : Int)) = p0 + 2 * (z : Int) := IntWalk.i64_in _ ⟨by omega, by omega⟩
    have hw3 : IntKind.i64.wrap (p0 + 2 * (z : Int) + 1) = p0 + 2 * (z : Int) + 1 := IntWalk.i64_in _ ⟨by omega, by omega⟩
    generalize usesL x = ul at *
    cases h68 : hasB4 x.op 68 with
    | false =>
      rw [h68] at HSE HISE
      simp only [Bool.false_eq_true, if_false] at HSE HISE
      gi_wp2_with (first
        | (refine ⟨trivial, ?_⟩; gi_at_call 35; refine (CallsIn.inRound l (callsIn_wide.2 (HWI.out S0 HSK.out w4 _ HSV4.out A4 c4' HS4.out))).mono ?_; rintro e w5 ⟨r5, rfl, hr5, hb5⟩; have HR5 := hide (show SetV w5 r5 (insS x S0) from by rw [HISE.out]; exact hr5.ws); have HB5 := hide (HB4.out.trans (hb5.mono HB4.out.size)); clear hb5 hr5)
        | (refine ⟨trivial, ?_⟩; gi_at_call 36; refine (CallsIn.inRound l (callsIn_wide.2 (HUS.out w2 (HW5.out.trans (HB2.out.mono (by omega)))))).mono ?_; rintro e w4 ⟨v4, rfl, ho4, hb4'⟩; obtain ⟨A4, c4', rfl, hn4, hm4', hs4⟩ := ho4.sl; have HB4 := hide (HB2.out.trans (hb4'.mono HB2.out.size)); have HS4 := hide hs4; have HSV4 := hide (k3.below HB4.out); clear hb4' ho4 hs4 hn4 hm4')
        | (refine ⟨trivial, ?_⟩; gi_at_call 33; refine (CallsIn.inRound l (callsIn_wide.2 HSE.out)).mono ?_; rintro e w2 ⟨rfl, hb2⟩; have HB2 := hide hb2; have c2 := HKS.out w2 hb2; clear hb2))
      obtain ⟨w51, hw51⟩ := letr w5.drew
      have HD51 := hide (show Below w5.heap.size w5 w51 from by rw [hw51]; exact (Below.refl _ _).drew)
      have HB51 := hide (HB5.out.trans (HD51.out.mono HB5.out.size))
      have HWB51 := hide (HW5.out.trans (HB51.out.mono (by omega)))
      have HV51 := hide (k3.below HB51.out)
      have HQ51 := hide (show w5.drew.cell? ⟨w.heap.size, 0, none⟩ = some (.map (some b)) ∧ w5.drew.cell? ⟨Bx, 0, none⟩ = some (.int .i64 x.op) ∧ w5.drew.cell? ⟨Bx, 1, none⟩ = some (.int .i64 x.d) ∧ w5.drew.cell? ⟨Bx, 2, none⟩ = some (.int .i64 x.a) ∧ w5.drew.cell? ⟨Bx, 3, none⟩ = some (.int .i64 x.b) ∧ w5.drew.cell? ⟨Bx, 4, none⟩ = some (.int .i64 x.n) ∧ w5.drew.cell? ⟨Bx, 5, none⟩ = some (.int .i64 x.m) ∧ w5.drew.cell? ⟨Bx, 6, none⟩ = some (.slice Ax x.args.length cx) ∧ w5.drew.cell? ⟨w.heap.size + 1, 0, none⟩ = some (.slice Ak lk ck) ∧ w5.drew.cell? ⟨w.heap.size + 1, 1, none⟩ = some (.slice Ab lb cb) ∧ w5.drew.cell? ⟨w.heap.size + 1, 2, none⟩ = some (.int .i64 fp) ∧ w5.drew.cell? ⟨w.heap.size + 1, 3, none⟩ = some (.int .i64 fr) ∧ w5.drew.cell? ⟨w.heap.size + 1, 4, none⟩ = some (.slice (some ⟨bb, ob, none⟩) nls cs) ∧ w5.drew.cell? ⟨h8, 0, none⟩ = some (.slice av nv cv2) ∧ w5.drew.cell? ⟨w.heap.size + 1 + 1, 0, none⟩ = some (.int .i64 p0) from by rw [← hw51]; exact HKS.out w51 HB51.out)
      refine wpIn_region15 (fun w' => w'.cell? ⟨w.heap.size, 0, none⟩ = some (.map (some b)) ∧ w'.cell? ⟨Bx, 0, none⟩ = some (.int .i64 x.op) ∧ w'.cell? ⟨Bx, 1, none⟩ = some (.int .i64 x.d) ∧ w'.cell? ⟨Bx, 2, none⟩ = some (.int .i64 x.a) ∧ w'.cell? ⟨Bx, 3, none⟩ = some (.int .i64 x.b) ∧ w'.cell? ⟨Bx, 4, none⟩ = some (.int .i64 x.n) ∧ w'.cell? ⟨Bx, 5, none⟩ = some (.int .i64 x.m) ∧ w'.cell? ⟨Bx, 6, none⟩ = some (.slice Ax x.args.length cx) ∧ w'.cell? ⟨w.heap.size + 1, 0, none⟩ = some (.slice Ak lk ck) ∧ w'.cell? ⟨w.heap.size + 1, 1, none⟩ = some (.slice Ab lb cb) ∧ w'.cell? ⟨w.heap.size + 1, 2, none⟩ = some (.int .i64 fp) ∧ w'.cell? ⟨w.heap.size + 1, 3, none⟩ = some (.int .i64 fr) ∧ w'.cell? ⟨w.heap.size + 1, 4, none⟩ = some (.slice (some ⟨bb, ob, none⟩) nls cs) ∧ w'.cell? ⟨h8, 0, none⟩ = some (.slice av nv cv2) ∧ w'.cell? ⟨w.heap.size + 1 + 1, 0, none⟩ = some (.int .i64 p0)) 10 (by kernel_rfl) (by kernel_rfl) HQ51.out ?_
      rw [← hw51]
      have hSd := HKS.out w51 HB51.out
      clear hw51
      refine tilM 6 (Or.inr hSd) ?_
      refine tilM 7 (Or.inr hSd) ?_
      refine tilT 0 hSd ?_
      refine tilT 1 hSd ?_
      refine tilD 2 [10, 4] hSd ?_
      refine tilD 3 [10, 4] hSd ?_
      refine tilD 5 [10, 9, 8] hSd ?_
      refine tilM 8 (Or.inr hSd) ?_
      refine tilM 9 (Or.inr hSd) ?_
      refine wpTil_ready (rs := [4]) (by kernel_rfl) (by simp) ?_
      refine AllTil.cons rfl (fun K hK => ?_) ?_
      · skip
        rw [if_pos (by rfl)]
        go_simp
        go_at_call 38
        (with_reducible refine (HCL.out w51 HWB51.out _ S0 HV51.out HSK.out).mono ?_)
        rintro e w6 ⟨r6, rfl, hr6, hb6⟩
        have HB6 := hide (HB51.out.trans (hb6.mono HB51.out.size))
        have HB56 := hide (HD51.out.trans (hb6.mono HD51.out.size))
        have HR6 := hide hr6.ws
        clear hr6 hb6
        refine hK.out _ _ (HKS.out w6 HB6.out) ?_
        clear hK K
        try clear hSd
        have hSd := HKS.out w6 HB6.out
        try simp only [tilS, Act.put]
        refine wpTil_ready (rs := [10]) (by kernel_rfl) (by simp) ?_
        refine AllTil.last rfl (by rfl) (fun K hK => ?_)
        rw [if_pos (by rfl)]
        go_simp
        go_at_call 37
        (with_reducible refine (HIN.out w6 HB6.out r6 (cl0 S0) (HCLO.out S0) HR6.out).mono ?_)
        rintro e w7 ⟨rfl, hm7, hg7⟩
        have HM7 := hide hm7
        have HG7 := hide hg7
        clear hm7 hg7
        refine hK.out _ _ ?_
        clear hK K hSd
        try simp only [tilS, Act.put]
        refine wpTil_done (by kernel_rfl) ?_ _
        unfold onlyN15
        have HHR6 := hide ((k8.below HB6.out).hr)
        have D4 := hide (Box.own (row := some b) (k5.below HB6.out) HG7.out HHR6.out)
        have DX := hide (Box.own (row := some b) (bX.below HB6.out) HG7.out HHR6.out)
        have D5 := hide (Box.own (row := some b) (k6.below HB6.out) HG7.out HHR6.out)
        have D7 := hide (Box.own (row := some b) (k7.below HB6.out) HG7.out HHR6.out)
        have D8 := hide (Box.own (row := some b) (Box.below (cs := #[.slice av nv cv2]) k1 HB6.out) HG7.out HHR6.out)
        have DS := hide (Box.own (row := some b) (Box.below (cs := #[.slice Al len cl]) k4 HB6.out) HG7.out HHR6.out)
        have HR7 := hide (SetV.own (HR5.out.below HB56.out) HG7.out HHR6.out)
        have HGW7 := hide (gr15_trans (gr15_below (b := b) HB6.out) HG7.out)
        have HWB7 := hide (gr15_to (gr15_trans k9 HGW7.out) hbB hB)
        have HKT := hide (fun (V : World) (hV : Below w7.heap.size w7 V) => And.intro ((D4.out.below hV).cell 0 (v := .map (some b)) rfl).1 (And.intro ((DX.out.below hV).cell 0 (v := .int .i64 x.op) rfl).1 (And.intro ((DX.out.below hV).cell 1 (v := .int .i64 x.d) rfl).1 (And.intro ((DX.out.below hV).cell 2 (v := .int .i64 x.a) rfl).1 (And.intro ((DX.out.below hV).cell 3 (v := .int .i64 x.b) rfl).1 (And.intro ((DX.out.below hV).cell 4 (v := .int .i64 x.n) rfl).1 (And.intro ((DX.out.below hV).cell 5 (v := .int .i64 x.m) rfl).1 (And.intro ((DX.out.below hV).cell 6 (v := .slice Ax x.args.length cx) rfl).1 (And.intro ((D5.out.below hV).cell 0 (v := .slice Ak lk ck) rfl).1 (And.intro ((D5.out.below hV).cell 1 (v := .slice Ab lb cb) rfl).1 (And.intro ((D5.out.below hV).cell 2 (v := .int .i64 fp) rfl).1 (And.intro ((D5.out.below hV).cell 3 (v := .int .i64 fr) rfl).1 (And.intro ((D5.out.below hV).cell 4 (v := .slice (some ⟨bb, ob, none⟩) nls cs) rfl).1 (And.intro (Box.cell (cs := #[.slice av nv cv2]) (Box.below D8.out hV) 0 rfl).1 (((D7.out.below hV).cell 0 (v := .int .i64 p0) rfl).1)))))))))))))))
        have hw7z := HWB7.out.size
        gi_wp2
        obtain ⟨w71, hw71⟩ := letr w7.drew
        have HD71 := hide (show Below w7.heap.size w7 w71 from by rw [hw71]; exact (Below.refl _ _).drew)
        have HWB71 := hide (HWB7.out.trans (HD71.out.mono (by omega)))
        have HV71 := hide (HR7.out.below HD71.out)
        have HQ71 := hide (show w7.drew.cell? ⟨w.heap.size, 0, none⟩ = some (.map (some b)) ∧ w7.drew.cell? ⟨Bx, 0, none⟩ = some (.int .i64 x.op) ∧ w7.drew.cell? ⟨Bx, 1, none⟩ = some (.int .i64 x.d) ∧ w7.drew.cell? ⟨Bx, 2, none⟩ = some (.int .i64 x.a) ∧ w7.drew.cell? ⟨Bx, 3, none⟩ = some (.int .i64 x.b) ∧ w7.drew.cell? ⟨Bx, 4, none⟩ = some (.int .i64 x.n) ∧ w7.drew.cell? ⟨Bx, 5, none⟩ = some (.int .i64 x.m) ∧ w7.drew.cell? ⟨Bx, 6, none⟩ = some (.slice Ax x.args.length cx) ∧ w7.drew.cell? ⟨w.heap.size + 1, 0, none⟩ = some (.slice Ak lk ck) ∧ w7.drew.cell? ⟨w.heap.size + 1, 1, none⟩ = some (.slice Ab lb cb) ∧ w7.drew.cell? ⟨w.heap.size + 1, 2, none⟩ = some (.int .i64 fp) ∧ w7.drew.cell? ⟨w.heap.size + 1, 3, none⟩ = some (.int .i64 fr) ∧ w7.drew.cell? ⟨w.heap.size + 1, 4, none⟩ = some (.slice (some ⟨bb, ob, none⟩) nls cs) ∧ w7.drew.cell? ⟨h8, 0, none⟩ = some (.slice av nv cv2) ∧ w7.drew.cell? ⟨w.heap.size + 1 + 1, 0, none⟩ = some (.int .i64 p0) from by rw [← hw71]; exact HKT.out w71 HD71.out)
        refine wpIn_region15 (fun w' => w'.cell? ⟨w.heap.size, 0, none⟩ = some (.map (some b)) ∧ w'.cell? ⟨Bx, 0, none⟩ = some (.int .i64 x.op) ∧ w'.cell? ⟨Bx, 1, none⟩ = some (.int .i64 x.d) ∧ w'.cell? ⟨Bx, 2, none⟩ = some (.int .i64 x.a) ∧ w'.cell? ⟨Bx, 3, none⟩ = some (.int .i64 x.b) ∧ w'.cell? ⟨Bx, 4, none⟩ = some (.int .i64 x.n) ∧ w'.cell? ⟨Bx, 5, none⟩ = some (.int .i64 x.m) ∧ w'.cell? ⟨Bx, 6, none⟩ = some (.slice Ax x.args.length cx) ∧ w'.cell? ⟨w.heap.size + 1, 0, none⟩ = some (.slice Ak lk ck) ∧ w'.cell? ⟨w.heap.size + 1, 1, none⟩ = some (.slice Ab lb cb) ∧ w'.cell? ⟨w.heap.size + 1, 2, none⟩ = some (.int .i64 fp) ∧ w'.cell? ⟨w.heap.size + 1, 3, none⟩ = some (.int .i64 fr) ∧ w'.cell? ⟨w.heap.size + 1, 4, none⟩ = some (.slice (some ⟨bb, ob, none⟩) nls cs) ∧ w'.cell? ⟨h8, 0, none⟩ = some (.slice av nv cv2) ∧ w'.cell? ⟨w.heap.size + 1 + 1, 0, none⟩ = some (.int .i64 p0)) 8 (by kernel_rfl) (by kernel_rfl) HQ71.out ?_
        rw [← hw71]
        have hSd := HKT.out w71 HD71.out
        clear hw71
        refine tilM 2 (Or.inr hSd) ?_
        refine tilM 5 (Or.inr hSd) ?_
        refine tilM 6 (Or.inr hSd) ?_
        refine tilT 0 hSd ?_
        refine tilD 1 [8, 3] hSd ?_
        refine tilD 4 [8, 7] hSd ?_
        refine tilM 7 (Or.inr hSd) ?_
        refine wpTil_ready (rs := [3]) (by kernel_rfl) (by simp) ?_
        refine AllTil.cons rfl (fun K hK => ?_) ?_
        · skip
          rw [if_pos (by rfl)]
          go_simp
          go_at_call 38
          (with_reducible refine (HCL.out w71 HWB71.out _ (insS x S0) HV71.out HIS.out).mono ?_)
          rintro e w8 ⟨r8, rfl, hr8, hb8⟩
          have HB8 := hide (HD71.out.trans (hb8.mono HD71.out.size))
          have HR8 := hide hr8.ws
          clear hr8 hb8
          refine hK.out _ _ (HKT.out w8 HB8.out) ?_
          clear hK K
          try clear hSd
          have hSd := HKT.out w8 HB8.out
          try simp only [tilS, Act.put]
          refine wpTil_ready (rs := [8]) (by kernel_rfl) (by simp) ?_
          refine AllTil.last rfl (by rfl) (fun K hK => ?_)
          rw [if_pos (by rfl)]
          go_simp
          go_at_call 39
          (with_reducible refine (HLE.out w8 _ (HM7.out.below HB8.out) (HWB7.out.trans (HB8.out.mono (by have := HWB7.out.size; omega))) r8 (cl0 (insS x S0)) (HCLO.out _) HR8.out).mono ?_)
          rintro e w9 ⟨rfl, hm9, hg9⟩
          have HM9 := hide hm9
          have HG9 := hide hg9
          clear hm9 hg9
          refine hK.out _ _ ?_
          clear hK K hSd
          try simp only [tilS, Act.put]
          refine wpTil_done (by kernel_rfl) ?_ _
          unfold onlyN15
          have HHR8 := hide ((HM7.out.below HB8.out).hr)
          have E8 := hide (Box.own (row := some b) (D8.out.below HB8.out) HG9.out HHR8.out)
          obtain ⟨m0, m1⟩ := E8.out.cell 0 rfl
          have m2 := E8.out.lt
          have HR9 := hide (SetV.own (HR7.out.below HB8.out) HG9.out HHR8.out)
          have ES := hide (Box.own (row := some b) (DS.out.below HB8.out) HG9.out HHR8.out)
          have E4 := hide (Box.own (row := some b) (D4.out.below HB8.out) HG9.out HHR8.out)
          have E5 := hide (Box.own (row := some b) (D5.out.below HB8.out) HG9.out HHR8.out)
          have E7 := hide (Box.own (row := some b) (D7.out.below HB8.out) HG9.out HHR8.out)
          have HGW := hide (gr15_trans (gr15_trans HGW7.out (gr15_below HB8.out)) HG9.out)
          obtain ⟨a5, c5', hr5e, -⟩ := id HR9.out
          subst hr5e
          gi_wp2
          refine ⟨(keeps15 HGW.out (by have := HB0W.out.size; omega)).trans ((KeepsOthers.setCell _ _ _).from _), ⟨(gr15_to HGW.out hbB (by omega)).setCell (p := ⟨h8, 0, none⟩) (show B ≤ h8 by omega) _, fun q => (show Box _ (h8 + 1) #[.slice Al len cl] 29 from ES.out.other (show h8 + 1 ≠ h8 by omega))⟩, ⟨⟨.slice a5 (insS x S0).length c5', (show Box _ h8 #[.slice a5 (insS x S0).length c5'] 39 from by have q := E8.out.set 0 (.slice a5 (insS x S0).length c5'); simpa using q), ⟨_, _, _, rfl⟩, ?_⟩, (show Box _ (h8 + 1) #[.slice Al len cl] 29 from ES.out.other (show h8 + 1 ≠ h8 by omega)), E4.out.other (show w.heap.size ≠ h8 by omega), E5.out.other (show w.heap.size + 1 ≠ h8 by omega), E7.out.other (show w.heap.size + 1 + 1 ≠ h8 by omega)⟩, ?_, gr15_set (gr15_trans k9 HGW.out) (p := ⟨h8, 0, none⟩) (show w.heap.size ≤ h8 by omega) _⟩
          · rw [HPS.out, HSN.out]
            exact SetV.box (v0 := .slice av nv cv2) E8.out HR9.out
          · rw [HPS.out, HSN.out]
            refine ((HM9.out.kept (w' := w9.setCell ⟨h8, 0, none⟩ _) (heap_setCell_other w9 ⟨h8, 0, none⟩ b _ (show b ≠ h8 by omega))).mono ?_)
            rw [List.length_append, HNP.out]
            simp
            omega
        exact AllTil.nil
      exact AllTil.nil
    | true =>
      rw [h68] at HSE HISE
      simp only [if_true] at HSE HISE
      have HLB := hide (fun (V : World) => one_lit12 V x.d)
      gi_wp2_with (first
        | (refine ⟨trivial, ?_⟩; gi_at_call 35; refine (CallsIn.inRound l (callsIn_wide.2 (HWI.out _ hok1 w4 _ HSV4.out A4 c4' HS4.out))).mono ?_; rintro e w5 ⟨r5, rfl, hr5, hb5⟩; have HR5 := hide (show SetV w5 r5 (insS x S0) from by rw [HISE.out]; exact hr5.ws); have HB5 := hide (HB4.out.trans (hb5.mono HB4.out.size)); clear hb5 hr5)
        | (refine ⟨trivial, ?_⟩; gi_at_call 36; refine (CallsIn.inRound l (callsIn_wide.2 (HUS.out w3 (HW5.out.trans (HB3'.out.mono (by omega)))))).mono ?_; rintro e w4 ⟨v4, rfl, ho4, hb4'⟩; obtain ⟨A4, c4', rfl, hn4, hm4', hs4⟩ := ho4.sl; have HB4 := hide (HB3'.out.trans (hb4'.mono HB3'.out.size)); have HS4 := hide hs4; have HSV4 := hide (HR3.out.below hb4'); clear hb4' ho4 hs4 hn4 hm4')
        | (refine ⟨trivial, ?_⟩; gi_at_call 34; refine (CallsIn.inRound l (callsIn_wide.2 (HWO.out _ (HB2.out.trans ((alloc1 w2 (.cells #[.int .i64 x.d] 3)).mono HB2.out.size)) _ (HLB.out w2)))).mono ?_; rintro e w3 ⟨r3, rfl, hr3, hb3⟩; have HR3 := hide hr3.ws; have HB3' := hide ((HB2.out.trans ((alloc1 w2 (.cells #[.int .i64 x.d] 3)).mono HB2.out.size)).trans (hb3.mono (by have := HB2.out.size; simp; omega))); have c3 := HKS.out w3 HB3'.out; clear hb3 hr3)
        | (refine ⟨trivial, ?_⟩; gi_at_call 33; refine (CallsIn.inRound l (callsIn_wide.2 HSE.out)).mono ?_; rintro e w2 ⟨rfl, hb2⟩; have HB2 := hide hb2; have c2 := HKS.out w2 hb2; clear hb2))
      obtain ⟨w51, hw51⟩ := letr w5.drew
      have HD51 := hide (show Below w5.heap.size w5 w51 from by rw [hw51]; exact (Below.refl _ _).drew)
      have HB51 := hide (HB5.out.trans (HD51.out.mono HB5.out.size))
      have HWB51 := hide (HW5.out.trans (HB51.out.mono (by omega)))
      have HV51 := hide (k3.below HB51.out)
      have HQ51 := hide (show w5.drew.cell? ⟨w.heap.size, 0, none⟩ = some (.map (some b)) ∧ w5.drew.cell? ⟨Bx, 0, none⟩ = some (.int .i64 x.op) ∧ w5.drew.cell? ⟨Bx, 1, none⟩ = some (.int .i64 x.d) ∧ w5.drew.cell? ⟨Bx, 2, none⟩ = some (.int .i64 x.a) ∧ w5.drew.cell? ⟨Bx, 3, none⟩ = some (.int .i64 x.b) ∧ w5.drew.cell? ⟨Bx, 4, none⟩ = some (.int .i64 x.n) ∧ w5.drew.cell? ⟨Bx, 5, none⟩ = some (.int .i64 x.m) ∧ w5.drew.cell? ⟨Bx, 6, none⟩ = some (.slice Ax x.args.length cx) ∧ w5.drew.cell? ⟨w.heap.size + 1, 0, none⟩ = some (.slice Ak lk ck) ∧ w5.drew.cell? ⟨w.heap.size + 1, 1, none⟩ = some (.slice Ab lb cb) ∧ w5.drew.cell? ⟨w.heap.size + 1, 2, none⟩ = some (.int .i64 fp) ∧ w5.drew.cell? ⟨w.heap.size + 1, 3, none⟩ = some (.int .i64 fr) ∧ w5.drew.cell? ⟨w.heap.size + 1, 4, none⟩ = some (.slice (some ⟨bb, ob, none⟩) nls cs) ∧ w5.drew.cell? ⟨h8, 0, none⟩ = some (.slice av nv cv2) ∧ w5.drew.cell? ⟨w.heap.size + 1 + 1, 0, none⟩ = some (.int .i64 p0) from by rw [← hw51]; exact HKS.out w51 HB51.out)
      refine wpIn_region15 (fun w' => w'.cell? ⟨w.heap.size, 0, none⟩ = some (.map (some b)) ∧ w'.cell? ⟨Bx, 0, none⟩ = some (.int .i64 x.op) ∧ w'.cell? ⟨Bx, 1, none⟩ = some (.int .i64 x.d) ∧ w'.cell? ⟨Bx, 2, none⟩ = some (.int .i64 x.a) ∧ w'.cell? ⟨Bx, 3, none⟩ = some (.int .i64 x.b) ∧ w'.cell? ⟨Bx, 4, none⟩ = some (.int .i64 x.n) ∧ w'.cell? ⟨Bx, 5, none⟩ = some (.int .i64 x.m) ∧ w'.cell? ⟨Bx, 6, none⟩ = some (.slice Ax x.args.length cx) ∧ w'.cell? ⟨w.heap.size + 1, 0, none⟩ = some (.slice Ak lk ck) ∧ w'.cell? ⟨w.heap.size + 1, 1, none⟩ = some (.slice Ab lb cb) ∧ w'.cell? ⟨w.heap.size + 1, 2, none⟩ = some (.int .i64 fp) ∧ w'.cell? ⟨w.heap.size + 1, 3, none⟩ = some (.int .i64 fr) ∧ w'.cell? ⟨w.heap.size + 1, 4, none⟩ = some (.slice (some ⟨bb, ob, none⟩) nls cs) ∧ w'.cell? ⟨h8, 0, none⟩ = some (.slice av nv cv2) ∧ w'.cell? ⟨w.heap.size + 1 + 1, 0, none⟩ = some (.int .i64 p0)) 10 (by kernel_rfl) (by kernel_rfl) HQ51.out ?_
      rw [← hw51]
      have hSd := HKS.out w51 HB51.out
      clear hw51
      refine tilM 6 (Or.inr hSd) ?_
      refine tilM 7 (Or.inr hSd) ?_
      refine tilT 0 hSd ?_
      refine tilT 1 hSd ?_
      refine tilD 2 [10, 4] hSd ?_
      refine tilD 3 [10, 4] hSd ?_
      refine tilD 5 [10, 9, 8] hSd ?_
      refine tilM 8 (Or.inr hSd) ?_
      refine tilM 9 (Or.inr hSd) ?_
      refine wpTil_ready (rs := [4]) (by kernel_rfl) (by simp) ?_
      refine AllTil.cons rfl (fun K hK => ?_) ?_
      · skip
        rw [if_pos (by rfl)]
        go_simp
        go_at_call 38
        (with_reducible refine (HCL.out w51 HWB51.out _ S0 HV51.out HSK.out).mono ?_)
        rintro e w6 ⟨r6, rfl, hr6, hb6⟩
        have HB6 := hide (HB51.out.trans (hb6.mono HB51.out.size))
        have HB56 := hide (HD51.out.trans (hb6.mono HD51.out.size))
        have HR6 := hide hr6.ws
        clear hr6 hb6
        refine hK.out _ _ (HKS.out w6 HB6.out) ?_
        clear hK K
        try clear hSd
        have hSd := HKS.out w6 HB6.out
        try simp only [tilS, Act.put]
        refine wpTil_ready (rs := [10]) (by kernel_rfl) (by simp) ?_
        refine AllTil.last rfl (by rfl) (fun K hK => ?_)
        rw [if_pos (by rfl)]
        go_simp
        go_at_call 37
        (with_reducible refine (HIN.out w6 HB6.out r6 (cl0 S0) (HCLO.out S0) HR6.out).mono ?_)
        rintro e w7 ⟨rfl, hm7, hg7⟩
        have HM7 := hide hm7
        have HG7 := hide hg7
        clear hm7 hg7
        refine hK.out _ _ ?_
        clear hK K hSd
        try simp only [tilS, Act.put]
        refine wpTil_done (by kernel_rfl) ?_ _
        unfold onlyN15
        have HHR6 := hide ((k8.below HB6.out).hr)
        have D4 := hide (Box.own (row := some b) (k5.below HB6.out) HG7.out HHR6.out)
        have DX := hide (Box.own (row := some b) (bX.below HB6.out) HG7.out HHR6.out)
        have D5 := hide (Box.own (row := some b) (k6.below HB6.out) HG7.out HHR6.out)
        have D7 := hide (Box.own (row := some b) (k7.below HB6.out) HG7.out HHR6.out)
        have D8 := hide (Box.own (row := some b) (Box.below (cs := #[.slice av nv cv2]) k1 HB6.out) HG7.out HHR6.out)
        have DS := hide (Box.own (row := some b) (Box.below (cs := #[.slice Al len cl]) k4 HB6.out) HG7.out HHR6.out)
        have HR7 := hide (SetV.own (HR5.out.below HB56.out) HG7.out HHR6.out)
        have HGW7 := hide (gr15_trans (gr15_below (b := b) HB6.out) HG7.out)
        have HWB7 := hide (gr15_to (gr15_trans k9 HGW7.out) hbB hB)
        have HKT := hide (fun (V : World) (hV : Below w7.heap.size w7 V) => And.intro ((D4.out.below hV).cell 0 (v := .map (some b)) rfl).1 (And.intro ((DX.out.below hV).cell 0 (v := .int .i64 x.op) rfl).1 (And.intro ((DX.out.below hV).cell 1 (v := .int .i64 x.d) rfl).1 (And.intro ((DX.out.below hV).cell 2 (v := .int .i64 x.a) rfl).1 (And.intro ((DX.out.below hV).cell 3 (v := .int .i64 x.b) rfl).1 (And.intro ((DX.out.below hV).cell 4 (v := .int .i64 x.n) rfl).1 (And.intro ((DX.out.below hV).cell 5 (v := .int .i64 x.m) rfl).1 (And.intro ((DX.out.below hV).cell 6 (v := .slice Ax x.args.length cx) rfl).1 (And.intro ((D5.out.below hV).cell 0 (v := .slice Ak lk ck) rfl).1 (And.intro ((D5.out.below hV).cell 1 (v := .slice Ab lb cb) rfl).1 (And.intro ((D5.out.below hV).cell 2 (v := .int .i64 fp) rfl).1 (And.intro ((D5.out.below hV).cell 3 (v := .int .i64 fr) rfl).1 (And.intro ((D5.out.below hV).cell 4 (v := .slice (some ⟨bb, ob, none⟩) nls cs) rfl).1 (And.intro (Box.cell (cs := #[.slice av nv cv2]) (Box.below D8.out hV) 0 rfl).1 (((D7.out.below hV).cell 0 (v := .int .i64 p0) rfl).1)))))))))))))))
        have hw7z := HWB7.out.size
        gi_wp2
        obtain ⟨w71, hw71⟩ := letr w7.drew
        have HD71 := hide (show Below w7.heap.size w7 w71 from by rw [hw71]; exact (Below.refl _ _).drew)
        have HWB71 := hide (HWB7.out.trans (HD71.out.mono (by omega)))
        have HV71 := hide (HR7.out.below HD71.out)
        have HQ71 := hide (show w7.drew.cell? ⟨w.heap.size, 0, none⟩ = some (.map (some b)) ∧ w7.drew.cell? ⟨Bx, 0, none⟩ = some (.int .i64 x.op) ∧ w7.drew.cell? ⟨Bx, 1, none⟩ = some (.int .i64 x.d) ∧ w7.drew.cell? ⟨Bx, 2, none⟩ = some (.int .i64 x.a) ∧ w7.drew.cell? ⟨Bx, 3, none⟩ = some (.int .i64 x.b) ∧ w7.drew.cell? ⟨Bx, 4, none⟩ = some (.int .i64 x.n) ∧ w7.drew.cell? ⟨Bx, 5, none⟩ = some (.int .i64 x.m) ∧ w7.drew.cell? ⟨Bx, 6, none⟩ = some (.slice Ax x.args.length cx) ∧ w7.drew.cell? ⟨w.heap.size + 1, 0, none⟩ = some (.slice Ak lk ck) ∧ w7.drew.cell? ⟨w.heap.size + 1, 1, none⟩ = some (.slice Ab lb cb) ∧ w7.drew.cell? ⟨w.heap.size + 1, 2, none⟩ = some (.int .i64 fp) ∧ w7.drew.cell? ⟨w.heap.size + 1, 3, none⟩ = some (.int .i64 fr) ∧ w7.drew.cell? ⟨w.heap.size + 1, 4, none⟩ = some (.slice (some ⟨bb, ob, none⟩) nls cs) ∧ w7.drew.cell? ⟨h8, 0, none⟩ = some (.slice av nv cv2) ∧ w7.drew.cell? ⟨w.heap.size + 1 + 1, 0, none⟩ = some (.int .i64 p0) from by rw [← hw71]; exact HKT.out w71 HD71.out)
        refine wpIn_region15 (fun w' => w'.cell? ⟨w.heap.size, 0, none⟩ = some (.map (some b)) ∧ w'.cell? ⟨Bx, 0, none⟩ = some (.int .i64 x.op) ∧ w'.cell? ⟨Bx, 1, none⟩ = some (.int .i64 x.d) ∧ w'.cell? ⟨Bx, 2, none⟩ = some (.int .i64 x.a) ∧ w'.cell? ⟨Bx, 3, none⟩ = some (.int .i64 x.b) ∧ w'.cell? ⟨Bx, 4, none⟩ = some (.int .i64 x.n) ∧ w'.cell? ⟨Bx, 5, none⟩ = some (.int .i64 x.m) ∧ w'.cell? ⟨Bx, 6, none⟩ = some (.slice Ax x.args.length cx) ∧ w'.cell? ⟨w.heap.size + 1, 0, none⟩ = some (.slice Ak lk ck) ∧ w'.cell? ⟨w.heap.size + 1, 1, none⟩ = some (.slice Ab lb cb) ∧ w'.cell? ⟨w.heap.size + 1, 2, none⟩ = some (.int .i64 fp) ∧ w'.cell? ⟨w.heap.size + 1, 3, none⟩ = some (.int .i64 fr) ∧ w'.cell? ⟨w.heap.size + 1, 4, none⟩ = some (.slice (some ⟨bb, ob, none⟩) nls cs) ∧ w'.cell? ⟨h8, 0, none⟩ = some (.slice av nv cv2) ∧ w'.cell? ⟨w.heap.size + 1 + 1, 0, none⟩ = some (.int .i64 p0)) 8 (by kernel_rfl) (by kernel_rfl) HQ71.out ?_
        rw [← hw71]
        have hSd := HKT.out w71 HD71.out
        clear hw71
        refine tilM 2 (Or.inr hSd) ?_
        refine tilM 5 (Or.inr hSd) ?_
        refine tilM 6 (Or.inr hSd) ?_
        refine tilT 0 hSd ?_
        refine tilD 1 [8, 3] hSd ?_
        refine tilD 4 [8, 7] hSd ?_
        refine tilM 7 (Or.inr hSd) ?_
        refine wpTil_ready (rs := [3]) (by kernel_rfl) (by simp) ?_
        refine AllTil.cons rfl (fun K hK => ?_) ?_
        · skip
          rw [if_pos (by rfl)]
          go_simp
          go_at_call 38
          (with_reducible refine (HCL.out w71 HWB71.out _ (insS x S0) HV71.out HIS.out).mono ?_)
          rintro e w8 ⟨r8, rfl, hr8, hb8⟩
          have HB8 := hide (HD71.out.trans (hb8.mono HD71.out.size))
          have HR8 := hide hr8.ws
          clear hr8 hb8
          refine hK.out _ _ (HKT.out w8 HB8.out) ?_
          clear hK K
          try clear hSd
          have hSd := HKT.out w8 HB8.out
          try simp only [tilS, Act.put]
          refine wpTil_ready (rs := [8]) (by kernel_rfl) (by simp) ?_
          refine AllTil.last rfl (by rfl) (fun K hK => ?_)
          rw [if_pos (by rfl)]
          go_simp
          go_at_call 39
          (with_reducible refine (HLE.out w8 _ (HM7.out.below HB8.out) (HWB7.out.trans (HB8.out.mono (by have := HWB7.out.size; omega))) r8 (cl0 (insS x S0)) (HCLO.out _) HR8.out).mono ?_)
          rintro e w9 ⟨rfl, hm9, hg9⟩
          have HM9 := hide hm9
          have HG9 := hide hg9
          clear hm9 hg9
          refine hK.out _ _ ?_
          clear hK K hSd
          try simp only [tilS, Act.put]
          refine wpTil_done (by kernel_rfl) ?_ _
          unfold onlyN15
          have HHR8 := hide ((HM7.out.below HB8.out).hr)
          have E8 := hide (Box.own (row := some b) (D8.out.below HB8.out) HG9.out HHR8.out)
          obtain ⟨m0, m1⟩ := E8.out.cell 0 rfl
          have m2 := E8.out.lt
          have HR9 := hide (SetV.own (HR7.out.below HB8.out) HG9.out HHR8.out)
          have ES := hide (Box.own (row := some b) (DS.out.below HB8.out) HG9.out HHR8.out)
          have E4 := hide (Box.own (row := some b) (D4.out.below HB8.out) HG9.out HHR8.out)
          have E5 := hide (Box.own (row := some b) (D5.out.below HB8.out) HG9.out HHR8.out)
          have E7 := hide (Box.own (row := some b) (D7.out.below HB8.out) HG9.out HHR8.out)
          have HGW := hide (gr15_trans (gr15_trans HGW7.out (gr15_below HB8.out)) HG9.out)
          obtain ⟨a5, c5', hr5e, -⟩ := id HR9.out
          subst hr5e
          gi_wp2
          refine ⟨(keeps15 HGW.out (by have := HB0W.out.size; omega)).trans ((KeepsOthers.setCell _ _ _).from _), ⟨(gr15_to HGW.out hbB (by omega)).setCell (p := ⟨h8, 0, none⟩) (show B ≤ h8 by omega) _, fun q => (show Box _ (h8 + 1) #[.slice Al len cl] 29 from ES.out.other (show h8 + 1 ≠ h8 by omega))⟩, ⟨⟨.slice a5 (insS x S0).length c5', (show Box _ h8 #[.slice a5 (insS x S0).length c5'] 39 from by have q := E8.out.set 0 (.slice a5 (insS x S0).length c5'); simpa using q), ⟨_, _, _, rfl⟩, ?_⟩, (show Box _ (h8 + 1) #[.slice Al len cl] 29 from ES.out.other (show h8 + 1 ≠ h8 by omega)), E4.out.other (show w.heap.size ≠ h8 by omega), E5.out.other (show w.heap.size + 1 ≠ h8 by omega), E7.out.other (show w.heap.size + 1 + 1 ≠ h8 by omega)⟩, ?_, gr15_set (gr15_trans k9 HGW.out) (p := ⟨h8, 0, none⟩) (show w.heap.size ≤ h8 by omega) _⟩
          · rw [HPS.out, HSN.out]
            exact SetV.box (v0 := .slice av nv cv2) E8.out HR9.out
          · rw [HPS.out, HSN.out]
            refine ((HM9.out.kept (w' := w9.setCell ⟨h8, 0, none⟩ _) (heap_setCell_other w9 ⟨h8, 0, none⟩ b _ (show b ≠ h8 by omega))).mono ?_)
            rw [List.length_append, HNP.out]
            simp
            omega
        exact AllTil.nil
      exact AllTil.nil
end Go.Proofs.YteoopilmdlhkhaaDoor
